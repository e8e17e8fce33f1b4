/- The edges of a function's blocks; l3Edges of the model. -/
import Derived.Test.YtgboaaccdfaoiaaEdge
import Derived.Test.YtgboaaccdfaoiaaReachM
import Derived.Deep.AppendLies
namespace Go.Proofs.Ytgboaaccdfaoiaa
open Go.ChangeShapes Go.WideShapes Go.ChangeAt Go.RowKit Go.Joins

/-- The edges of the first k blocks. -/
def edgesK (bs : List BlockD) (k : Nat) : List MoveD := (List.range k).flatMap fun (i : Nat) => (scF bs (i : Int)).map fun t => ⟨(i : Int), t⟩
def edgesOf (bs : List BlockD) : List MoveD := edgesK bs bs.length
theorem edgesK_zero (bs : List BlockD) : edgesK bs 0 = [] := rfl
theorem edgesK_succ (bs : List BlockD) (k : Nat) : edgesK bs (k + 1) = edgesK bs k ++ (scF bs k).map fun t => ⟨(k : Int), t⟩ := by
  simp [edgesK, List.range_succ, List.flatMap_append]
theorem scF_len (bs : List BlockD) (x : Int) : (scF bs x).length ≤ 2 := by
  unfold scF
  split
  · exact toL_len _ _ _
  · simp
theorem edgesK_len (bs : List BlockD) : ∀ k, (edgesK bs k).length ≤ 2 * k
  | 0 => by simp [edgesK_zero]
  | k + 1 => by
    rw [edgesK_succ, List.length_append, List.length_map]
    have := edgesK_len bs k
    have := scF_len bs k
    omega
theorem take_map_snoc {us : List Int} {m : Nat} {u : Int} (h : us[m]? = some u) (g : Int → MoveD) : (us.take (m + 1)).map g = (us.take m).map g ++ [g u] := by
  rw [List.take_add_one, h]; simp

theorem info_edge : (Try.prog.info? 51).map (fun i => (i.zero, i.size, i.bytes)) = some (some (.agg #[.int .i64 0, .int .i64 0]), 2, 16) := by kernel_rfl

theorem edge_news (w : World) (x y : Int) : ∀ j u, [Value.int .i64 x, Value.int .i64 y][j]? = some u → (w.alloc (.cells #[.int .i64 x, .int .i64 y] 51)).cell? ((⟨w.heap.size, 0, none⟩ : Addr).add j) = some u := World.news_of_block (heap_alloc_new w _)

theorem wpList_append_edge {ops : Array Oper} {rest : List Oper} {o : Oper} {a : Act} {Q : Exit → Act → World → Prop} (hgd : o.guard = none) (s x : Operand)
    (ho : o.op = .call { callee := .builtin .append, args := #[s, x], argTypes := #[48, 48] })
    (B : Nat) (v : Value) (es : List MoveD) (p q : Int) (w : World) (g : Nat) (hg : w.heap.size = g) (hs : a.eval s = v) (hown : OE w B v es) (hx : a.eval x = .slice (some ⟨g, 0, none⟩) 1 1) (hb : B ≤ w.heap.size) (hlen : es.length ≤ 1048576)
    (h : ∀ v' w', OE w' B v' (es ++ [⟨p, q⟩]) → w.grownBy w' v.ownBlock → (v'.ownBlock = v.ownBlock ∨ ∃ k, v'.ownBlock = some k ∧ w.heap.size ≤ k) → wpList Try.prog ops Q rest (a.put o.dst v') w') :
    wpList Try.prog ops Q (o :: rest) a (w.alloc (.cells #[.int .i64 p, .int .i64 q] 51)) := by
  subst hg
  obtain ⟨i0, hi, hz0, hz1, hz2⟩ := info_parts info_edge
  refine wpList_append_own_at (P := Try.prog) _ hgd s x _ ho B 51 i0 (.agg #[.int .i64 0, .int .i64 0]) 2 16 Try.underlying48 hi hz0 hz1 hz2 rfl (by decide) v es.length (fl es) hs (World.ownsRow.alloc hown _) ⟨w.heap.size, 0, none⟩ 1 1 [.int .i64 p, .int .i64 q] hx rfl (edge_news w p q) (by simp [Value.oneCell']) (by rw [maxLen_is]; omega) (by omega) (by simp; omega) ?_
  intro v' w' hown' hgr _ hat
  refine h v' w' ?_ ((World.grownBy_alloc w _ _).trans hgr) ?_
  · unfold OE
    rw [fl_append, List.length_append]
    exact hown'
  · rcases hat with h | h
    · exact .inl h
    · exact .inr ⟨_, h, by simp⟩

theorem OE_lit0 (w : World) {B g : Nat} (hg : w.heap.size = g) (hB : B ≤ g) : OE (w.alloc (.cells #[] 51)) B (.slice (some ⟨g, 0, none⟩) 0 0) [] := by
  subst hg
  exact World.ownsRow_lit (base := B) (e := 51) (size := 2) w #[] 0 hB (by simp) rfl

def GivesEs (es : List MoveD) (w : World) (e : Ending) (w' : World) : Prop := ∃ r, e = .returned r ∧ OE w' w.heap.size r es ∧ Below w.heap.size w w'

set_option maxRecDepth 10000 in
set_option maxHeartbeats 2000000 in
theorem l3Edges_any (f : FunD) (v : Value) (w : World) (Z : Zn) (hv : EFun w Z f v) (hD : ∀ b, Z.D b → b < w.heap.size) (hn : f.blocks.length ≤ 1000) :
    Calls Try.prog 73 #[v] w (GivesEs (edgesOf f.blocks) w) := by
  obtain ⟨u, rfl, hle, A, c, rfl, hx⟩ := hv
  go_enter Try.func73, Try.ntmps73
  go_wp2_with fail
  go_loopw [3, 4, 5, 6] (fun ov i _ _ wr => ∃ k : Nat, k ≤ f.blocks.length ∧ i = .int .i64 k ∧ Hid (Below (w.heap.size + 1) (w.alloc (.cells #[.int .i64 f.params, .int .i64 f.names, .slice A f.blocks.length c] 26)) wr) ∧ Hid (OE wr (w.heap.size + 1) ov (edgesK f.blocks k))) (fun _ i _ _ _ => f.blocks.length - (intOf i).toNat)
  case atStart => exact ⟨0, Nat.zero_le _, rfl, (Below.refl _ _).alloc (by simp) _, OE_lit0 _ (by simp) (by omega)⟩
  case round =>
    obtain ⟨k, hk, rfl, HB, HO⟩ := hrel
    have HB0 : Hid (Below w.heap.size w wr) := ((Below.refl _ _).alloc (Nat.le_refl _) _).trans (HB.out.mono (by omega))
    have hzw : w.heap.size + 1 ≤ wr.heap.size := by have := HB.out.size; simp at this; omega
    have f2 : wr.cell? ⟨w.heap.size, 2, none⟩ = some (.slice A f.blocks.length c) := (HB.out.cell (p := ⟨w.heap.size, 2, none⟩) (by simp)).trans (by go_simp)
    have HO1 : Hid (OE wr (w.heap.size + 1) u3 (edgesK f.blocks k)) := HO.out
    by_cases hlt : k < f.blocks.length
    case neg =>
      obtain rfl : k = f.blocks.length := by omega
      go_wp2
      go_ret
      exact ⟨_, rfl, World.ownsRow.mono HO1.out (by omega), HB0.out⟩
    have hxk : f.blocks[k]? = some f.blocks[k] := List.getElem?_eq_getElem hlt
    generalize f.blocks[k] = x at hxk
    have hkl : (k : Int) < (f.blocks.length : Int) := by omega
    have hk0 : 0 ≤ (k : Int) := by omega
    obtain ⟨b, off, rfl, hDb, hrow⟩ := hx (by intro h; rw [h] at hlt; simp at hlt)
    obtain ⟨cs, hE, hcs⟩ := hrow k x hxk
    have hbl := hD b hDb
    obtain ⟨_, _, _, _, rfl, _⟩ := hE
    have c4 : wr.cell? ⟨b, off + k * 8 + 4, none⟩ = some (.int .i64 x.fin.k) := (HB0.out.cell (p := ⟨b, _, none⟩) hbl).trans (hcs 4 _ rfl).1
    have c5 : wr.cell? ⟨b, off + k * 8 + 4 + 1, none⟩ = some (.int .i64 x.fin.a) := (HB0.out.cell (p := ⟨b, _, none⟩) hbl).trans (hcs 5 _ rfl).1
    have c6 : wr.cell? ⟨b, off + k * 8 + 4 + 2, none⟩ = some (.int .i64 x.fin.t) := (HB0.out.cell (p := ⟨b, _, none⟩) hbl).trans (hcs 6 _ rfl).1
    have c7 : wr.cell? ⟨b, off + k * 8 + 4 + 3, none⟩ = some (.int .i64 x.fin.l) := (HB0.out.cell (p := ⟨b, _, none⟩) hbl).trans (hcs 7 _ rfl).1
    have HSK := Lib.hid (scF_at hxk)
    have HES := Lib.hid (edgesK_succ f.blocks k)
    clear hcs hx hxk hrow HO
    go_wp2_with fail
    refine (l2Succs_any _ _ _ _ _).mono ?_
    rintro e w1 ⟨r, rfl, hr, hb1⟩
    have hz1 := hb1.size
    have HB1 := Lib.hid (HB.out.trans (hb1.mono hzw))
    have hlo : Hid (∀ kk, u3.ownBlock = some kk → kk < wr.heap.size ∨ w1.heap.size ≤ kk) := fun kk hkk => .inl (HO1.out.lt kk hkk).2
    have HOw := Lib.hid (HO1.out.below hb1 fun kk hkk => (HO1.out.lt kk hkk).2)
    rw [← HSK.out] at hr
    generalize hus : scF f.blocks k = us at hr
    have HUS := Lib.hid hus
    have hul : us.length ≤ 2 := by rw [← hus]; exact scF_len _ _
    have HU1 := Lib.hid hr
    obtain ⟨lo, hlo'⟩ : ∃ lo, lo = wr.heap.size := ⟨_, rfl⟩
    rw [← hlo'] at HU1 hlo hz1
    have hlw : w.heap.size + 1 ≤ lo := by omega
    obtain ⟨_, A5, c5', rfl, _⟩ := hr.ri
    have HU2 : Hid (OI w1 lo (.slice A5 us.length c5') us) := HU1.out
    clear hb1 hus hr c4 c5 c6 c7 f2 HB HB0 hzw hlo' HU1 HSK
    go_wp2_with fail
    go_loopw [3, 6] (fun ov i wq => ∃ m : Nat, m ≤ us.length ∧ i = .int .i64 m ∧ Hid (Below (w.heap.size + 1) (w.alloc (.cells #[.int .i64 f.params, .int .i64 f.names, .slice (some ⟨b, off, none⟩) f.blocks.length c] 26)) wq) ∧ Hid (OE wq (w.heap.size + 1) ov (edgesK f.blocks k ++ (us.take m).map fun t => ⟨(k : Int), t⟩)) ∧ w1.heap.size ≤ wq.heap.size ∧ Hid (∀ kk, ov.ownBlock = some kk → kk < lo ∨ w1.heap.size ≤ kk) ∧ Hid (OI wq lo (.slice A5 us.length c5') us)) (fun _ i _ => us.length - (intOf i).toNat)
    case atStart => exact ⟨0, Nat.zero_le _, rfl, HB1.out, (by rw [Hid, List.take_zero, List.map_nil, List.append_nil]; exact HOw.out), Nat.le_refl _, hlo.out, HU2.out⟩
    case round =>
      obtain ⟨m, hm, rfl, HB, HO, hsz, HAV, HU⟩ := hrel
      by_cases hml : m < us.length
      case neg =>
        obtain rfl : m = us.length := by omega
        have HO2 : Hid (OE wr (w.heap.size + 1) u3 (edgesK f.blocks (k + 1))) := by
          rw [HES.out, HUS.out]
          have := HO.out
          rw [List.take_length] at this
          exact this
        go_wp2
        go_roundw
        case rel => exact ⟨k + 1, by omega, by go_num, HB.out, HO2.out⟩
        case measure => simp [intOf]; omega
      have hum : us[m]? = some us[m] := List.getElem?_eq_getElem hml
      generalize us[m] = u at hum
      obtain ⟨_, A5', c5'', he5, hux⟩ := HU.out.ri
      injection he5 with q1 _ q2
      subst q1 q2
      obtain ⟨b', off', rfl, hcell⟩ := hux (by rintro rfl; simp at hml)
      have p0 := hcell m _ hum
      have hb5 := HU.out.lt b' rfl
      have HTM := Lib.hid (take_map_snoc hum fun t => ⟨(k : Int), t⟩)
      have hel : (edgesK f.blocks k ++ (us.take m).map fun t => (⟨(k : Int), t⟩ : MoveD)).length ≤ 1048576 := by
        have := edgesK_len f.blocks k
        simp only [List.length_append, List.length_map, List.length_take]
        omega
      generalize hes : edgesK f.blocks k ++ (us.take m).map (fun t => (⟨(k : Int), t⟩ : MoveD)) = es at HO hel
      have HESM := Lib.hid hes
      have HO' : Hid (OE wr (w.heap.size + 1) u3 es) := HO.out
      obtain ⟨A6, c6, rfl⟩ := HO.out.form
      have hB1 : w.heap.size + 1 ≤ wr.heap.size := by omega
      clear hcell hux hum hes
      go_wp2_with (at_builtin; go_must (refine wpList_append_edge rfl (.tmp 28) (.tmp 35) rfl (w.heap.size + 1) _ es k u wr wr.heap.size rfl rfl HO'.out rfl hB1 hel ?_; intro v' w9 hown9 hg9 hat9; have HO9 := Lib.hid hown9; have HG9 := Lib.hid hg9; have HA9 := Lib.hid hat9; clear hown9 hg9 hat9))
      have hg9 := HG9.out
      have hz9 := hg9.size
      have HB9 : Hid (Below (w.heap.size + 1) (w.alloc (.cells #[.int .i64 f.params, .int .i64 f.names, .slice (some ⟨b, off, none⟩) f.blocks.length c] 26)) w9) := HB.out.grown hg9 hB1 fun kk hkk => (HO'.out.lt kk hkk).1
      have HU9 := Lib.hid (HU.out.grown hg9 (.inr fun e => by
        have h1 := HU2.out.lt b' rfl
        rcases HAV.out b' e.symm with h | h <;> omega))
      have HAV9 : Hid (∀ kk, v'.ownBlock = some kk → kk < lo ∨ w1.heap.size ≤ kk) := fun kk hkk => by
        rcases HA9.out with h | ⟨k9, h, hk9⟩
        · exact HAV.out kk (h.symm.trans hkk)
        · rw [h] at hkk
          injection hkk with hkk
          exact .inr (by omega)
      go_roundw
      case rel => exact ⟨m + 1, by omega, by go_num, HB9.out, by rw [HTM.out, ← List.append_assoc, HESM.out]; exact HO9.out, by omega, HAV9.out, HU9.out⟩
      case measure => simp [intOf]; omega

end Go.Proofs.Ytgboaaccdfaoiaa
