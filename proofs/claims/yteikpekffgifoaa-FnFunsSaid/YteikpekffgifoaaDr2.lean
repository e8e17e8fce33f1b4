/- l3Reach and l4Dom of the model: that they answer, wherever all targets are there. -/
import Derived.Test.YteikpekffgifoaaDr1
import Derived.Test.YteikpekffgifoaaL2b
import Derived.WalkSmall
namespace Go.Proofs.Yteikpekffgifoaa
open Go.ChangeShapes Go.WideShapes Go.ChangeAt Go.RowKit Go.Joins

def cnt (f : Nat → Bool) (n : Nat) : Nat := ((List.range n).filter f).length
theorem cnt_succ (f : Nat → Bool) (n : Nat) : cnt f (n + 1) = cnt f n + if f n = true then 1 else 0 := by
  unfold cnt
  rw [List.range_succ, List.filter_append, List.length_append]
  congr 1
  by_cases h : f n = true <;> simp [h]
theorem cnt_le (f : Nat → Bool) (n : Nat) : cnt f n ≤ n := by
  unfold cnt
  exact Nat.le_trans (List.length_filter_le _ _) (by simp)
theorem cnt_congr {f f' : Nat → Bool} : ∀ {n : Nat}, (∀ j, j < n → f j = f' j) → cnt f n = cnt f' n
  | 0, _ => rfl
  | n + 1, h => by rw [cnt_succ, cnt_succ, cnt_congr (n := n) fun j hj => h j (by omega), h n (by omega)]
theorem cnt_drop {f f' : Nat → Bool} {k : Nat} (hf : f k = true) (hf' : f' k = false) (h : ∀ j, j ≠ k → f' j = f j) : ∀ {n : Nat}, k < n → cnt f' n + 1 = cnt f n
  | 0, hk => absurd hk (by omega)
  | n + 1, hk => by
    rw [cnt_succ, cnt_succ]
    by_cases e : k = n
    · subst e
      rw [cnt_congr (f := f') (f' := f) (n := k) fun j hj => h j (by omega), hf, hf']
      simp
    · have := cnt_drop hf hf' h (n := n) (by omega)
      rw [h n (by omega)]
      omega

def isF : Option Value → Bool
  | some (.bool false) => true
  | _ => false
/-- How many of the n cells of block q are false. -/
def uns (w : World) (q n : Nat) : Nat := cnt (fun k => isF (w.cell? ⟨q, k, none⟩)) n
theorem uns_set {w : World} {q n k : Nat} (hc : w.cell? ⟨q, k, none⟩ = some (.bool false)) (hk : k < n) : uns (w.setCell ⟨q, k, none⟩ (.bool true)) q n + 1 = uns w q n := by
  refine cnt_drop (k := k) (by rw [hc]; rfl) (by rw [World.cell?_setCell_same w _ _ hc]; rfl) (fun j hj => ?_) hk
  rw [World.cell?_setCell_other _ _ _ _ (by intro e; injection e with _ e; omega)]
theorem uns_same {w w' : World} {q n : Nat} (h : w'.heap[q]? = w.heap[q]?) : uns w' q n = uns w q n := cnt_congr fun j _ => by rw [World.cell?_of_block (a := ⟨q, j, none⟩) h]
def lenOf : Value → Nat
  | .slice _ n _ => n
  | _ => 0

/-- Block q holds n bools. -/
def BoolB (w : World) (q n : Nat) : Prop := ∃ cur : Array Value, w.heap[q]? = some (.cells cur 4 (0, 0)) ∧ cur.size = n ∧ ∀ k, k < n → ∃ b : Bool, cur[k]? = some (.bool b)
theorem BoolB.cell {w : World} {q n k : Nat} (h : BoolB w q n) (hk : k < n) : ∃ b : Bool, w.cell? ⟨q, k, none⟩ = some (.bool b) := by
  obtain ⟨cur, h1, _, h3⟩ := h
  obtain ⟨b, hb⟩ := h3 k hk
  exact ⟨b, (cell_of_row w q k cur _ (0, 0) h1).trans hb⟩
theorem BoolB.frozen {w : World} {q n : Nat} (h : BoolB w q n) (k : Nat) : w.frozen? ⟨q, k, none⟩ = false := by
  obtain ⟨cur, h1, _⟩ := h
  simp [World.frozen?, h1]
theorem BoolB.keep {w w' : World} {q n : Nat} (h : BoolB w q n) (hw : w'.heap[q]? = w.heap[q]?) : BoolB w' q n := by
  obtain ⟨cur, h1, h2⟩ := h
  exact ⟨cur, hw.trans h1, h2⟩
theorem BoolB.lt {w : World} {q n : Nat} (h : BoolB w q n) : q < w.heap.size := by
  obtain ⟨cur, h1, _⟩ := h
  exact (Array.getElem?_eq_some_iff.1 h1).1
theorem BoolB.set {w : World} {q n k : Nat} (h : BoolB w q n) (b : Bool) : BoolB (w.setCell ⟨q, k, none⟩ (.bool b)) q n := by
  obtain ⟨cur, h1, h2, h3⟩ := h
  refine ⟨cur.setIfInBounds k (.bool b), heap_setCell_same w q k cur _ _ h1, by simpa using h2, fun j hj => ?_⟩
  rw [Array.getElem?_setIfInBounds]
  by_cases e : k = j
  · subst e
    rw [if_pos rfl, if_pos (by omega)]
    exact ⟨b, rfl⟩
  · rw [if_neg e]; exact h3 j hj
theorem BoolB.start (w : World) (n : Nat) : BoolB (w.alloc (.cells (madeCells #[.bool false] n) 4)) w.heap.size n := by
  refine ⟨_, heap_alloc_new w _, size_madeCells _ _, fun k hk => ⟨false, ?_⟩⟩
  have h : (madeCells #[.bool false] n)[k]? = some ((madeCells #[.bool false] n)[k]'(by rw [size_madeCells]; exact hk)) := Array.getElem?_eq_getElem _
  rw [h]
  congr 1
  have hv : (madeCells #[.bool false] n).toList[k]? = some ((madeCells #[.bool false] n)[k]'(by rw [size_madeCells]; exact hk)) := by rw [Array.getElem?_toList]; exact h
  rw [toList_madeCells_one] at hv
  exact (List.mem_replicate.1 (List.mem_of_getElem? hv)).2

theorem BoolB.start1 (w : World) (n : Nat) : BoolB (w.alloc (.cells ((madeCells #[.bool false] n).setIfInBounds 0 (.bool true)) 4)) w.heap.size n := by
  obtain ⟨cur, h1, h2, h3⟩ := BoolB.start w n
  rw [heap_alloc_new] at h1
  injection h1 with h1
  injection h1 with h1
  subst h1
  refine ⟨_, heap_alloc_new w _, by simpa using h2, fun k hk => ?_⟩
  rw [Array.getElem?_setIfInBounds]
  by_cases e : 0 = k
  · rw [if_pos e, if_pos (by omega)]; exact ⟨true, rfl⟩
  · rw [if_neg e]; exact h3 k hk

theorem wpList_append_intq {ops : Array Oper} {rest : List Oper} {o : Oper} {a : Act} {Q : Exit → Act → World → Prop} (hgd : o.guard = none) (s x : Operand)
    (ho : o.op = .call { callee := .builtin .append, args := #[s, x], argTypes := #[36, 36] })
    (B : Nat) (v : Value) (xs : List Int) (y : Int) (w : World) (q : Nat) (hq : w.heap.size = q) (hs : a.eval s = v) (hown : OI w B v xs) (hx : a.eval x = .slice (some ⟨q, 0, none⟩) 1 1) (hb : B ≤ w.heap.size) (hlen : xs.length ≤ 1048576)
    (h : ∀ v' w', OI w' B v' (xs ++ [y]) → w.grownBy w' v.ownBlock → (v'.ownBlock = v.ownBlock ∨ ∃ k, v'.ownBlock = some k ∧ w.heap.size ≤ k) → wpList Try.prog ops Q rest (a.put o.dst v') w') :
    wpList Try.prog ops Q (o :: rest) a (w.alloc (.cells #[.int .i64 y] 2)) := by
  subst hq
  exact wpList_append_int hgd s x ho B v xs y w hs hown hx hb hlen h

def TargetsP (f : FunD) : Prop := 1 ≤ f.blocks.length ∧ ∀ (i : Nat) x, f.blocks[i]? = some x → EndT f.blocks.length x.fin
def GivesBools (n : Nat) (w : World) (e : Ending) (w' : World) : Prop := ∃ q, e = .returned (.slice (some ⟨q, 0, none⟩) n n) ∧ BoolB w' q n ∧ w.heap.size ≤ q ∧ Below w.heap.size w w'

theorem info_bool : (Try.prog.info? 4).map (fun i => (i.zero, i.size, i.bytes)) = some (some (.bool false), 1, 1) := by kernel_rfl

set_option maxRecDepth 10000 in
set_option maxHeartbeats 2000000 in
theorem l3Reach_any (f : FunD) (v : Value) (j : Int) (w : World) (Z : Zn) (hv : EFun w Z f v) (hD : ∀ b, Z.D b → b < w.heap.size) (ht : TargetsP f) (hn : f.blocks.length ≤ 1000) :
    Calls Try.prog 58 #[v, .int .i64 j] w (GivesBools f.blocks.length w) := by
  obtain ⟨u, rfl, hle, A, c, rfl, hx⟩ := hv
  obtain ⟨h1, HT⟩ := ht
  replace HT := Lib.hid HT
  obtain ⟨i0, hi, hz0, hz1, hz2⟩ := info_parts info_bool
  have hmk := fun W => run_make_rowN (P := Try.prog) 46 4 i0 _ Try.underlying46 hi hz0 .i64 .i64 f.blocks.length f.blocks.length (Nat.le_refl _) (by rw [hz2]; omega) (by omega) W
  rw [hz1] at hmk
  clear hi hz0 hz1 hz2
  have h1' : 0 < f.blocks.length := by omega
  have h1'' : 0 < (f.blocks.length : Int) := by omega
  have hB1 := Lib.hid (((Below.refl w.heap.size w).alloc (Nat.le_refl _) (.cells #[.int .i64 f.params, .int .i64 f.names, .slice A f.blocks.length c] 26)).alloc (by simp) (.cells (madeCells #[.bool false] f.blocks.length) 4))
  have hst := BoolB.start (w.alloc (.cells #[.int .i64 f.params, .int .i64 f.names, .slice A f.blocks.length c] 26)) f.blocks.length
  have hs1 : (w.alloc (.cells #[.int .i64 f.params, .int .i64 f.names, .slice A f.blocks.length c] 26)).heap.size = w.heap.size + 1 := by simp
  rw [hs1] at hst
  have HST := Lib.hid hst
  clear hst hs1
  by_cases hj : j = 0
  · subst hj
    go_enter Try.func58, Try.ntmps58
    go_wp2
    go_ret
    exact ⟨w.heap.size + 1, rfl, HST.out, by omega, hB1.out⟩
  have hb : (j == 0) = false := by simpa using hj
  clear hj
  obtain ⟨bb, hcell⟩ := HST.out.cell h1'
  have hfz := HST.out.frozen 0
  go_enter Try.func58, Try.ntmps58
  go_wp2
  clear hcell hfz bb HST
  have hgo : (w.alloc (.cells #[.int .i64 f.params, .int .i64 f.names, .slice A f.blocks.length c] 26)).heap.size = w.heap.size + 1 := by simp
  have hbs := BoolB.start1 (w.alloc (.cells #[.int .i64 f.params, .int .i64 f.names, .slice A f.blocks.length c] 26)) f.blocks.length
  rw [hgo] at hbs
  have HBS := Lib.hid hbs
  clear hbs hgo
  go_loopw [6, 7, 8, 9] (fun q _ _ _ wr => ∃ ts : List Int, Hid (OI wr (w.heap.size + 2) q ts) ∧ Hid (∀ t ∈ ts, 0 ≤ t ∧ t < (f.blocks.length : Int)) ∧ Hid (BoolB wr (w.heap.size + 1) f.blocks.length) ∧ Hid (Below (w.heap.size + 1) (w.alloc (.cells #[.int .i64 f.params, .int .i64 f.names, .slice A f.blocks.length c] 26)) wr) ∧ 2 * uns wr (w.heap.size + 1) f.blocks.length + ts.length ≤ 3000) (fun q _ _ _ wr => 2 * uns wr (w.heap.size + 1) f.blocks.length + lenOf q)
  case atStart =>
    refine ⟨[0], ?_, fun t ht => ?_, HBS.out.keep (Below.heap_alloc _ _ _ (by simp)), ((Below.refl _ _).alloc (by simp) _).alloc (by simp) _, ?_⟩
    · exact OI_lit1 _ 0 (by simp) (Nat.le_refl _)
    · simp at ht; omega
    · simp only [List.length_singleton]
      unfold uns
      exact Nat.le_trans (Nat.add_le_add_right (Nat.mul_le_mul_left 2 (cnt_le _ _)) 1) (by omega)
  case round =>
    obtain ⟨ts, HO, HTS, HBB, HB, hcap3⟩ := hrel
    have HB0 : Hid (Below w.heap.size w wr) := ((Below.refl _ _).alloc (Nat.le_refl _) _).trans (HB.out.mono (by omega))
    have hzw : w.heap.size + 1 ≤ wr.heap.size := by have := HB.out.size; simp at this; omega
    have f2 : wr.cell? ⟨w.heap.size, 2, none⟩ = some (.slice A f.blocks.length c) := (HB.out.cell (p := ⟨w.heap.size, 2, none⟩) (by simp)).trans (by go_simp)
    have hts : ts = [] ∨ ∃ us t, ts = us ++ [t] := by
      rcases List.eq_nil_or_concat ts with h | ⟨us, t, h⟩
      · exact .inl h
      · exact .inr ⟨us, t, by rw [h, List.concat_eq_append]⟩
    rcases hts with rfl | ⟨us, t, rfl⟩
    · obtain ⟨_, A6, c6, rfl, _⟩ := HO.out.ri
      go_wp2
      go_ret
      exact ⟨w.heap.size + 1, rfl, HBB.out, by omega, HB0.out⟩
    have hlen : (us ++ [t]).length = us.length + 1 := by simp
    have HO1 := HO.out
    unfold OI at HO1
    rw [hlen] at HO1
    obtain ⟨gt, cap, rfl, hgt1, hgt2⟩ := World.ownsRow.form HO1 (by omega)
    have hct : wr.cell? ⟨gt, us.length, none⟩ = some (.int .i64 t) := by
      rw [World.ownsRow.cellAt HO1 us.length (by omega)]
      simp [iv]
    have HPO : Hid (OI wr (w.heap.size + 2) (.slice (some ⟨gt, 0, none⟩) us.length cap) us) := by
      refine ownsRow_pop (last := [iv t]) (by simp) ?_
      have := HO1
      rw [List.map_append] at this
      exact this
    have ht := HTS.out t (by simp)
    have HTU : Hid (∀ t ∈ us, 0 ≤ t ∧ t < (f.blocks.length : Int)) := fun t ht => HTS.out t (by simp [ht])
    have hcapb : us.length + 1 ≤ cap ∧ cap ≤ 9223372036854775807 := by
      rcases HO1.2 with ⟨h', _⟩ | ⟨_, _, _, h', _, _, h5, h6, _⟩
      · cases h'
      · simp only [Value.slice.injEq, Option.some.injEq, Addr.mk.injEq, and_true, true_and] at h'
        obtain ⟨_, rfl⟩ := h'
        rw [maxLen_is] at h6
        exact ⟨h5, h6⟩
    obtain ⟨k, rfl⟩ : ∃ k : Nat, t = k := ⟨t.toNat, by omega⟩
    have hk : k < f.blocks.length := by omega
    have hk' : (k : Int) < (f.blocks.length : Int) := by omega
    have hk0 : 0 ≤ (k : Int) := by omega
    have hxk : f.blocks[k]? = some f.blocks[k] := List.getElem?_eq_getElem hk
    generalize f.blocks[k] = x at hxk
    obtain ⟨b, off, rfl, hDb, hrow⟩ := hx (by intro h; rw [h] at hk; simp at hk)
    obtain ⟨cs, hE, hcs⟩ := hrow k x hxk
    have hbl := hD b hDb
    obtain ⟨_, _, _, _, rfl, _⟩ := hE
    have c4 : wr.cell? ⟨b, off + k * 8 + 4, none⟩ = some (.int .i64 x.fin.k) := (HB0.out.cell (p := ⟨b, _, none⟩) hbl).trans (hcs 4 _ rfl).1
    have c5 : wr.cell? ⟨b, off + k * 8 + 4 + 1, none⟩ = some (.int .i64 x.fin.a) := (HB0.out.cell (p := ⟨b, _, none⟩) hbl).trans (hcs 5 _ rfl).1
    have c6 : wr.cell? ⟨b, off + k * 8 + 4 + 2, none⟩ = some (.int .i64 x.fin.t) := (HB0.out.cell (p := ⟨b, _, none⟩) hbl).trans (hcs 6 _ rfl).1
    have c7 : wr.cell? ⟨b, off + k * 8 + 4 + 3, none⟩ = some (.int .i64 x.fin.l) := (HB0.out.cell (p := ⟨b, _, none⟩) hbl).trans (hcs 7 _ rfl).1
    have HET : Hid (EndT f.blocks.length x.fin) := HT.out k x hxk
    clear hcs hx hxk hrow HO HO1 HTS ht
    go_wp2_with fail
    refine (l2Succs_any _ _ _ _ _).mono ?_
    rintro e w1 ⟨r, rfl, hr, hb1⟩
    have hz1 := hb1.size
    have hlo : Hid (∀ kk, (Value.slice (some ⟨gt, 0, none⟩) us.length cap).ownBlock = some kk → kk < wr.heap.size ∨ w1.heap.size ≤ kk) := fun kk hkk => .inl (HPO.out.lt kk hkk).2
    have HP1 := Lib.hid (HPO.out.below hb1 fun kk hkk => (HPO.out.lt kk hkk).2)
    have HBB1 := Lib.hid (HBB.out.keep (hb1.block _ HBB.out.lt))
    have HB1 := Lib.hid (HB.out.trans (hb1.mono hzw))
    have hun1 : uns w1 (w.heap.size + 1) f.blocks.length = uns wr (w.heap.size + 1) f.blocks.length := uns_same (hb1.block _ HBB.out.lt)
    have HL1 := Lib.hid hr
    have hll := toL_len x.fin.k x.fin.t x.fin.l
    have HEL : Hid (∀ u ∈ toL x.fin.k x.fin.t x.fin.l, 0 ≤ u ∧ u < (f.blocks.length : Int)) := HET.out
    obtain ⟨M, hM⟩ : ∃ M, M = 2 * uns wr (w.heap.size + 1) f.blocks.length + (us.length + 1) := ⟨_, rfl⟩
    rw [hlen] at hcap3
    have hM3 : M ≤ 3000 := by omega
    have hM1 : 2 * uns w1 (w.heap.size + 1) f.blocks.length + us.length + 1 ≤ M := by omega
    have HM := Lib.hid hM
    obtain ⟨lo, hlo'⟩ : ∃ lo, lo = wr.heap.size := ⟨_, rfl⟩
    have hzlo : w.heap.size + 2 ≤ lo := by have := HBB.out.lt; omega
    rw [← hlo'] at HL1 hlo hz1
    generalize toL x.fin.k x.fin.t x.fin.l = ls at hll HEL HL1
    clear hr
    obtain ⟨_, A8, c8, rfl, _⟩ := HL1.out.ri
    clear hb1 hM hlo' hlen hcap3 HPO HBB HB HET c4 c5 c6 c7 hct f2 hun1 hzw
    have HL2 : Hid (OI w1 lo (.slice A8 ls.length c8) ls) := HL1.out
    clear HL1
    go_wp2_with fail
    go_loopw [6, 9] (fun q i wq => ∃ (m : Nat) (ts : List Int), m ≤ ls.length ∧ i = .int .i64 m ∧ Hid (OI wq (w.heap.size + 2) q ts) ∧ Hid (∀ t ∈ ts, 0 ≤ t ∧ t < (f.blocks.length : Int)) ∧ Hid (BoolB wq (w.heap.size + 1) f.blocks.length) ∧ Hid (Below (w.heap.size + 1) (w.alloc (.cells #[.int .i64 f.params, .int .i64 f.names, .slice (some ⟨b, off, none⟩) f.blocks.length c] 26)) wq) ∧ w1.heap.size ≤ wq.heap.size ∧ Hid (∀ kk, q.ownBlock = some kk → kk < lo ∨ w1.heap.size ≤ kk) ∧ Hid (OI wq lo (.slice A8 ls.length c8) ls) ∧ 2 * uns wq (w.heap.size + 1) f.blocks.length + ts.length + 1 ≤ M) (fun _ i _ => ls.length - (intOf i).toNat)
    case atStart => exact ⟨0, us, Nat.zero_le _, rfl, HP1.out, HTU.out, HBB1.out, HB1.out, Nat.le_refl _, hlo.out, HL2.out, hM1⟩
    case round =>
      obtain ⟨m, ts, hm, rfl, HO, HTS, HBB, HB, hsz, HAV, HL, hMm⟩ := hrel
      have hgo := HBB.out.lt
      by_cases hml : m < ls.length
      case neg =>
        obtain rfl : m = ls.length := by omega
        obtain ⟨_, A6, c6, rfl, _⟩ := HO.out.ri
        have HMM := Lib.hid hMm
        clear hMm
        go_wp2
        go_roundw
        case rel => exact ⟨ts, HO.out, HTS.out, HBB.out, HB.out, by have h1 := HMM.out; omega⟩
        case measure =>
          have h1 := HMM.out
          have h2 := HM.out
          simp only [lenOf]
          omega
      have hum : ls[m]? = some ls[m] := List.getElem?_eq_getElem hml
      have hur := HEL.out _ (List.getElem_mem hml)
      generalize ls[m] = u at hum hur
      obtain ⟨k2, rfl⟩ : ∃ k2 : Nat, u = k2 := ⟨u.toNat, by omega⟩
      have hk2 : k2 < f.blocks.length := by omega
      have hk2' : (k2 : Int) < (f.blocks.length : Int) := by omega
      have hk20 : 0 ≤ (k2 : Int) := by omega
      obtain ⟨_, A8', c8', he8, hux⟩ := HL.out.ri
      injection he8 with q1 _ q2
      subst q1 q2
      obtain ⟨b', off', rfl, hcell⟩ := hux (by rintro rfl; simp at hml)
      have p0 := hcell m _ hum
      obtain ⟨bb, hbb⟩ := HBB.out.cell hk2
      have hbf := HBB.out.frozen k2
      have HMM := Lib.hid hMm
      clear hcell hux hur hMm
      by_cases hne : (k2 : Int) = j
      · have g1 : ((k2 : Int) != j) = false := by simpa using hne
        clear hne
        go_wp2
        go_roundw
        case rel => exact ⟨m + 1, ts, by omega, by go_num, HO.out, HTS.out, HBB.out, HB.out, hsz, HAV.out, HL.out, HMM.out⟩
        case measure => simp [intOf]; omega
      have g1 : ((k2 : Int) != j) = true := by simpa using hne
      clear hne
      cases bb
      case true =>
        go_wp2
        go_roundw
        case rel => exact ⟨m + 1, ts, by omega, by go_num, HO.out, HTS.out, HBB.out, HB.out, hsz, HAV.out, HL.out, HMM.out⟩
        case measure => simp [intOf]; omega
      have hset := uns_set hbb hk2
      have HBS := Lib.hid (HBB.out.set (k := k2) true)
      have hgr := set_grown wr (w.heap.size + 1) k2 (.bool true)
      have hOne : ∀ kk, u6.ownBlock = some kk → kk ≠ w.heap.size + 1 := fun kk hkk => by have := (HO.out.lt kk hkk).1; omega
      have HOs : Hid (OI (wr.setCell ⟨w.heap.size + 1, k2, none⟩ (.bool true)) (w.heap.size + 2) u6 ts) := HO.out.grown hgr (by
        rcases hob : u6.ownBlock with _ | kk
        · exact .inl rfl
        · exact .inr fun e => hOne kk hob (by injection e))
      have hb5 := HL.out.lt b' rfl
      have HLs : Hid (OI (wr.setCell ⟨w.heap.size + 1, k2, none⟩ (.bool true)) lo (.slice (some ⟨b', off', none⟩) ls.length c8) ls) := HL.out.grown hgr (.inr fun e => by injection e with e; simp at e; omega)
      have HBs : Hid (Below (w.heap.size + 1) (w.alloc (.cells #[.int .i64 f.params, .int .i64 f.names, .slice (some ⟨b, off, none⟩) f.blocks.length c] 26)) (wr.setCell ⟨w.heap.size + 1, k2, none⟩ (.bool true))) := HB.out.setCell (by simp) _
      have hss : (wr.setCell ⟨w.heap.size + 1, k2, none⟩ (.bool true)).heap.size = wr.heap.size := nblk_set _ _ _
      have hlt5 : b' < wr.heap.size := by omega
      have hne5 : w.heap.size + 1 ≠ b' := by omega
      have htl : ts.length ≤ 1000000 := by
        have h1 := HMM.out
        omega
      have HU6 := Lib.hid HO.out
      obtain ⟨_, A6, c6, rfl, _⟩ := HO.out.ri
      clear hgr
      go_wp2_with (at_builtin; go_must (refine wpList_append_intq rfl (.tmp 69) (.tmp 74) rfl (w.heap.size + 2) _ ts k2 (wr.setCell ⟨w.heap.size + 1, k2, none⟩ (.bool true)) wr.heap.size hss rfl HOs.out rfl (by omega) (by omega) ?_; intro v' w9 hown9 hg9 hat9; have HO9 := Lib.hid hown9; have HG9 := Lib.hid hg9; have HA9 := Lib.hid hat9; clear hown9 hg9 hat9))
      have hg9 := HG9.out
      have hz9 := hg9.size
      rw [hss] at hz9
      have hob6 : ∀ kk, (Value.slice A6 ts.length c6).ownBlock = some kk → w.heap.size + 2 ≤ kk := fun kk hkk => (HU6.out.lt kk hkk).1
      have hgo9 : w9.heap[w.heap.size + 1]? = (wr.setCell ⟨w.heap.size + 1, k2, none⟩ (.bool true)).heap[w.heap.size + 1]? := hg9.block _ (by rw [hss]; exact hgo) fun e => by have := hob6 _ e.symm; omega
      have HBB9 := Lib.hid (HBS.out.keep hgo9)
      have HB9 : Hid (Below (w.heap.size + 1) (w.alloc (.cells #[.int .i64 f.params, .int .i64 f.names, .slice (some ⟨b, off, none⟩) f.blocks.length c] 26)) w9) := HBs.out.grown hg9 (by rw [hss]; omega) fun kk hkk => by have := hob6 _ hkk; omega
      have HL9 := Lib.hid (HLs.out.grown hg9 (.inr fun e => by
        have hb6 := HL2.out.lt b' rfl
        rcases HAV.out b' e.symm with h | h <;> omega))
      have hu9 := uns_same (n := f.blocks.length) hgo9
      have HAV9 : Hid (∀ kk, v'.ownBlock = some kk → kk < lo ∨ w1.heap.size ≤ kk) := fun kk hkk => by
        rcases HA9.out with h | ⟨k9, h, hk9⟩
        · exact HAV.out kk (h.symm.trans hkk)
        · rw [h] at hkk
          injection hkk with hkk
          rw [hss] at hk9
          exact .inr (by omega)
      have HTS9 : Hid (∀ t ∈ ts ++ [(k2 : Int)], 0 ≤ t ∧ t < (f.blocks.length : Int)) := fun t ht => by
        rcases List.mem_append.1 ht with h | h
        · exact HTS.out t h
        · simp at h; subst h; omega
      have hfin : 2 * uns w9 (w.heap.size + 1) f.blocks.length + (ts ++ [(k2 : Int)]).length + 1 ≤ M := by
        have h1 := HMM.out
        rw [List.length_append, List.length_singleton]
        omega
      go_roundw
      case rel => exact ⟨m + 1, ts ++ [(k2 : Int)], by omega, by go_num, HO9.out, HTS9, HBB9.out, HB9, by omega, HAV9, HL9.out, hfin⟩
      case measure => simp [intOf]; omega

set_option maxRecDepth 10000 in
set_option maxHeartbeats 1000000 in
theorem l4Dom_any (f : FunD) (v : Value) (a b : Nat) (w : World) (Z : Zn) (hv : EFun w Z f v) (hD : ∀ b, Z.D b → b < w.heap.size) (ht : TargetsP f) (hn : f.blocks.length ≤ 1000) (hb : b < f.blocks.length) :
    Calls Try.prog 66 #[v, .int .i64 a, .int .i64 b] w fun e w' => (∃ r : Bool, e = .returned (.bool r)) ∧ Below w.heap.size w w' := by
  have HF := Lib.hid hv
  obtain ⟨u, rfl, hu⟩ := hv
  obtain ⟨_, A, c, rfl, _⟩ := hu
  have HT := Lib.hid ht
  clear ht
  have hb' : (b : Int) < (f.blocks.length : Int) := by omega
  have hb0 : 0 ≤ (b : Int) := by omega
  go_enter Try.func66, Try.ntmps66
  go_wp2_with fail
  refine (l3Reach_any f _ _ _ Z (HF.out.keep (Kept.below ((Below.refl _ _).alloc (Nat.le_refl _) _) hD)) (fun b hb => by have := hD b hb; simp; omega) HT.out hn).mono ?_
  rintro e w1 ⟨q1, rfl, hB1, hq1, hb1⟩
  have HB1 := Lib.hid (hb1.mono (B' := w.heap.size + 1) (by simp))
  have HB01 : Hid (Below w.heap.size w w1) := ((Below.refl _ _).alloc (Nat.le_refl _) _).trans (HB1.out.mono (by omega))
  have hz1 : w.heap.size + 1 ≤ w1.heap.size := by have := hb1.size; simp at this; omega
  obtain ⟨b1, hc1⟩ := hB1.cell hb
  have f0 : w1.cell? ⟨w.heap.size, 0, none⟩ = some (.int .i64 f.params) := (HB1.out.cell (p := ⟨w.heap.size, 0, none⟩) (by simp)).trans (by go_simp)
  have f1 : w1.cell? ⟨w.heap.size, 1, none⟩ = some (.int .i64 f.names) := (HB1.out.cell (p := ⟨w.heap.size, 1, none⟩) (by simp)).trans (by go_simp)
  have f2 : w1.cell? ⟨w.heap.size, 2, none⟩ = some (.slice A f.blocks.length c) := (HB1.out.cell (p := ⟨w.heap.size, 2, none⟩) (by simp)).trans (by go_simp)
  clear hb1 hB1
  cases b1
  · go_wp2_with fail
    go_ret
    exact ⟨⟨_, rfl⟩, HB01.out⟩
  go_wp2_with fail
  refine (l3Reach_any f _ _ _ Z (HF.out.keep (Kept.below HB01.out hD)) (fun b hb => by have := hD b hb; omega) HT.out hn).mono ?_
  rintro e w2 ⟨q2, rfl, hB2, hq2, hb2⟩
  have HB02 := Lib.hid (HB01.out.trans (hb2.mono (by omega)))
  obtain ⟨b2, hc2⟩ := hB2.cell hb
  clear hb2 hB2
  go_wp2_with fail
  go_ret
  exact ⟨⟨_, rfl⟩, HB02.out⟩

end Go.Proofs.Yteikpekffgifoaa
