/- Dr2, Dr3, Dr4, joined. -/
import Derived.Test.YteikpekffgifoaaDoorDm3
import Derived.Test.YteikpekffgifoaaDoorDm16
import Derived.WalkSmall
namespace Go.Proofs.YteikpekffgifoaaDoor

/- l3Reach and l4Dom of the model: that they answer, wherever all targets are there. -/
section
open Go.ChangeShapes Go.WideShapes Go.ChangeAt Go.RowKit Go.Joins

def cnt (f : Nat → Bool) (n : Nat) : Nat := ((List.range n).filter f).length
theorem cnt_succ (f : Nat → Bool) (n : Nat) : cnt f (n + 1) = cnt f n + if f n = true then 1 else 0 := by
  unfold cnt
  rw [List.range_succ, List.filter_append, List.length_append]
  congr 1
  by_cases h : f n = true <;> simp [h]
theorem cnt_le (f : Nat → Bool) (n : Nat) : cnt f n ≤ n := by
  unfold cnt
  exact Nat.le_trans (List.length_filter_le _ _) (by simp)
theorem cnt_congr {f f' : Nat → Bool} : ∀ {n : Nat}, (∀ j, j < n → f j = f' j) → cnt f n = cnt f' n
  | 0, _ => rfl
  | n + 1, h => by rw [cnt_succ, cnt_succ, cnt_congr (n := n) fun j hj => h j (by omega), h n (by omega)]
theorem cnt_drop {f f' : Nat → Bool} {k : Nat} (hf : f k = true) (hf' : f' k = false) (h : ∀ j, j ≠ k → f' j = f j) : ∀ {n : Nat}, k < n → cnt f' n + 1 = cnt f n
  | 0, hk => absurd hk (by omega)
  | n + 1, hk => by
    rw [cnt_succ, cnt_succ]
    by_cases e : k = n
    · subst e
      rw [cnt_congr (f := f') (f' := f) (n := k) fun j hj => h j (by omega), hf, hf']
      simp
    · have := cnt_drop hf hf' h (n := n) (by omega)
      rw [h n (by omega)]
      omega

def isF : Option Value → Bool
  | some (.bool false) => true
  | _ => false
/-- How many of the n cells of block q are false. -/
def uns (w : World) (q n : Nat) : Nat := cnt (fun k => isF (w.cell? ⟨q, k, none⟩)) n
theorem uns_set {w : World} {q n k : Nat} (hc : w.cell? ⟨q, k, none⟩ = some (.bool false)) (hk : k < n) : uns (w.setCell ⟨q, k, none⟩ (.bool true)) q n + 1 = uns w q n := by
  refine cnt_drop (k := k) (by rw [hc]; rfl) (by rw [World.cell?_setCell_same w _ _ hc]; rfl) (fun j hj => ?_) hk
  rw [World.cell?_setCell_other _ _ _ _ (by intro e; injection e with _ e; omega)]
theorem uns_same {w w' : World} {q n : Nat} (h : w'.heap[q]? = w.heap[q]?) : uns w' q n = uns w q n := cnt_congr fun j _ => by rw [World.cell?_of_block (a := ⟨q, j, none⟩) h]
def lenOf : Value → Nat
  | .slice _ n _ => n
  | _ => 0

/-- Block q holds n bools. -/
def BoolB (w : World) (q n : Nat) : Prop := ∃ cur : Array Value, w.heap[q]? = some (.cells cur 4 (0, 0)) ∧ cur.size = n ∧ ∀ k, k < n → ∃ b : Bool, cur[k]? = some (.bool b)
theorem BoolB.cell {w : World} {q n k : Nat} (h : BoolB w q n) (hk : k < n) : ∃ b : Bool, w.cell? ⟨q, k, none⟩ = some (.bool b) := by
  obtain ⟨cur, h1, _, h3⟩ := h
  obtain ⟨b, hb⟩ := h3 k hk
  exact ⟨b, (cell_of_row w q k cur _ (0, 0) h1).trans hb⟩
theorem BoolB.frozen {w : World} {q n : Nat} (h : BoolB w q n) (k : Nat) : w.frozen? ⟨q, k, none⟩ = false := by
  obtain ⟨cur, h1, _⟩ := h
  simp [World.frozen?, h1]
theorem BoolB.keep {w w' : World} {q n : Nat} (h : BoolB w q n) (hw : w'.heap[q]? = w.heap[q]?) : BoolB w' q n := by
  obtain ⟨cur, h1, h2⟩ := h
  exact ⟨cur, hw.trans h1, h2⟩
theorem BoolB.lt {w : World} {q n : Nat} (h : BoolB w q n) : q < w.heap.size := by
  obtain ⟨cur, h1, _⟩ := h
  exact (Array.getElem?_eq_some_iff.1 h1).1
theorem BoolB.set {w : World} {q n k : Nat} (h : BoolB w q n) (b : Bool) : BoolB (w.setCell ⟨q, k, none⟩ (.bool b)) q n := by
  obtain ⟨cur, h1, h2, h3⟩ := h
  refine ⟨cur.setIfInBounds k (.bool b), heap_setCell_same w q k cur _ _ h1, by simpa using h2, fun j hj => ?_⟩
  rw [Array.getElem?_setIfInBounds]
  by_cases e : k = j
  · subst e
    rw [if_pos rfl, if_pos (by omega)]
    exact ⟨b, rfl⟩
  · rw [if_neg e]; exact h3 j hj
theorem BoolB.start (w : World) (n : Nat) : BoolB (w.alloc (.cells (madeCells #[.bool false] n) 4)) w.heap.size n := by
  refine ⟨_, heap_alloc_new w _, size_madeCells _ _, fun k hk => ⟨false, ?_⟩⟩
  have h : (madeCells #[.bool false] n)[k]? = some ((madeCells #[.bool false] n)[k]'(by rw [size_madeCells]; exact hk)) := Array.getElem?_eq_getElem _
  rw [h]
  congr 1
  have hv : (madeCells #[.bool false] n).toList[k]? = some ((madeCells #[.bool false] n)[k]'(by rw [size_madeCells]; exact hk)) := by rw [Array.getElem?_toList]; exact h
  rw [toList_madeCells_one] at hv
  exact (List.mem_replicate.1 (List.mem_of_getElem? hv)).2

theorem BoolB.start1 (w : World) (n : Nat) : BoolB (w.alloc (.cells ((madeCells #[.bool false] n).setIfInBounds 0 (.bool true)) 4)) w.heap.size n := by
  obtain ⟨cur, h1, h2, h3⟩ := BoolB.start w n
  rw [heap_alloc_new] at h1
  injection h1 with h1
  injection h1 with h1
  subst h1
  refine ⟨_, heap_alloc_new w _, by simpa using h2, fun k hk => ?_⟩
  rw [Array.getElem?_setIfInBounds]
  by_cases e : 0 = k
  · rw [if_pos e, if_pos (by omega)]; exact ⟨true, rfl⟩
  · rw [if_neg e]; exact h3 k hk

theorem wpList_append_intq {ops : Array Oper} {rest : List Oper} {o : Oper} {a : Act} {Q : Exit → Act → World → Prop} (hgd : o.guard = none) (s x : Operand)
    (ho : o.op = .call { callee := .builtin .append, args := #[s, x], argTypes := #[29, 29] })
    (B : Nat) (v : Value) (xs : List Int) (y : Int) (w : World) (q : Nat) (hq : w.heap.size = q) (hs : a.eval s = v) (hown : OI w B v xs) (hx : a.eval x = .slice (some ⟨q, 0, none⟩) 1 1) (hb : B ≤ w.heap.size) (hlen : xs.length ≤ 1048576)
    (h : ∀ v' w', OI w' B v' (xs ++ [y]) → w.grownBy w' v.ownBlock → (v'.ownBlock = v.ownBlock ∨ ∃ k, v'.ownBlock = some k ∧ w.heap.size ≤ k) → wpList Tryd.prog ops Q rest (a.put o.dst v') w') :
    wpList Tryd.prog ops Q (o :: rest) a (w.alloc (.cells #[.int .i64 y] 2)) := by
  subst hq
  exact wpList_append_int hgd s x ho B v xs y w hs hown hx hb hlen h

def TargetsP (f : FunD) : Prop := 1 ≤ f.blocks.length ∧ ∀ (i : Nat) x, f.blocks[i]? = some x → EndT f.blocks.length x.fin
def GivesBools (n : Nat) (w : World) (e : Ending) (w' : World) : Prop := ∃ q, e = .returned (.slice (some ⟨q, 0, none⟩) n n) ∧ BoolB w' q n ∧ w.heap.size ≤ q ∧ Below w.heap.size w w'

theorem info_bool : (Tryd.prog.info? 4).map (fun i => (i.zero, i.size, i.bytes)) = some (some (.bool false), 1, 1) := by kernel_rfl

set_option maxRecDepth 10000 in
set_option maxHeartbeats 2000000 in
theorem l3Reach_any (f : FunD) (v : Value) (j : Int) (w : World) (Z : Zn) (hv : EFun w Z f v) (hD : ∀ b, Z.D b → b < w.heap.size) (ht : TargetsP f) (hn : f.blocks.length ≤ 1000) :
    Calls Tryd.prog 60 #[v, .int .i64 j] w (GivesBools f.blocks.length w) := by
  obtain ⟨u, rfl, hle, A, c, rfl, hx⟩ := hv
  obtain ⟨h1, HT⟩ := ht
  replace HT := Lib.hid HT
  obtain ⟨i0, hi, hz0, hz1, hz2⟩ := info_parts info_bool
  have hmk := fun W => run_make_rowN (P := Tryd.prog) 78 4 i0 _ Tryd.underlying78 hi hz0 .i64 .i64 f.blocks.length f.blocks.length (Nat.le_refl _) (by rw [hz2]; omega) (by omega) W
  rw [hz1] at hmk
  clear hi hz0 hz1 hz2
  have h1' : 0 < f.blocks.length := by omega
  have h1'' : 0 < (f.blocks.length : Int) := by omega
  have hB1 := Lib.hid (((Below.refl w.heap.size w).alloc (Nat.le_refl _) (.cells #[.int .i64 f.params, .int .i64 f.names, .slice A f.blocks.length c] 26)).alloc (by simp) (.cells (madeCells #[.bool false] f.blocks.length) 4))
  have hst := BoolB.start (w.alloc (.cells #[.int .i64 f.params, .int .i64 f.names, .slice A f.blocks.length c] 26)) f.blocks.length
  have hs1 : (w.alloc (.cells #[.int .i64 f.params, .int .i64 f.names, .slice A f.blocks.length c] 26)).heap.size = w.heap.size + 1 := by simp
  rw [hs1] at hst
  have HST := Lib.hid hst
  clear hst hs1
  by_cases hj : j = 0
  · subst hj
    go_enter Tryd.func60, Tryd.ntmps60
    go_wp2
    go_ret
    exact ⟨w.heap.size + 1, rfl, HST.out, by omega, hB1.out⟩
  have hb : (j == 0) = false := by simpa using hj
  clear hj
  obtain ⟨bb, hcell⟩ := HST.out.cell h1'
  have hfz := HST.out.frozen 0
  go_enter Tryd.func60, Tryd.ntmps60
  go_wp2
  clear hcell hfz bb HST
  have hgo : (w.alloc (.cells #[.int .i64 f.params, .int .i64 f.names, .slice A f.blocks.length c] 26)).heap.size = w.heap.size + 1 := by simp
  have hbs := BoolB.start1 (w.alloc (.cells #[.int .i64 f.params, .int .i64 f.names, .slice A f.blocks.length c] 26)) f.blocks.length
  rw [hgo] at hbs
  have HBS := Lib.hid hbs
  clear hbs hgo
  go_loopw [6, 7, 8, 9] (fun q _ _ _ wr => ∃ ts : List Int, Hid (OI wr (w.heap.size + 2) q ts) ∧ Hid (∀ t ∈ ts, 0 ≤ t ∧ t < (f.blocks.length : Int)) ∧ Hid (BoolB wr (w.heap.size + 1) f.blocks.length) ∧ Hid (Below (w.heap.size + 1) (w.alloc (.cells #[.int .i64 f.params, .int .i64 f.names, .slice A f.blocks.length c] 26)) wr) ∧ 2 * uns wr (w.heap.size + 1) f.blocks.length + ts.length ≤ 3000) (fun q _ _ _ wr => 2 * uns wr (w.heap.size + 1) f.blocks.length + lenOf q)
  case atStart =>
    refine ⟨[0], ?_, fun t ht => ?_, HBS.out.keep (Below.heap_alloc _ _ _ (by simp)), ((Below.refl _ _).alloc (by simp) _).alloc (by simp) _, ?_⟩
    · exact OI_lit1 _ 0 (by simp) (Nat.le_refl _)
    · simp at ht; omega
    · simp only [List.length_singleton]
      unfold uns
      exact Nat.le_trans (Nat.add_le_add_right (Nat.mul_le_mul_left 2 (cnt_le _ _)) 1) (by omega)
  case round =>
    obtain ⟨ts, HO, HTS, HBB, HB, hcap3⟩ := hrel
    have HB0 : Hid (Below w.heap.size w wr) := ((Below.refl _ _).alloc (Nat.le_refl _) _).trans (HB.out.mono (by omega))
    have hzw : w.heap.size + 1 ≤ wr.heap.size := by have := HB.out.size; simp at this; omega
    have f2 : wr.cell? ⟨w.heap.size, 2, none⟩ = some (.slice A f.blocks.length c) := (HB.out.cell (p := ⟨w.heap.size, 2, none⟩) (by simp)).trans (by go_simp)
    have hts : ts = [] ∨ ∃ us t, ts = us ++ [t] := by
      rcases List.eq_nil_or_concat ts with h | ⟨us, t, h⟩
      · exact .inl h
      · exact .inr ⟨us, t, by rw [h, List.concat_eq_append]⟩
    rcases hts with rfl | ⟨us, t, rfl⟩
    · obtain ⟨_, A6, c6, rfl, _⟩ := HO.out.ri
      go_wp2
      go_ret
      exact ⟨w.heap.size + 1, rfl, HBB.out, by omega, HB0.out⟩
    have hlen : (us ++ [t]).length = us.length + 1 := by simp
    have HO1 := HO.out
    unfold OI at HO1
    rw [hlen] at HO1
    obtain ⟨gt, cap, rfl, hgt1, hgt2⟩ := World.ownsRow.form HO1 (by omega)
    have hct : wr.cell? ⟨gt, us.length, none⟩ = some (.int .i64 t) := by
      rw [World.ownsRow.cellAt HO1 us.length (by omega)]
      simp [iv]
    have HPO : Hid (OI wr (w.heap.size + 2) (.slice (some ⟨gt, 0, none⟩) us.length cap) us) := by
      refine ownsRow_pop (last := [iv t]) (by simp) ?_
      have := HO1
      rw [List.map_append] at this
      exact this
    have ht := HTS.out t (by simp)
    have HTU : Hid (∀ t ∈ us, 0 ≤ t ∧ t < (f.blocks.length : Int)) := fun t ht => HTS.out t (by simp [ht])
    have hcapb : us.length + 1 ≤ cap ∧ cap ≤ 9223372036854775807 := by
      rcases HO1.2 with ⟨h', _⟩ | ⟨_, _, _, h', _, _, h5, h6, _⟩
      · cases h'
      · simp only [Value.slice.injEq, Option.some.injEq, Addr.mk.injEq, and_true, true_and] at h'
        obtain ⟨_, rfl⟩ := h'
        rw [maxLen_is] at h6
        exact ⟨h5, h6⟩
    obtain ⟨k, rfl⟩ : ∃ k : Nat, t = k := ⟨t.toNat, by omega⟩
    have hk : k < f.blocks.length := by omega
    have hk' : (k : Int) < (f.blocks.length : Int) := by omega
    have hk0 : 0 ≤ (k : Int) := by omega
    have hxk : f.blocks[k]? = some f.blocks[k] := List.getElem?_eq_getElem hk
    generalize f.blocks[k] = x at hxk
    obtain ⟨b, off, rfl, hDb, hrow⟩ := hx (by intro h; rw [h] at hk; simp at hk)
    obtain ⟨cs, hE, hcs⟩ := hrow k x hxk
    have hbl := hD b hDb
    obtain ⟨_, _, _, _, rfl, _⟩ := hE
    have c4 : wr.cell? ⟨b, off + k * 8 + 4, none⟩ = some (.int .i64 x.fin.k) := (HB0.out.cell (p := ⟨b, _, none⟩) hbl).trans (hcs 4 _ rfl).1
    have c5 : wr.cell? ⟨b, off + k * 8 + 4 + 1, none⟩ = some (.int .i64 x.fin.a) := (HB0.out.cell (p := ⟨b, _, none⟩) hbl).trans (hcs 5 _ rfl).1
    have c6 : wr.cell? ⟨b, off + k * 8 + 4 + 2, none⟩ = some (.int .i64 x.fin.t) := (HB0.out.cell (p := ⟨b, _, none⟩) hbl).trans (hcs 6 _ rfl).1
    have c7 : wr.cell? ⟨b, off + k * 8 + 4 + 3, none⟩ = some (.int .i64 x.fin.l) := (HB0.out.cell (p := ⟨b, _, none⟩) hbl).trans (hcs 7 _ rfl).1
    have HET : Hid (EndT f.blocks.length x.fin) := HT.out k x hxk
    clear hcs hx hxk hrow HO HO1 HTS ht
    go_wp2_with fail
    refine (l2Succs_any _ _ _ _ _).mono ?_
    rintro e w1 ⟨r, rfl, hr, hb1⟩
    have hz1 := hb1.size
    have hlo : Hid (∀ kk, (Value.slice (some ⟨gt, 0, none⟩) us.length cap).ownBlock = some kk → kk < wr.heap.size ∨ w1.heap.size ≤ kk) := fun kk hkk => .inl (HPO.out.lt kk hkk).2
    have HP1 := Lib.hid (HPO.out.below hb1 fun kk hkk => (HPO.out.lt kk hkk).2)
    have HBB1 := Lib.hid (HBB.out.keep (hb1.block _ HBB.out.lt))
    have HB1 := Lib.hid (HB.out.trans (hb1.mono hzw))
    have hun1 : uns w1 (w.heap.size + 1) f.blocks.length = uns wr (w.heap.size + 1) f.blocks.length := uns_same (hb1.block _ HBB.out.lt)
    have HL1 := Lib.hid hr
    have hll := toL_len x.fin.k x.fin.t x.fin.l
    have HEL : Hid (∀ u ∈ toL x.fin.k x.fin.t x.fin.l, 0 ≤ u ∧ u < (f.blocks.length : Int)) := HET.out
    obtain ⟨M, hM⟩ : ∃ M, M = 2 * uns wr (w.heap.size + 1) f.blocks.length + (us.length + 1) := ⟨_, rfl⟩
    rw [hlen] at hcap3
    have hM3 : M ≤ 3000 := by omega
    have hM1 : 2 * uns w1 (w.heap.size + 1) f.blocks.length + us.length + 1 ≤ M := by omega
    have HM := Lib.hid hM
    obtain ⟨lo, hlo'⟩ : ∃ lo, lo = wr.heap.size := ⟨_, rfl⟩
    have hzlo : w.heap.size + 2 ≤ lo := by have := HBB.out.lt; omega
    rw [← hlo'] at HL1 hlo hz1
    generalize toL x.fin.k x.fin.t x.fin.l = ls at hll HEL HL1
    clear hr
    obtain ⟨_, A8, c8, rfl, _⟩ := HL1.out.ri
    clear hb1 hM hlo' hlen hcap3 HPO HBB HB HET c4 c5 c6 c7 hct f2 hun1 hzw
    have HL2 : Hid (OI w1 lo (.slice A8 ls.length c8) ls) := HL1.out
    clear HL1
    go_wp2_with fail
    go_loopw [6, 9] (fun q i wq => ∃ (m : Nat) (ts : List Int), m ≤ ls.length ∧ i = .int .i64 m ∧ Hid (OI wq (w.heap.size + 2) q ts) ∧ Hid (∀ t ∈ ts, 0 ≤ t ∧ t < (f.blocks.length : Int)) ∧ Hid (BoolB wq (w.heap.size + 1) f.blocks.length) ∧ Hid (Below (w.heap.size + 1) (w.alloc (.cells #[.int .i64 f.params, .int .i64 f.names, .slice (some ⟨b, off, none⟩) f.blocks.length c] 26)) wq) ∧ w1.heap.size ≤ wq.heap.size ∧ Hid (∀ kk, q.ownBlock = some kk → kk < lo ∨ w1.heap.size ≤ kk) ∧ Hid (OI wq lo (.slice A8 ls.length c8) ls) ∧ 2 * uns wq (w.heap.size + 1) f.blocks.length + ts.length + 1 ≤ M) (fun _ i _ => ls.length - (intOf i).toNat)
    case atStart => exact ⟨0, us, Nat.zero_le _, rfl, HP1.out, HTU.out, HBB1.out, HB1.out, Nat.le_refl _, hlo.out, HL2.out, hM1⟩
    case round =>
      obtain ⟨m, ts, hm, rfl, HO, HTS, HBB, HB, hsz, HAV, HL, hMm⟩ := hrel
      have hgo := HBB.out.lt
      by_cases hml : m < ls.length
      case neg =>
        obtain rfl : m = ls.length := by omega
        obtain ⟨_, A6, c6, rfl, _⟩ := HO.out.ri
        have HMM := Lib.hid hMm
        clear hMm
        go_wp2
        go_roundw
        case rel => exact ⟨ts, HO.out, HTS.out, HBB.out, HB.out, by have h1 := HMM.out; omega⟩
        case measure =>
          have h1 := HMM.out
          have h2 := HM.out
          simp only [lenOf]
          omega
      have hum : ls[m]? = some ls[m] := List.getElem?_eq_getElem hml
      have hur := HEL.out _ (List.getElem_mem hml)
      generalize ls[m] = u at hum hur
      obtain ⟨k2, rfl⟩ : ∃ k2 : Nat, u = k2 := ⟨u.toNat, by omega⟩
      have hk2 : k2 < f.blocks.length := by omega
      have hk2' : (k2 : Int) < (f.blocks.length : Int) := by omega
      have hk20 : 0 ≤ (k2 : Int) := by omega
      obtain ⟨_, A8', c8', he8, hux⟩ := HL.out.ri
      injection he8 with q1 _ q2
      subst q1 q2
      obtain ⟨b', off', rfl, hcell⟩ := hux (by rintro rfl; simp at hml)
      have p0 := hcell m _ hum
      obtain ⟨bb, hbb⟩ := HBB.out.cell hk2
      have hbf := HBB.out.frozen k2
      have HMM := Lib.hid hMm
      clear hcell hux hur hMm
      by_cases hne : (k2 : Int) = j
      · have g1 : ((k2 : Int) != j) = false := by simpa using hne
        clear hne
        go_wp2
        go_roundw
        case rel => exact ⟨m + 1, ts, by omega, by go_num, HO.out, HTS.out, HBB.out, HB.out, hsz, HAV.out, HL.out, HMM.out⟩
        case measure => simp [intOf]; omega
      have g1 : ((k2 : Int) != j) = true := by simpa using hne
      clear hne
      cases bb
      case true =>
        go_wp2
        go_roundw
        case rel => exact ⟨m + 1, ts, by omega, by go_num, HO.out, HTS.out, HBB.out, HB.out, hsz, HAV.out, HL.out, HMM.out⟩
        case measure => simp [intOf]; omega
      have hset := uns_set hbb hk2
      have HBS := Lib.hid (HBB.out.set (k := k2) true)
      have hgr := set_grown wr (w.heap.size + 1) k2 (.bool true)
      have hOne : ∀ kk, u6.ownBlock = some kk → kk ≠ w.heap.size + 1 := fun kk hkk => by have := (HO.out.lt kk hkk).1; omega
      have HOs : Hid (OI (wr.setCell ⟨w.heap.size + 1, k2, none⟩ (.bool true)) (w.heap.size + 2) u6 ts) := HO.out.grown hgr (by
        rcases hob : u6.ownBlock with _ | kk
        · exact .inl rfl
        · exact .inr fun e => hOne kk hob (by injection e))
      have hb5 := HL.out.lt b' rfl
      have HLs : Hid (OI (wr.setCell ⟨w.heap.size + 1, k2, none⟩ (.bool true)) lo (.slice (some ⟨b', off', none⟩) ls.length c8) ls) := HL.out.grown hgr (.inr fun e => by injection e with e; simp at e; omega)
      have HBs : Hid (Below (w.heap.size + 1) (w.alloc (.cells #[.int .i64 f.params, .int .i64 f.names, .slice (some ⟨b, off, none⟩) f.blocks.length c] 26)) (wr.setCell ⟨w.heap.size + 1, k2, none⟩ (.bool true))) := HB.out.setCell (by simp) _
      have hss : (wr.setCell ⟨w.heap.size + 1, k2, none⟩ (.bool true)).heap.size = wr.heap.size := nblk_set _ _ _
      have hlt5 : b' < wr.heap.size := by omega
      have hne5 : w.heap.size + 1 ≠ b' := by omega
      have htl : ts.length ≤ 1000000 := by
        have h1 := HMM.out
        omega
      have HU6 := Lib.hid HO.out
      obtain ⟨_, A6, c6, rfl, _⟩ := HO.out.ri
      clear hgr
      go_wp2_with (at_builtin; go_must (refine wpList_append_intq rfl (.tmp 69) (.tmp 74) rfl (w.heap.size + 2) _ ts k2 (wr.setCell ⟨w.heap.size + 1, k2, none⟩ (.bool true)) wr.heap.size hss rfl HOs.out rfl (by omega) (by omega) ?_; intro v' w9 hown9 hg9 hat9; have HO9 := Lib.hid hown9; have HG9 := Lib.hid hg9; have HA9 := Lib.hid hat9; clear hown9 hg9 hat9))
      have hg9 := HG9.out
      have hz9 := hg9.size
      rw [hss] at hz9
      have hob6 : ∀ kk, (Value.slice A6 ts.length c6).ownBlock = some kk → w.heap.size + 2 ≤ kk := fun kk hkk => (HU6.out.lt kk hkk).1
      have hgo9 : w9.heap[w.heap.size + 1]? = (wr.setCell ⟨w.heap.size + 1, k2, none⟩ (.bool true)).heap[w.heap.size + 1]? := hg9.block _ (by rw [hss]; exact hgo) fun e => by have := hob6 _ e.symm; omega
      have HBB9 := Lib.hid (HBS.out.keep hgo9)
      have HB9 : Hid (Below (w.heap.size + 1) (w.alloc (.cells #[.int .i64 f.params, .int .i64 f.names, .slice (some ⟨b, off, none⟩) f.blocks.length c] 26)) w9) := HBs.out.grown hg9 (by rw [hss]; omega) fun kk hkk => by have := hob6 _ hkk; omega
      have HL9 := Lib.hid (HLs.out.grown hg9 (.inr fun e => by
        have hb6 := HL2.out.lt b' rfl
        rcases HAV.out b' e.symm with h | h <;> omega))
      have hu9 := uns_same (n := f.blocks.length) hgo9
      have HAV9 : Hid (∀ kk, v'.ownBlock = some kk → kk < lo ∨ w1.heap.size ≤ kk) := fun kk hkk => by
        rcases HA9.out with h | ⟨k9, h, hk9⟩
        · exact HAV.out kk (h.symm.trans hkk)
        · rw [h] at hkk
          injection hkk with hkk
          rw [hss] at hk9
          exact .inr (by omega)
      have HTS9 : Hid (∀ t ∈ ts ++ [(k2 : Int)], 0 ≤ t ∧ t < (f.blocks.length : Int)) := fun t ht => by
        rcases List.mem_append.1 ht with h | h
        · exact HTS.out t h
        · simp at h; subst h; omega
      have hfin : 2 * uns w9 (w.heap.size + 1) f.blocks.length + (ts ++ [(k2 : Int)]).length + 1 ≤ M := by
        have h1 := HMM.out
        rw [List.length_append, List.length_singleton]
        omega
      go_roundw
      case rel => exact ⟨m + 1, ts ++ [(k2 : Int)], by omega, by go_num, HO9.out, HTS9, HBB9.out, HB9, by omega, HAV9, HL9.out, hfin⟩
      case measure => simp [intOf]; omega

set_option maxRecDepth 10000 in
set_option maxHeartbeats 1000000 in
theorem l4Dom_any (f : FunD) (v : Value) (a b : Nat) (w : World) (Z : Zn) (hv : EFun w Z f v) (hD : ∀ b, Z.D b → b < w.heap.size) (ht : TargetsP f) (hn : f.blocks.length ≤ 1000) (hb : b < f.blocks.length) :
    Calls Tryd.prog 37 #[v, .int .i64 a, .int .i64 b] w fun e w' => (∃ r : Bool, e = .returned (.bool r)) ∧ Below w.heap.size w w' := by
  have HF := Lib.hid hv
  obtain ⟨u, rfl, hu⟩ := hv
  obtain ⟨_, A, c, rfl, _⟩ := hu
  have HT := Lib.hid ht
  clear ht
  have hb' : (b : Int) < (f.blocks.length : Int) := by omega
  have hb0 : 0 ≤ (b : Int) := by omega
  go_enter Tryd.func37, Tryd.ntmps37
  go_wp2_with fail
  refine (l3Reach_any f _ _ _ Z (HF.out.keep (Kept.below ((Below.refl _ _).alloc (Nat.le_refl _) _) hD)) (fun b hb => by have := hD b hb; simp; omega) HT.out hn).mono ?_
  rintro e w1 ⟨q1, rfl, hB1, hq1, hb1⟩
  have HB1 := Lib.hid (hb1.mono (B' := w.heap.size + 1) (by simp))
  have HB01 : Hid (Below w.heap.size w w1) := ((Below.refl _ _).alloc (Nat.le_refl _) _).trans (HB1.out.mono (by omega))
  have hz1 : w.heap.size + 1 ≤ w1.heap.size := by have := hb1.size; simp at this; omega
  obtain ⟨b1, hc1⟩ := hB1.cell hb
  have f0 : w1.cell? ⟨w.heap.size, 0, none⟩ = some (.int .i64 f.params) := (HB1.out.cell (p := ⟨w.heap.size, 0, none⟩) (by simp)).trans (by go_simp)
  have f1 : w1.cell? ⟨w.heap.size, 1, none⟩ = some (.int .i64 f.names) := (HB1.out.cell (p := ⟨w.heap.size, 1, none⟩) (by simp)).trans (by go_simp)
  have f2 : w1.cell? ⟨w.heap.size, 2, none⟩ = some (.slice A f.blocks.length c) := (HB1.out.cell (p := ⟨w.heap.size, 2, none⟩) (by simp)).trans (by go_simp)
  clear hb1 hB1
  cases b1
  · go_wp2_with fail
    go_ret
    exact ⟨⟨_, rfl⟩, HB01.out⟩
  go_wp2_with fail
  refine (l3Reach_any f _ _ _ Z (HF.out.keep (Kept.below HB01.out hD)) (fun b hb => by have := hD b hb; omega) HT.out hn).mono ?_
  rintro e w2 ⟨q2, rfl, hB2, hq2, hb2⟩
  have HB02 := Lib.hid (HB01.out.trans (hb2.mono (by omega)))
  obtain ⟨b2, hc2⟩ := hB2.cell hb
  clear hb2 hB2
  go_wp2_with fail
  go_ret
  exact ⟨⟨_, rfl⟩, HB02.out⟩
end

/- l2Pick of the model: that it answers. -/
section
open Go.ChangeShapes Go.WideShapes Go.ChangeAt Go.RowKit Go.Joins

def GInt (w : World) (Bc g : Nat) (L : Nat → List Nat) (e : Ending) (w' : World) : Prop := ∃ x : Int, e = .returned (.int .i64 x) ∧ DSta w' Bc g L ∧ Wr (· = [9]) L w w'

theorem OI.at_ {w : World} {B : Nat} {v : Value} {xs : List Int} (h : OI w B v xs) {k : Nat} (hk : k < xs.length) : ∃ gg c x, v = .slice (some ⟨gg, 0, none⟩) xs.length c ∧ w.cell? ⟨gg, k, none⟩ = some (.int .i64 x) := by
  have h0 := h
  rcases h.2 with ⟨rfl, hn⟩ | ⟨gg, cap, cur, rfl, _⟩
  · omega
  · refine ⟨gg, cap, xs[k], rfl, ?_⟩
    rw [World.ownsRow.cellAt h0 k (by omega), List.getElem?_map, List.getElem?_eq_getElem hk]
    rfl
theorem pick_bound {a n : Nat} (h : a ≤ n) (hn : n ≤ 100) : a * 1001 ≤ 100100 := by
  have : a * 1001 ≤ 100 * 1001 := Nat.mul_le_mul_right _ (by omega)
  omega

set_option maxRecDepth 10000 in
set_option maxHeartbeats 2000000 in
theorem l2Pick_any (f : FunD) (v vf : Value) (fs : List Int) (b : Nat) (below : Int) (w : World) (Z : Zn) (Bc g : Nat) (L : Nat → List Nat) (hv : EFun w Z f v) (hD : ∀ b, Z.D b → b < w.heap.size) (ht : TargetsP f) (hn : f.blocks.length ≤ 100) (hb : b < f.blocks.length)
    (hp : 1 ≤ f.params ∧ f.params ≤ 10) (hf : Row w Z 1 EInt vf fs) (hfl : fs.length = f.blocks.length + 1) (hfb : ∀ (i : Nat) x, fs[i]? = some x → 0 ≤ x ∧ x ≤ 1000) (hd : DSta w Bc g L) :
    Calls Tryd.prog 99 #[.pointer (some ⟨g, 0, none⟩), v, .int .i64 b, vf, .int .i64 below] w (GInt w Bc g L) := by
  have HF := Lib.hid hv
  obtain ⟨u, rfl, hu⟩ := hv
  obtain ⟨_, A, c, rfl, _⟩ := hu
  have HT := Lib.hid ht
  have HD0 := Lib.hid hd
  have HFB := Lib.hid hfb
  obtain ⟨_, A3, c3, rfl, hfx⟩ := hf
  obtain ⟨hp1, hp2⟩ := hp
  have HFL := Lib.hid hfl
  clear ht hd hfb hfl
  go_enter Tryd.func99, Tryd.ntmps99
  go_wp2_with fail
  go_loopw [11, 12] (fun q i wr => ∃ (k : Nat) (xs : List Int), (k : Int) ≤ f.params ∧ i = .int .i64 k ∧ xs.length = k ∧ Hid (OI wr (w.heap.size + 1) q xs) ∧ Hid (Below (w.heap.size + 1) (w.alloc (.cells #[.int .i64 f.params, .int .i64 f.names, .slice A f.blocks.length c] 26)) wr)) (fun _ i _ => (f.params - intOf i).toNat)
  case atStart => exact ⟨0, [], by omega, rfl, rfl, OI_lit0 _ (by simp) (Nat.le_refl _), (Below.refl _ _).alloc (by simp) _⟩
  case round =>
    obtain ⟨k, xs, hk, rfl, rfl, HO, HB⟩ := hrel
    have HB0 : Hid (Below w.heap.size w wr) := ((Below.refl _ _).alloc (Nat.le_refl _) _).trans (HB.out.mono (by omega))
    have hzw : w.heap.size + 1 ≤ wr.heap.size := by have := HB.out.size; simp at this; omega
    have f0 : wr.cell? ⟨w.heap.size, 0, none⟩ = some (.int .i64 f.params) := (HB.out.cell (p := ⟨w.heap.size, 0, none⟩) (by simp)).trans (by go_simp)
    have f1 : wr.cell? ⟨w.heap.size, 1, none⟩ = some (.int .i64 f.names) := (HB.out.cell (p := ⟨w.heap.size, 1, none⟩) (by simp)).trans (by go_simp)
    have f2 : wr.cell? ⟨w.heap.size, 2, none⟩ = some (.slice A f.blocks.length c) := (HB.out.cell (p := ⟨w.heap.size, 2, none⟩) (by simp)).trans (by go_simp)
    by_cases hlt : (xs.length : Int) < f.params
    · go_wp2_with (at_builtin; go_must (refine wpList_append_int rfl (.tmp 22) (.tmp 24) rfl (w.heap.size + 1) _ xs xs.length wr rfl HO.out rfl (by omega) (by omega) ?_; intro v' w2 hown2 hg2 hat2; have HO2 := Lib.hid hown2; have HB2 := Lib.hid (HB.out.grown hg2 (by omega) (fun k hk => (HO.out.lt k hk).1)); clear hown2 hg2 hat2))
      go_roundw
      case rel => exact ⟨xs.length + 1, xs ++ [(xs.length : Int)], by omega, by go_num, by simp, HO2.out, HB2.out⟩
      case measure => simp [intOf]; omega
    have hge : f.params ≤ (xs.length : Int) := by omega
    clear hlt
    go_wp2_with fail
    have hl1 : 1 ≤ xs.length := by omega
    have hl10 : xs.length ≤ 10 := by omega
    go_loopw [11, 13, 14] (fun q i _ wr => ∃ (a : Nat) (xs : List Int), a ≤ f.blocks.length ∧ i = .int .i64 a ∧ 1 ≤ xs.length ∧ xs.length ≤ 10 + a * 1001 ∧ Hid (OI wr (w.heap.size + 1) q xs) ∧ Hid (Below (w.heap.size + 1) (w.alloc (.cells #[.int .i64 f.params, .int .i64 f.names, .slice A f.blocks.length c] 26)) wr)) (fun _ i _ _ => f.blocks.length - (intOf i).toNat)
    case atStart => exact ⟨0, xs, Nat.zero_le _, rfl, hl1, by omega, HO.out, HB.out⟩
    case round =>
      obtain ⟨a, xs, ha, rfl, hx1, hx2, HO, HB⟩ := hrel
      have HB0 : Hid (Below w.heap.size w wr) := ((Below.refl _ _).alloc (Nat.le_refl _) _).trans (HB.out.mono (by omega))
      have hzw : w.heap.size + 1 ≤ wr.heap.size := by have := HB.out.size; simp at this; omega
      have f0 : wr.cell? ⟨w.heap.size, 0, none⟩ = some (.int .i64 f.params) := (HB.out.cell (p := ⟨w.heap.size, 0, none⟩) (by simp)).trans (by go_simp)
      have f1 : wr.cell? ⟨w.heap.size, 1, none⟩ = some (.int .i64 f.names) := (HB.out.cell (p := ⟨w.heap.size, 1, none⟩) (by simp)).trans (by go_simp)
      have f2 : wr.cell? ⟨w.heap.size, 2, none⟩ = some (.slice A f.blocks.length c) := (HB.out.cell (p := ⟨w.heap.size, 2, none⟩) (by simp)).trans (by go_simp)
      have hab := pick_bound ha hn
      by_cases hlt : a < f.blocks.length
      · have hlt' : (a : Int) < (f.blocks.length : Int) := by omega
        go_wp2_with fail
        refine (l4Dom_any f _ a b _ Z (HF.out.keep (Kept.below HB0.out hD)) (fun b hb => by have := hD b hb; omega) HT.out (by omega) hb).mono ?_
        rintro e w1 ⟨⟨r, rfl⟩, hb1⟩
        have HO1 := Lib.hid (HO.out.below hb1 fun k hk => (HO.out.lt k hk).2)
        have HB1 := Lib.hid (HB.out.trans (hb1.mono hzw))
        have hz1 := hb1.size
        clear hb1
        cases r
        · go_wp2_with fail
          go_roundw
          case rel => exact ⟨a + 1, xs, by omega, by go_num, hx1, by omega, HO1.out, HB1.out⟩
          case measure => simp [intOf]; omega
        have h3l : a + 1 < fs.length := by have := HFL.out; omega
        have h3i : ((a : Int) + 1) < (fs.length : Int) := by omega
        have h3j : (a : Int) < (fs.length : Int) := by omega
        have ha0 : 0 ≤ (a : Int) := by omega
        have ha1 : 0 ≤ (a : Int) + 1 := by omega
        have hna : ((a : Int) + 1).toNat = a + 1 := by omega
        have hxa : fs[a]? = some fs[a] := List.getElem?_eq_getElem (by omega)
        have hxb : fs[a + 1]? = some fs[a + 1] := List.getElem?_eq_getElem (by omega)
        generalize fs[a] = fa at hxa
        generalize fs[a + 1] = fb at hxb
        obtain ⟨hfa0, hfa1⟩ := HFB.out a fa hxa
        obtain ⟨hfb0, hfb1⟩ := HFB.out (a + 1) fb hxb
        obtain ⟨b3, off3, rfl, hD3, hrow3⟩ := hfx (by rintro rfl; simp at h3l)
        obtain ⟨cs, rfl, hcs⟩ := hrow3 a fa hxa
        obtain ⟨cs', rfl, hcs'⟩ := hrow3 (a + 1) fb hxb
        have hb3 := hD b3 hD3
        have HB01 : Hid (Below w.heap.size w w1) := ((Below.refl _ _).alloc (Nat.le_refl _) _).trans (HB1.out.mono (by omega))
        have p0 : w.cell? ⟨b3, off3 + a, none⟩ = some (.int .i64 fa) := by have := (hcs 0 _ rfl).1; rwa [Nat.mul_one] at this
        have p1 : w.cell? ⟨b3, off3 + (a + 1), none⟩ = some (.int .i64 fb) := by have := (hcs' 0 _ rfl).1; rwa [Nat.mul_one] at this
        have P0 := Lib.hid p0
        have P1 := Lib.hid p1
        have d0 : w1.cell? ⟨b3, off3 + a, none⟩ = some (.int .i64 fa) := (HB01.out.cell (p := ⟨b3, _, none⟩) hb3).trans p0
        clear p0 p1 hcs hcs' hrow3 hfx hxa hxb f0 f1 f2
        go_wp2_with fail
        have ha10 : a * 1001 ≤ 100100 := hab
        have hx2' : (xs.length : Int) ≤ 10 + (a * 1001 : Nat) := by omega
        go_loopw [11, 14] (fun q kq wq => ∃ (kk : Int) (ys : List Int), kq = .int .i64 kk ∧ fa ≤ kk ∧ kk ≤ 1000 ∧ 1 ≤ ys.length ∧ (ys.length : Int) ≤ 10 + (a * 1001 : Nat) + (kk - fa) ∧ Hid (OI wq (w.heap.size + 1) q ys) ∧ Hid (Below (w.heap.size + 1) (w.alloc (.cells #[.int .i64 f.params, .int .i64 f.names, .slice A f.blocks.length c] 26)) wq)) (fun _ kq _ => (1001 - intOf kq).toNat)
        case atStart => exact ⟨fa, xs, rfl, by omega, by omega, hx1, by omega, HO1.out, HB1.out⟩
        case round =>
          obtain ⟨kk, ys, rfl, hk1, hk2, hy1, hy2, HO, HB⟩ := hrel
          have HB0 : Hid (Below w.heap.size w wr) := ((Below.refl _ _).alloc (Nat.le_refl _) _).trans (HB.out.mono (by omega))
          have hzw : w.heap.size + 1 ≤ wr.heap.size := by have := HB.out.size; simp at this; omega
          have d1 : wr.cell? ⟨b3, off3 + (a + 1), none⟩ = some (.int .i64 fb) := (HB0.out.cell (p := ⟨b3, _, none⟩) hb3).trans P1.out
          by_cases hkb : kk < fb
          case neg =>
            have hkb' : fb ≤ kk := by omega
            clear hkb
            go_wp2_with fail
            go_roundw
            case rel => exact ⟨a + 1, ys, by omega, by go_num, hy1, by omega, HO.out, HB.out⟩
            case measure => simp [intOf]; omega
          by_cases hcond : ((a : Int) != (b : Int)) = false ∧ below ≤ kk
          · obtain ⟨g1, g2⟩ := hcond
            go_wp2_with fail
            go_roundw
            case rel => exact ⟨a + 1, ys, by omega, by go_num, hy1, by omega, HO.out, HB.out⟩
            case measure => simp [intOf]; omega
          have hor : ((a : Int) != (b : Int)) = true ∨ (((a : Int) != (b : Int)) = false ∧ kk < below) := by
            cases hq : ((a : Int) != (b : Int))
            · right
              refine ⟨rfl, ?_⟩
              rcases Int.lt_or_le kk below with h | h
              · exact h
              · exact absurd ⟨hq, h⟩ hcond
            · exact .inl rfl
          clear hcond
          rcases hor with g1 | ⟨g1, g2⟩
          all_goals
            go_wp2_with (at_builtin; go_must (refine wpList_append_int rfl (.tmp 61) (.tmp 63) rfl (w.heap.size + 1) _ ys kk wr rfl HO.out rfl (by omega) (by omega) ?_; intro v' w2 hown2 hg2 hat2; have HO2 := Lib.hid hown2; have HB2 := Lib.hid (HB.out.grown hg2 (by omega) (fun k hk => (HO.out.lt k hk).1)); clear hown2 hg2 hat2))
            go_roundw
            case rel => exact ⟨kk + 1, ys ++ [kk], rfl, by omega, by omega, by simp, by simp; omega, HO2.out, HB2.out⟩
            case measure => simp [intOf]; omega
      · obtain rfl : a = f.blocks.length := by omega
        have HWb : Hid (Wr (fun _ => False) L w wr) := Wr.below HB0.out
        have HD1 := Lib.hid (HD0.out.keep HWb.out (LExt.refl _ _) (fun h => h) fun h => h)
        have hgl := HD0.out.lt
        have hown : ∀ k, u11.ownBlock = some k → k ≠ g := fun k hk => by have := (HO.out.lt k hk).1; omega
        have HOW := Lib.hid hown
        have hne11 : u11.ownBlock = none ∨ u11.ownBlock ≠ some g := by
          rcases hob : u11.ownBlock with _ | k
          · exact .inl rfl
          · exact .inr fun e => by injection e with e; exact hown k hob e
        clear hown
        go_wp2_with fail
        refine (l1Once_any Bc g _ _ HD1.out.cur).mono ?_
        rintro e w1 ⟨bb, rfl, hc1, hg1⟩
        have HO1 := Lib.hid (HO.out.grown hg1 hne11)
        have HC1 := Lib.hid hc1
        have HG1 := Lib.hid hg1
        clear hc1 hg1 HO
        have hln : (xs.length : Int) ≤ 1000000 := by omega
        have hl1' : 1 ≤ (xs.length : Int) := by omega
        have hfin : ∀ w2 : World, Cur w2 Bc g → w1.grownBy w2 (some g) → DSta w2 Bc g L ∧ Wr (· = [9]) L w w2 := fun w2 hc hg =>
          ⟨HD0.out.grown hc, (HWb.out.mono fun _ h => h.elim).trans (Wr.grown (HG1.out.trans hg) fun g' e => by injection e with e; rw [← e]; exact HD0.out.lg) (LExt.refl _ _)⟩
        have HFIN := Lib.hid hfin
        clear hfin
        obtain ⟨A11, c11, he11⟩ : ∃ A c, u11 = .slice A xs.length c := by
          obtain ⟨_, A, c, rfl, _⟩ := HO1.out.ri
          exact ⟨A, c, rfl⟩
        subst he11
        cases bb
        · go_wp2_with fail
          refine (l1Below_any Bc g _ _ HC1.out).mono ?_
          rintro e w2 ⟨y, rfl, hy0, hy1, hc2, hg2⟩
          have HO2 := Lib.hid (HO1.out.grown hg2 hne11)
          have hF := HFIN.out w2 hc2 hg2
          have HF2 := Lib.hid hF
          obtain ⟨yn, rfl⟩ : ∃ yn : Nat, y = yn := ⟨y.toNat, by omega⟩
          have hyn : yn < xs.length := by omega
          have hyn' : (yn : Int) < (xs.length : Int) := by omega
          obtain ⟨gg, cc, x, he, hcell⟩ := HO2.out.at_ hyn
          injection he with e1 _ e2
          subst e1 e2
          clear hc2 hg2 hF hy1
          go_wp2_with fail
          go_ret
          exact ⟨_, rfl, HF2.out.1, HF2.out.2⟩
        · go_wp2_with fail
          refine (l1Min_any _ _ _).mono ?_
          rintro e w' ⟨rfl, rfl⟩
          obtain ⟨mn, hmn⟩ : ∃ mn : Int, mn = min 3 (xs.length : Int) := ⟨_, rfl⟩
          have hmn0 : 1 ≤ mn ∧ mn ≤ (xs.length : Int) := by omega
          rw [← hmn]
          clear hmn
          go_wp2_with fail
          refine (l1Below_any Bc g _ _ HC1.out).mono ?_
          rintro e w2 ⟨y, rfl, hy0, hy1, hc2, hg2⟩
          have HO2 := Lib.hid (HO1.out.grown hg2 hne11)
          have hF := HFIN.out w2 hc2 hg2
          have HF2 := Lib.hid hF
          obtain ⟨yn, hyn⟩ : ∃ yn : Nat, (xs.length : Int) - 1 - y = yn := ⟨((xs.length : Int) - 1 - y).toNat, by omega⟩
          have hyl : yn < xs.length := by omega
          have hyl' : (yn : Int) < (xs.length : Int) := by omega
          obtain ⟨gg, cc, x, he, hcell⟩ := HO2.out.at_ hyl
          injection he with e1 _ e2
          subst e1 e2
          have hy2 : y ≤ (xs.length : Int) - 1 := by omega
          clear hc2 hg2 hF hy1 hmn0
          go_wp2_with fail
          go_ret
          exact ⟨_, rfl, HF2.out.1, HF2.out.2⟩
end

/- The state while a block is being filled. -/
section
open Go.ChangeShapes Go.WideShapes Go.ChangeAt Go.RowKit Go.Joins

theorem Wr.drew {P : List Nat → Prop} {L : Nat → List Nat} {a b : World} (h : Wr P L a b) : Wr P L a b.drew := ⟨h.os, h.tape, h.output, h.size, h.block⟩
theorem LR.ofOI {w : World} {B : Nat} {v : Value} {xs : List Int} {L : Nat → List Nat} {p : List Nat} (h : OI w B v xs) (hL : Lb L v p) : LR w B 2 1 L p (fun _ => EInt) v xs :=
  ⟨xs.map iv, h, hL, fun k x hx => ⟨[.int .i64 x], rfl, rfl, fun j u hu => by
    cases j with
    | zero =>
      simp at hu
      subst hu
      rw [Nat.mul_one, Nat.add_zero, List.getElem?_map, hx]
      rfl
    | succ j => simp at hu⟩⟩
theorem predsK_lt (g : EndD → List Int) (xs : List BlockD) (k : Nat) (j : Int) : ∀ (i : Nat) x, (predsK g xs k j)[i]? = some x → ∃ m : Nat, x = m ∧ m < k := fun i x hx => by
  have hm := List.mem_of_getElem? hx
  unfold predsK at hm
  obtain ⟨m, hm2, hm3⟩ := List.mem_map.1 hm
  exact ⟨m, hm3.symm, List.mem_range.1 (List.mem_filter.1 hm2).1⟩

/-- What may be written of block b, and beside it. -/
def FP (b : Nat) (p : List Nat) : Prop := p = [0] ∨ p = [1, b] ∨ p = [3, b] ∨ p = [9] ∨ p = [16] ∨ ∃ j, p = [5, b, j]

structure FSt (w0 w : World) (B Bc g G n c b q : Nat) (L0 L : Nat → List Nat) (ph nm : Int) (vf : Value) (fs : List Int) (bl : List BlockD) : Prop where
  ext : LExt w0 L0 L
  wr : Wr (FP b) L0 w0 w
  sta : DSta w Bc g L
  rows : LBl w B L (.slice (some ⟨G, 0, none⟩) n c) bl
  len : bl.length = n
  tgt : ∀ (i : Nat) x, bl[i]? = some x → EndT n x.fin
  box : w.heap[q]? = some (.cells #[.int .i64 ph, .int .i64 nm, .slice (some ⟨G, 0, none⟩) n c] 26 (0, 0))
  res : w.heap[q + 1]? = some (.cells #[.int .i64 0, .int .i64 0, .slice none 0 0] 26 (0, 0))
  lq : L q = [15] ∧ L (q + 1) = [15]
  hq : w0.heap.size ≤ q
  fst : LR w B 2 1 L [6] (fun _ => EInt) vf fs
  BB : B ≤ w0.heap.size

section
variable {w0 w w' : World} {B Bc g G n c b q : Nat} {L0 L L' : Nat → List Nat} {ph nm : Int} {vf : Value} {fs : List Int} {bl : List BlockD}

theorem EBlockL.keepJ {P : List Nat → Prop} {i m : Nat} {x : BlockD} {cs : List Value} (h : EBlockL w B L i x cs) (hw : Wr P L w w') (hL : LExt w L L') (hm : x.phis.length ≤ m) (hP : ∀ p, P p → NotB i p ∨ p = [5, i, m]) : EBlockL w' B L' i x cs := by
  obtain ⟨v0, v1, v2, v3, rfl, h0, h1, h2, h3⟩ := h
  have hn : ∀ p, P p → p ≠ [1, i] ∧ p ≠ [2, i] ∧ p ≠ [3, i] ∧ p ≠ [4, i] := fun p hp => by
    rcases hP p hp with h | rfl
    · exact ⟨h.1, h.2.1, h.2.2.1, h.2.2.2.1⟩
    · simp
  refine ⟨v0, v1, v2, v3, rfl, ?_, h1.keep hw hL (fun h => (hn _ h).2.1 rfl) fun _ _ _ h => h,
    h2.keep hw hL (fun h => (hn _ h).2.2.1 rfl) fun _ _ _ h => h, h3.keep hw hL (fun h => (hn _ h).2.2.2 rfl) fun _ _ _ h => h⟩
  obtain ⟨xs, g1, g2, g3⟩ := h0
  have hk := LR.keep (E := EPhiL w B L i) (E' := EPhiL w B L i) ⟨xs, g1, g2, g3⟩ hw hL (fun h => (hn _ h).1 rfl) fun _ _ _ h => h
  obtain ⟨ys, k1, k2, k3⟩ := hk
  refine ⟨ys, k1, k2, fun k p hp => ?_⟩
  obtain ⟨ds, hd, hr⟩ := k3 k p hp
  have hkl : k < x.phis.length := (List.getElem?_eq_some_iff.1 hp).1
  exact ⟨ds, hd.keep hw hL fun hh => by
    rcases hP _ hh with h | h
    · exact h.2.2.2.2 k rfl
    · simp at h; omega, hr⟩

/-- What leaves the blocks as they are. -/
theorem FSt.keep {P : List Nat → Prop} {m : Nat} (h : FSt w0 w B Bc g G n c b q L0 L ph nm vf fs bl) (hw : Wr P L w w') (hL : LExt w L L') (hP : ∀ p, P p → p = [9] ∨ p = [16] ∨ p = [5, b, m]) (hm : ∀ x, bl[b]? = some x → x.phis.length ≤ m) (hs : DSta w' Bc g L') : FSt w0 w' B Bc g G n c b q L0 L' ph nm vf fs bl := by
  have hql : q < w.heap.size := (Array.getElem?_eq_some_iff.1 h.box).1
  have hql' : q + 1 < w.heap.size := (Array.getElem?_eq_some_iff.1 h.res).1
  have hn : ∀ p, (p = [15] ∨ p = [6] ∨ p = [0]) → ¬ P p := fun p hp hh => by
    rcases hP p hh with e | e | e <;> rcases hp with e' | e' | e' <;> rw [e] at e' <;> simp at e'
  refine ⟨h.ext.trans hL h.wr.size, h.wr.trans (hw.mono fun p hp => ?_) h.ext, hs, ?_, h.len, h.tgt, (hw.block q hql (by rw [h.lq.1]; exact hn _ (.inl rfl))).trans h.box, (hw.block _ hql' (by rw [h.lq.2]; exact hn _ (.inl rfl))).trans h.res,
    ⟨(hL _ hql).trans h.lq.1, (hL _ hql').trans h.lq.2⟩, h.hq, h.fst.keep hw hL (hn _ (.inr (.inl rfl))) fun _ _ _ h => h, h.BB⟩
  · unfold FP
    rcases hP p hp with e | e | e
    · simp [e]
    · simp [e]
    · simp [e]
  · have h1 : LR w' B 71 8 L' [0] (EBlockL w B L) (.slice (some ⟨G, 0, none⟩) n c) bl := LR.keep h.rows hw hL (hn _ (.inr (.inr rfl))) fun _ _ _ h => h
    obtain ⟨ys, k1, k2, k3⟩ := h1
    refine ⟨ys, k1, k2, fun k x hx => ?_⟩
    obtain ⟨ds, hd, hr⟩ := k3 k x hx
    refine ⟨ds, ?_, hr⟩
    by_cases e : k = b
    · subst e
      exact hd.keepJ hw hL (hm x hx) fun p hp => by
        rcases hP p hp with e | e | e
        · subst e; exact .inl ⟨by simp, by simp, by simp, by simp, fun j => by simp⟩
        · subst e; exact .inl ⟨by simp, by simp, by simp, by simp, fun j => by simp⟩
        · exact .inr e
    · exact hd.keep hw hL fun p hp => by
        rcases hP p hp with e' | e' | e'
        · subst e'; exact ⟨by simp, by simp, by simp, by simp, fun j => by simp⟩
        · subst e'; exact ⟨by simp, by simp, by simp, by simp, fun j => by simp⟩
        · subst e'; exact ⟨by simp, by simp, by simp, by simp, fun j => by simp; intro e2; exact absurd e2.symm e⟩

theorem exists_phis (bl : List BlockD) (b : Nat) : ∃ m, ∀ x, bl[b]? = some x → x.phis.length ≤ m := by
  cases h : bl[b]? with
  | none => exact ⟨0, fun x hx => by cases hx⟩
  | some y => exact ⟨y.phis.length, fun x hx => by injection hx with hx; subst hx; exact Nat.le_refl _⟩
theorem FSt.call (h : FSt w0 w B Bc g G n c b q L0 L ph nm vf fs bl) (hs : DSta w' Bc g L) (hw : Wr (· = [9]) L w w') : FSt w0 w' B Bc g G n c b q L0 L ph nm vf fs bl := by
  obtain ⟨m, hm⟩ := exists_phis bl b
  exact h.keep hw (LExt.refl _ _) (fun p hp => .inl hp) hm hs
theorem FSt.tmp {P : List Nat → Prop} (h : FSt w0 w B Bc g G n c b q L0 L ph nm vf fs bl) (hw : Wr P L w w') (hL : LExt w L L') (hP : ∀ p, P p → p = [16]) : FSt w0 w' B Bc g G n c b q L0 L' ph nm vf fs bl := by
  obtain ⟨m, hm⟩ := exists_phis bl b
  exact h.keep hw hL (fun p hp => .inr (.inl (hP p hp))) hm (h.sta.keep hw hL (fun h => by have := hP _ h; simp at this) fun h => by have := hP _ h; simp at this)
theorem FSt.alloc (h : FSt w0 w B Bc g G n c b q L0 L ph nm vf fs bl) (o : Obj) : FSt w0 (w.alloc o) B Bc g G n c b q L0 L ph nm vf fs bl := h.tmp ((Wr.refl (fun _ => False) L w).alloc o) (LExt.refl _ _) fun _ h => h.elim
theorem FSt.drew (h : FSt w0 w B Bc g G n c b q L0 L ph nm vf fs bl) : FSt w0 w.drew B Bc g G n c b q L0 L ph nm vf fs bl := h.tmp (Wr.refl (fun _ => False) L w).drew (LExt.refl _ _) fun _ h => h.elim
theorem FSt.args {m : Nat} (h : FSt w0 w B Bc g G n c b q L0 L ph nm vf fs bl) (hw : Wr (· = [5, b, m]) L w w') (hL : LExt w L L') (hm : ∀ x, bl[b]? = some x → x.phis.length ≤ m) : FSt w0 w' B Bc g G n c b q L0 L' ph nm vf fs bl :=
  h.keep hw hL (fun p hp => .inr (.inr hp)) hm (h.sta.keep hw hL (by simp) (by simp))
/-- Block b is written. -/
theorem FSt.upd {P : List Nat → Prop} {y : BlockD} (h : FSt w0 w B Bc g G n c b q L0 L ph nm vf fs bl) (hw : Wr P L w w') (hL : LExt w L L') (hP : ∀ p, P p → p = [0] ∨ p = [1, b] ∨ p = [3, b])
    (hb : LBl w' B L' (.slice (some ⟨G, 0, none⟩) n c) (bl.set b y)) (hy : EndT n y.fin) : FSt w0 w' B Bc g G n c b q L0 L' ph nm vf fs (bl.set b y) := by
  have hql : q < w.heap.size := (Array.getElem?_eq_some_iff.1 h.box).1
  have hql' : q + 1 < w.heap.size := (Array.getElem?_eq_some_iff.1 h.res).1
  have hn : ∀ p, (p = [15] ∨ p = [6] ∨ p = [9] ∨ p = [8]) → ¬ P p := fun p hp hh => by
    rcases hP p hh with e | e | e <;> rcases hp with e' | e' | e' | e' <;> rw [e] at e' <;> simp at e'
  refine ⟨h.ext.trans hL h.wr.size, h.wr.trans (hw.mono fun p hp => ?_) h.ext, h.sta.keep hw hL (hn _ (by simp)) (hn _ (by simp)), hb, by simpa using h.len, fun i x hx => ?_, (hw.block q hql (by rw [h.lq.1]; exact hn _ (.inl rfl))).trans h.box, (hw.block _ hql' (by rw [h.lq.2]; exact hn _ (.inl rfl))).trans h.res,
    ⟨(hL _ hql).trans h.lq.1, (hL _ hql').trans h.lq.2⟩, h.hq, h.fst.keep hw hL (hn _ (.inr (.inl rfl))) fun _ _ _ h => h, h.BB⟩
  · unfold FP
    rcases hP p hp with e | e | e <;> simp [e]
  · rw [List.getElem?_set] at hx
    by_cases e : b = i
    · rw [if_pos e] at hx
      split at hx
      · injection hx with hx; subst hx; exact hy
      · cases hx
    · rw [if_neg e] at hx; exact h.tgt i x hx

theorem FSt.box_cells (h : FSt w0 w B Bc g G n c b q L0 L ph nm vf fs bl) : w.cell? ⟨q, 0, none⟩ = some (.int .i64 ph) ∧ w.cell? ⟨q, 1, none⟩ = some (.int .i64 nm) ∧ w.cell? ⟨q, 2, none⟩ = some (.slice (some ⟨G, 0, none⟩) n c) ∧ q < w.heap.size ∧ q + 1 < w.heap.size :=
  ⟨cell_of_row w q 0 _ _ _ h.box, cell_of_row w q 1 _ _ _ h.box, cell_of_row w q 2 _ _ _ h.box, (Array.getElem?_eq_some_iff.1 h.box).1, (Array.getElem?_eq_some_iff.1 h.res).1⟩
theorem FSt.efun (h : FSt w0 w B Bc g G n c b q L0 L ph nm vf fs bl) : EFun w (Zn.new B w.heap.size) ⟨ph, nm, bl⟩ (.agg #[.int .i64 ph, .int .i64 nm, .slice (some ⟨G, 0, none⟩) n c]) :=
  ⟨_, rfl, h.rows.row fun _ h1 h2 => ⟨h1, h2⟩⟩

/-- One pick. -/
theorem FSt.pick (h : FSt w0 w B Bc g G n c b q L0 L ph nm vf fs bl) (i : Nat) (below : Int) (hn : n ≤ 100) (hi : i < n) (hp : 1 ≤ ph ∧ ph ≤ 10) (hfl : fs.length = n + 1) (hfb : ∀ (i : Nat) x, fs[i]? = some x → 0 ≤ x ∧ x ≤ 1000) :
    Calls Tryd.prog 99 #[.pointer (some ⟨g, 0, none⟩), .agg #[.int .i64 ph, .int .i64 nm, .slice (some ⟨G, 0, none⟩) n c], .int .i64 i, vf, .int .i64 below] w (fun e w' => ∃ x : Int, e = .returned (.int .i64 x) ∧ FSt w0 w' B Bc g G n c b q L0 L ph nm vf fs bl ∧ Wr (· = [9]) L w w') := by
  have hlen := h.len
  refine (l2Pick_any ⟨ph, nm, bl⟩ _ vf fs i below w (Zn.new B w.heap.size) Bc g L h.efun (fun b hb => hb.2) ⟨by show 1 ≤ bl.length; omega, fun i x hx => by show EndT bl.length x.fin; rw [hlen]; exact h.tgt i x hx⟩ (by show bl.length ≤ 100; omega) (by show i < bl.length; omega) hp (h.fst.row (fun _ h1 h2 => ⟨h1, h2⟩) fun _ _ _ h => h) (by show fs.length = bl.length + 1; omega) hfb h.sta).mono ?_
  rintro e w' ⟨x, rfl, hd, hw⟩
  exact ⟨x, rfl, h.call hd hw, hw⟩

/-- The cells of block b. -/
theorem FSt.block (h : FSt w0 w B Bc g G n c b q L0 L ph nm vf fs bl) {x : BlockD} (hx : bl[b]? = some x) : ∃ v0 v2,
    (w.cell? ⟨G, b * 8, none⟩ = some v0 ∧ w.frozen? ⟨G, b * 8, none⟩ = false ∧ LR w B 94 2 L [1, b] (EPhiL w B L b) v0 x.phis) ∧
    (w.cell? ⟨G, b * 8 + 2, none⟩ = some v2 ∧ w.frozen? ⟨G, b * 8 + 2, none⟩ = false ∧ LR w B 91 4 L [3, b] (fun _ => EIns) v2 x.body) ∧
    (w.cell? ⟨G, b * 8 + 4, none⟩ = some (.int .i64 x.fin.k) ∧ (∃ z, w.cell? ⟨G, b * 8 + 5, none⟩ = some z) ∧ w.frozen? ⟨G, b * 8 + 5, none⟩ = false) ∧ G < w.heap.size := by
  obtain ⟨cs, ⟨v0, v1, v2, v3, rfl, r0, r1, r2, r3⟩, _, hc⟩ := LR.get h.rows hx
  exact ⟨v0, v2, ⟨(hc 0 _ rfl).1, (hc 0 _ rfl).2, r0⟩, ⟨(hc 2 _ rfl).1, (hc 2 _ rfl).2, r2⟩, ⟨(hc 4 _ rfl).1, ⟨_, (hc 5 _ rfl).1⟩, (hc 5 _ rfl).2⟩, (h.rows.lab).1⟩
theorem FSt.num {g6 N c6 : Nat} (h : FSt w0 w B Bc g G n c b q L0 L ph nm (.slice (some ⟨g6, 0, none⟩) N c6) fs bl) {k : Nat} {x : Int} (hx : fs[k]? = some x) : w.cell? ⟨g6, k, none⟩ = some (.int .i64 x) ∧ g6 < w.heap.size := by
  obtain ⟨cs, rfl, _, hc⟩ := LR.get h.fst hx
  have := (hc 0 _ rfl).1
  rw [Nat.mul_one] at this
  refine ⟨this, ?_⟩
  obtain ⟨xs, h1, _⟩ := h.fst
  exact (World.ownsRow.lt h1 g6 rfl).2

theorem set_at {α : Type} {l : List α} {i : Nat} (h : i < l.length) (x : α) : (l.set i x)[i]? = some x := by rw [List.getElem?_set, if_pos rfl, if_pos h]
theorem phis_keep {v : Value} {X : List PhiD} (h : LR w B 94 2 L [1, b] (EPhiL w B L b) v X) (hw : Wr (fun _ => False) L w w') : LR w' B 94 2 L [1, b] (EPhiL w' B L b) v X :=
  h.keep hw (LExt.refl _ _) (fun h => h) fun _ _ _ h => h.keep hw (LExt.refl _ _) fun h => h
theorem wr_alloc (w : World) (L : Nat → List Nat) (o : Obj) : Wr (fun _ => False) L w (w.alloc o) := (Wr.refl _ _ _).alloc o
theorem wr_drew (w : World) (L : Nat → List Nat) : Wr (fun _ => False) L w w.drew := (Wr.refl _ _ _).drew

theorem FSt.putPhi {y : BlockD} {k gg cap : Nat} {var : Int} {pa : List Int} {u : Value} {wa w9 : World} (h : FSt w0 w B Bc g G n c b q L0 L ph nm vf fs (bl.set b y)) (hk : y.phis.length = k) (hb : b < n) (hu : LR w B 2 1 L [5, b, k] (fun _ => EInt) u pa)
    (hwa : Wr (fun _ => False) L w wa) (hs : Snoc wa w9 B 94 2 L [1, b] (EPhiL wa B L b) y.phis [.int .i64 var, u] gg cap) :
    FSt w0 (w9.setCell ⟨G, b * 8, none⟩ (.slice (some ⟨gg, 0, none⟩) (y.phis.length + 1) cap)) B Bc g G n c b q L0 (relab L wa.heap.size [1, b]) ph nm vf fs (bl.set b { y with phis := y.phis ++ [⟨var, pa⟩] }) ∧
    Wr (fun p => p = [0] ∨ p = [1, b]) L w (w9.setCell ⟨G, b * 8, none⟩ (.slice (some ⟨gg, 0, none⟩) (y.phis.length + 1) cap)) ∧ LExt w L (relab L wa.heap.size [1, b]) := by
  have hbl : b < bl.length := by have := h.len; simp at this; omega
  have hLa : LExt wa L (relab L wa.heap.size [1, b]) := relab_ext _ _ _
  have hL : LExt w L (relab L wa.heap.size [1, b]) := fun j hj => hLa j (Nat.lt_of_lt_of_le hj hwa.size)
  have hw : Wr (· = [1, b]) L w w9 := (hwa.mono fun _ h => h.elim).trans hs.wr (LExt.refl _ _)
  have hG := h.rows.lab
  have hw2 : Wr (fun p => p = [0] ∨ p = [1, b]) L w (w9.setCell ⟨G, b * 8, none⟩ (.slice (some ⟨gg, 0, none⟩) (y.phis.length + 1) cap)) := (hw.mono fun _ h => .inr h).set (fun _ => .inl hG.2) _ _
  have hrow := hs.lr (EPhiL w9 B (relab L wa.heap.size [1, b]) b) ⟨var, pa⟩ (fun j z ds hz => hz.keep hs.wr hLa (by simp)) ⟨u, rfl, by
    rw [hk]
    exact hu.keep hw hL (by simp) fun _ _ _ h => h⟩
  have hset := h.rows.setPhis (set_at hbl y) hw hL hrow
  rw [List.set_set] at hset
  have h2 := h.upd (y := { y with phis := y.phis ++ [⟨var, pa⟩] }) hw2 hL (fun p hp => by rcases hp with e | e <;> simp [e]) (by rw [List.set_set]; exact hset) (h.tgt b y (set_at hbl y))
  rw [List.set_set] at h2
  exact ⟨h2, hw2, hL⟩

theorem FSt.putIns {y : BlockD} {gg cap : Nat} {i : InsD} {wa w9 : World} (h : FSt w0 w B Bc g G n c b q L0 L ph nm vf fs (bl.set b y)) (hb : b < n)
    (hwa : Wr (fun _ => False) L w wa) (hs : Snoc wa w9 B 91 4 L [3, b] (fun _ => EIns) y.body [.int .i64 i.op, .int .i64 i.v, .int .i64 i.a, .int .i64 i.b] gg cap) :
    FSt w0 (w9.setCell ⟨G, b * 8 + 2, none⟩ (.slice (some ⟨gg, 0, none⟩) (y.body.length + 1) cap)) B Bc g G n c b q L0 (relab L wa.heap.size [3, b]) ph nm vf fs (bl.set b { y with body := y.body ++ [i] }) ∧
    Wr (fun p => p = [0] ∨ p = [3, b]) L w (w9.setCell ⟨G, b * 8 + 2, none⟩ (.slice (some ⟨gg, 0, none⟩) (y.body.length + 1) cap)) ∧ LExt w L (relab L wa.heap.size [3, b]) := by
  have hbl : b < bl.length := by have := h.len; simp at this; omega
  have hLa : LExt wa L (relab L wa.heap.size [3, b]) := relab_ext _ _ _
  have hL : LExt w L (relab L wa.heap.size [3, b]) := fun j hj => hLa j (Nat.lt_of_lt_of_le hj hwa.size)
  have hw : Wr (· = [3, b]) L w w9 := (hwa.mono fun _ h => h.elim).trans hs.wr (LExt.refl _ _)
  have hG := h.rows.lab
  have hw2 : Wr (fun p => p = [0] ∨ p = [3, b]) L w (w9.setCell ⟨G, b * 8 + 2, none⟩ (.slice (some ⟨gg, 0, none⟩) (y.body.length + 1) cap)) := (hw.mono fun _ h => .inr h).set (fun _ => .inl hG.2) _ _
  have hrow := hs.lr (fun _ => EIns) i (fun _ _ _ h => h) rfl
  have hset := h.rows.setBody (set_at hbl y) hw hL hrow
  rw [List.set_set] at hset
  have h2 := h.upd (y := { y with body := y.body ++ [i] }) hw2 hL (fun p hp => by rcases hp with e | e <;> simp [e]) (by rw [List.set_set]; exact hset) (h.tgt b y (set_at hbl y))
  rw [List.set_set] at h2
  exact ⟨h2, hw2, hL⟩

/-- The name that the End takes is written. -/
theorem FSt.putEnd {y : BlockD} {z : Int} (h : FSt w0 w B Bc g G n c b q L0 L ph nm vf fs (bl.set b y)) (hb : b < n) :
    FSt w0 (w.setCell ⟨G, b * 8 + 5, none⟩ (.int .i64 z)) B Bc g G n c b q L0 L ph nm vf fs (bl.set b { y with fin := { y.fin with a := z } }) := by
  have hbl : b < bl.length := by have := h.len; simp at this; omega
  have hG := h.rows.lab
  have hset := h.rows.setEnd (j := 1) (z := z) (e := { y.fin with a := z }) (set_at hbl y) (by omega) rfl
  rw [List.set_set] at hset
  have h2 := h.upd (P := (· = [0])) (y := { y with fin := { y.fin with a := z } }) (wr_set0 hG.2) (LExt.refl _ _) (fun p hp => by simp [hp]) (by rw [List.set_set]; exact hset) (h.tgt b y (set_at hbl y))
  rw [List.set_set] at h2
  exact h2

theorem snoc_cell {α : Type} {T : TypeId} {S : Nat} {p : List Nat} {E : Nat → α → List Value → Prop} {X : List α} {cs : List Value} {gg cap k : Nat} {wa w9 : World} (hwa : Wr (fun _ => False) L w wa) (hs : Snoc wa w9 B T S L p E X cs gg cap) (hk : k < w.heap.size) (hn : L k ≠ p) (o : Nat) :
    w9.cell? ⟨k, o, none⟩ = w.cell? ⟨k, o, none⟩ ∧ w9.frozen? ⟨k, o, none⟩ = w.frozen? ⟨k, o, none⟩ := by
  have h : w9.heap[k]? = w.heap[k]? := (hs.wr.block k (Nat.lt_of_lt_of_le hk hwa.size) hn).trans (hwa.block k hk fun h => h)
  exact ⟨World.cell?_of_block (a := ⟨k, o, none⟩) h, World.frozen?_of_block (a := ⟨k, o, none⟩) h⟩

theorem FSt.putArg {y : BlockD} {k gg cap q3 : Nat} {var xx : Int} {pa : List Int} {u : Value} {wa w9 : World} (h : FSt w0 w B Bc g G n c b q L0 L ph nm vf fs (bl.set b y)) (hk : y.phis.length = k) (hb : b < n) (hB : w.heap[q3]? = some (.cells #[.int .i64 var, u] 94 (0, 0))) (hl : L q3 = [16])
    (hwa : Wr (fun _ => False) L w wa) (hs : Snoc wa w9 B 2 1 L [5, b, k] (fun _ => EInt) pa [.int .i64 xx] gg cap) :
    FSt w0 (w9.setCell ⟨q3, 1, none⟩ (.slice (some ⟨gg, 0, none⟩) (pa.length + 1) cap)) B Bc g G n c b q L0 (relab L wa.heap.size [5, b, k]) ph nm vf fs (bl.set b y) ∧
    Wr (fun p => p = [16] ∨ p = [5, b, k]) L w (w9.setCell ⟨q3, 1, none⟩ (.slice (some ⟨gg, 0, none⟩) (pa.length + 1) cap)) ∧ LExt w L (relab L wa.heap.size [5, b, k]) ∧
    LR (w9.setCell ⟨q3, 1, none⟩ (.slice (some ⟨gg, 0, none⟩) (pa.length + 1) cap)) B 2 1 (relab L wa.heap.size [5, b, k]) [5, b, k] (fun _ => EInt) (.slice (some ⟨gg, 0, none⟩) (pa.length + 1) cap) (pa ++ [xx]) ∧
    (w9.setCell ⟨q3, 1, none⟩ (.slice (some ⟨gg, 0, none⟩) (pa.length + 1) cap)).heap[q3]? = some (.cells #[.int .i64 var, .slice (some ⟨gg, 0, none⟩) (pa.length + 1) cap] 94 (0, 0)) ∧ relab L wa.heap.size [5, b, k] q3 = [16] := by
  have hbl : b < bl.length := by have := h.len; simp at this; omega
  have hLa : LExt wa L (relab L wa.heap.size [5, b, k]) := relab_ext _ _ _
  have hL : LExt w L (relab L wa.heap.size [5, b, k]) := fun j hj => hLa j (Nat.lt_of_lt_of_le hj hwa.size)
  have hw : Wr (· = [5, b, k]) L w w9 := (hwa.mono fun _ h => h.elim).trans hs.wr (LExt.refl _ _)
  have hlt : q3 < w.heap.size := (Array.getElem?_eq_some_iff.1 hB).1
  have hl2 : relab L wa.heap.size [5, b, k] q3 = [16] := (hL q3 hlt).trans hl
  have hw2 : Wr (fun p => p = [16] ∨ p = [5, b, k]) L w (w9.setCell ⟨q3, 1, none⟩ (.slice (some ⟨gg, 0, none⟩) (pa.length + 1) cap)) := (hw.mono fun _ h => .inr h).set (fun _ => .inl hl) _ _
  have hrow := hs.lr (fun _ => EInt) xx (fun _ _ _ h => h) rfl
  have h9 : w9.heap[q3]? = some (.cells #[.int .i64 var, u] 94 (0, 0)) := (hw.block q3 hlt (by rw [hl]; simp)).trans hB
  refine ⟨h.keep (m := k) hw2 hL (fun p hp => by rcases hp with e | e <;> simp [e]) (fun x hx => by
    rw [set_at hbl y] at hx
    injection hx with hx
    subst hx
    omega) (h.sta.keep hw2 hL (by simp) (by simp)), hw2, hL, ?_, heap_setCell_same w9 q3 1 _ _ _ h9, hl2⟩
  exact hrow.keep ((Wr.refl (· = [16]) _ w9).set (fun _ => hl2) _ _) (LExt.refl _ _) (by simp) fun _ _ _ h => h
end
end

end Go.Proofs.YteikpekffgifoaaDoor
