/- DefsOf of the model. -/
import Derived.Test.YtbghcoihndlihaaGives
import Derived.Test.YtbghcoihndlihaaDefI
import Derived.Test.YtbghcoihndlihaaL2d
namespace Go.Proofs.Ytbghcoihndlihaa
open Go.ChangeShapes Go.WideShapes Go.ChangeAt Go.RowKit Go.Joins

theorem parG_dst {n : Nat} {e : EvD} (h : e ∈ parG n) : e.pl.dst = 0 ∧ 0 ≤ e.n ∧ e.n < n := by
  unfold parG at h
  rw [List.mem_map] at h
  obtain ⟨i, hi, rfl⟩ := h
  have := List.mem_range.1 hi
  exact ⟨rfl, by show (0 : Int) ≤ (i : Int); omega, by show (i : Int) < n; omega⟩
theorem blkG_dst {k : Int} {x : BlockD} {e : EvD} (h : e ∈ blkG k x) : e.pl.dst = k := by
  unfold blkG phG mvG insG at h
  simp only [List.mem_append] at h
  rcases h with ((h | h) | h) | h
  · obtain ⟨i, y, _, _, hy⟩ := mem_upTo h
    simp at hy; rw [hy]
  · obtain ⟨i, y, _, _, hy⟩ := mem_upTo h
    simp at hy; rw [hy]
  · obtain ⟨i, y, _, _, hy⟩ := mem_upTo h
    split at hy
    · cases hy
    · simp at hy; rw [hy]
  · obtain ⟨i, y, _, _, hy⟩ := mem_upTo h
    simp at hy; rw [hy]
theorem blkP_dst {f : FunD} {k : Nat} {x : BlockD} {e : EvD} (h : e ∈ blkP f k x) : e.pl.dst = k := by
  unfold blkP at h
  rw [List.mem_append] at h
  rcases h with h | h
  · split at h
    · rename_i hk; subst hk; exact (parG_dst h).1
    · cases h
  · exact blkG_dst h
/-- The names that a right block gives. -/
theorem blkG_name {f : FunD} (hp : FunP f) {k : Nat} {x : BlockD} (hx : f.blocks[k]? = some x) {e : EvD} (h : e ∈ blkG k x) : isBelowB e.n f.names = true := by
  have hb := hp.1.2.2.2.2 k x hx
  unfold blkG phG mvG insG at h
  simp only [List.mem_append] at h
  rcases h with ((h | h) | h) | h
  · obtain ⟨i, y, _, hi, hy⟩ := mem_upTo h
    simp at hy; rw [hy]; exact ((hp.2.2.2 k x hx).2 i y hi).1
  · obtain ⟨i, y, _, hi, hy⟩ := mem_upTo h
    simp at hy; rw [hy]; exact (hb.2.1.2.1 i y hi).1
  · obtain ⟨i, y, _, hi, hy⟩ := mem_upTo h
    split at hy
    · cases hy
    · rename_i hv
      simp at hy; rw [hy]
      have h1 := hb.2.2.2.2 i y hi
      have h2 := insP_v h1
      have h3 := h1.2.1
      simp [isBelowB]; omega
  · obtain ⟨i, y, _, hi, hy⟩ := mem_upTo h
    simp at hy; rw [hy]; exact (hb.2.2.1.2.1 i y hi).1
theorem defsK_name {f : FunD} (hp : FunP f) {k : Nat} {e : EvD} (h : e ∈ defsK f k) : isBelowB e.n f.names = true := by
  unfold defsK at h
  rw [List.mem_append] at h
  rcases h with h | h
  · have := parG_dst h
    have h1 := hp.1.2.2.1
    have h2 := hp.1.2.2.2.1
    simp [isBelowB]; omega
  · obtain ⟨i, x, _, hx, hy⟩ := mem_upTo h
    exact blkG_name hp hx hy
theorem pick_none {evs : List EvD} {names j : Int} (h : ∀ e ∈ evs, isBelowB e.n names = true) (hj : ¬ isBelowB j names = true) : pick evs j = [] := by
  unfold pick
  rw [List.map_eq_nil_iff, List.filter_eq_nil_iff]
  intro e he hc
  have : e.n = j := by simpa using hc
  exact hj (this ▸ h e he)
theorem blkP_len {f : FunD} (hp : FunP f) {k : Nat} {x : BlockD} (hx : f.blocks[k]? = some x) : (blkP f k x).length ≤ 170 := by
  have h1 := blkG_len hp hx
  have h2 := hp.1.2.2.1.2
  unfold blkP
  rw [List.length_append]
  split
  · rw [parG_len]; omega
  · simp; omega
theorem upTo_blkP_len {f : FunD} (hp : FunP f) (k : Nat) (hk : k ≤ f.blocks.length) : (upTo (blkP f) f.blocks k).length ≤ 7000 := by
  rcases Nat.eq_zero_or_pos k with rfl | h
  · simp [upTo_zero]
  · rw [blkP_all f k hk h]; exact defsK_len hp k hk
theorem pick_take {evs : List EvD} {m : Nat} {e : EvD} (h : evs[m]? = some e) (j : Int) : pick (evs.take (m + 1)) j = if e.n = j then pick (evs.take m) j ++ [e.pl] else pick (evs.take m) j := by
  rw [take_snoc h, pick_snoc]
theorem sDefsOf_res {f : FunD} (hp : FunP f) (j : Int) : DefsOfRes f j (pick (upTo (blkP f) f.blocks f.blocks.length) j) := by
  rw [blkP_all f _ (Nat.le_refl _) hp.1.1.1]
  by_cases hj : isBelowB j f.names = true
  · exact .inl ⟨hp, hj, rfl⟩
  · exact .inr ⟨fun h => hj h.2, pick_none (fun e he => defsK_name hp he) hj⟩

set_option maxRecDepth 10000 in
set_option maxHeartbeats 2000000 in
theorem sDefsOf_any (f : FunD) (v : Value) (j : Int) (w : World) (Z : Zn) (hv : EFun w Z f v) (hD : ∀ b, Z.D b → b < w.heap.size) (hn : f.blocks.length ≤ 1048576) : Calls Try.prog 6 #[v, .int .i64 j] w (GivesDefsOf f j w) := by
  have HF := Lib.hid hv
  obtain ⟨u, rfl, hu⟩ := hv
  obtain ⟨_, A, c, rfl, hx⟩ := hu
  clear hx
  by_cases hp : FunP f
  case neg =>
    have HN := Lib.hid hp
    have HR : Hid (DefsOfRes f j []) := .inr ⟨fun h => HN.out h.1, rfl⟩
    clear hp
    go_enter Try.func6, Try.ntmps6
    go_wp2_with fail
    have hO : OP ((w.alloc (.cells #[.int .i64 f.params, .int .i64 f.names, .slice A f.blocks.length c] 30)).alloc (.cells #[] 43)) (w.heap.size + 1) (.slice (some ⟨w.heap.size + 1, 0, none⟩) 0 0) [] := OP_lit0 _ (by simp) (by omega)
    have hB : Below w.heap.size w ((w.alloc (.cells #[.int .i64 f.params, .int .i64 f.names, .slice A f.blocks.length c] 30)).alloc (.cells #[] 43)) := ((Below.refl _ _).alloc (Nat.le_refl _) _).alloc (by simp) _
    have f0 : ((w.alloc (.cells #[.int .i64 f.params, .int .i64 f.names, .slice A f.blocks.length c] 30)).alloc (.cells #[] 43)).cell? ⟨w.heap.size, 0, none⟩ = some (.int .i64 f.params) := by go_simp
    have f1 : ((w.alloc (.cells #[.int .i64 f.params, .int .i64 f.names, .slice A f.blocks.length c] 30)).alloc (.cells #[] 43)).cell? ⟨w.heap.size, 1, none⟩ = some (.int .i64 f.names) := by go_simp
    have f2 : ((w.alloc (.cells #[.int .i64 f.params, .int .i64 f.names, .slice A f.blocks.length c] 30)).alloc (.cells #[] 43)).cell? ⟨w.heap.size, 2, none⟩ = some (.slice A f.blocks.length c) := by go_simp
    have hsz : w.heap.size + 2 ≤ ((w.alloc (.cells #[.int .i64 f.params, .int .i64 f.names, .slice A f.blocks.length c] 30)).alloc (.cells #[] 43)).heap.size := by simp
    generalize ((w.alloc (.cells #[.int .i64 f.params, .int .i64 f.names, .slice A f.blocks.length c] 30)).alloc (.cells #[] 43)) = w2 at *
    have HO := Lib.hid hO
    have HB := Lib.hid hB
    clear hO hB
    by_cases h0 : 0 < f.blocks.length
    case neg =>
      have h0' : f.blocks.length = 0 := by omega
      have h0i : (f.blocks.length : Int) ≤ 0 := by omega
      go_loopw [5, 6, 7, 8, 9] (fun o i _ _ _ wr => i = .int .i64 0 ∧ o = .slice (some ⟨w.heap.size + 1, 0, none⟩) 0 0 ∧ wr = w2) (fun _ _ _ _ _ _ => 0)
      case atStart => exact ⟨rfl, rfl, rfl⟩
      case round =>
        obtain ⟨rfl, rfl, rfl⟩ := hrel
        go_wp2_with fail
        go_ret
        exact ⟨[], _, rfl, HR.out, World.ownsRow.mono HO.out (by omega), HB.out⟩
    have h0' : (0 : Int) < (f.blocks.length : Int) := by omega
    go_loopw [5, 6, 7, 8, 9] (fun o i _ _ _ wr => i = .int .i64 0 ∧ o = .slice (some ⟨w.heap.size + 1, 0, none⟩) 0 0 ∧ wr = w2) (fun _ _ _ _ _ _ => 0)
    case atStart => exact ⟨rfl, rfl, rfl⟩
    case round =>
      obtain ⟨rfl, rfl, rfl⟩ := hrel
      go_wp2_with (go_at_call 17; refine (sFunOk_any f _ _ Z (HF.out.keep (Kept.below HB.out hD)) (fun b hb => by have := hD b hb; omega) hn).mono ?_; rintro e w1 ⟨r, rfl, hr, hb1⟩; have HB1 := Lib.hid hb1; obtain rfl : r = false := (by cases r; rfl; exact absurd (hr.1 rfl) HN.out); clear hb1 hr)
      go_ret
      exact ⟨[], _, rfl, HR.out, World.ownsRow.mono (HO.out.below HB1.out fun k hk => (HO.out.lt k hk).2) (by omega), HB.out.trans (HB1.out.mono (by omega))⟩
  have HP := Lib.hid hp
  have hb40 := hp.1.1.2
  have HRES := Lib.hid (sDefsOf_res hp j)
  have HULEN : Hid (∀ k, k ≤ f.blocks.length → (upTo (blkP f) f.blocks k).length ≤ 7000) := fun k hk => upTo_blkP_len hp k hk
  clear hp
  go_enter Try.func6, Try.ntmps6
  go_wp2_with fail
  go_loopw [5, 6, 7, 8, 9] (fun ov i _ _ _ wr => ∃ k : Nat, k ≤ f.blocks.length ∧ i = .int .i64 k ∧ Hid (Below (w.heap.size + 1) (w.alloc (.cells #[.int .i64 f.params, .int .i64 f.names, .slice A f.blocks.length c] 30)) wr) ∧ Hid (OP wr (w.heap.size + 1) ov (pick (upTo (blkP f) f.blocks k) j))) (fun _ i _ _ _ _ => f.blocks.length - (intOf i).toNat)
  case atStart => exact ⟨0, Nat.zero_le _, rfl, (Below.refl _ _).alloc (by simp) _, OP_lit0 _ (by simp) (by omega)⟩
  case round =>
    obtain ⟨k, hk, rfl, HB, HO⟩ := hrel
    have HB0 : Hid (Below w.heap.size w wr) := ((Below.refl _ _).alloc (Nat.le_refl _) _).trans (HB.out.mono (by omega))
    have hzw : w.heap.size + 1 ≤ wr.heap.size := by have := HB.out.size; simp at this; omega
    have f0 : wr.cell? ⟨w.heap.size, 0, none⟩ = some (.int .i64 f.params) := (HB.out.cell (p := ⟨w.heap.size, 0, none⟩) (by simp)).trans (by go_simp)
    have f1 : wr.cell? ⟨w.heap.size, 1, none⟩ = some (.int .i64 f.names) := (HB.out.cell (p := ⟨w.heap.size, 1, none⟩) (by simp)).trans (by go_simp)
    have f2 : wr.cell? ⟨w.heap.size, 2, none⟩ = some (.slice A f.blocks.length c) := (HB.out.cell (p := ⟨w.heap.size, 2, none⟩) (by simp)).trans (by go_simp)
    have HO1 : Hid (OP wr (w.heap.size + 1) u5 (pick (upTo (blkP f) f.blocks k) j)) := HO.out
    clear HO
    by_cases hlt : k < f.blocks.length
    case neg =>
      obtain rfl : k = f.blocks.length := by omega
      go_wp2
      go_ret
      exact ⟨_, _, rfl, HRES.out, World.ownsRow.mono HO1.out (by omega), HB0.out⟩
    have hxk : f.blocks[k]? = some f.blocks[k] := List.getElem?_eq_getElem hlt
    generalize f.blocks[k] = x at hxk
    have Hxk := Lib.hid hxk
    have hkl : (k : Int) < (f.blocks.length : Int) := by omega
    have hfw : w.heap.size < wr.heap.size := by omega
    have HUS := Lib.hid (upTo_succ (g := blkP f) hxk)
    have HEV : Hid (∀ e ∈ blkP f k x, e.pl.dst = (k : Int)) := fun e he => blkP_dst he
    have hevl := blkP_len HP.out hxk
    have hul := HULEN.out k hk
    clear hxk
    go_wp2_with (first
      | (go_at_call 17; refine (sFunOk_any f _ _ Z (HF.out.keep (Kept.below HB0.out hD)) (fun b hb => by have := hD b hb; omega) hn).mono ?_; rintro e w1 ⟨r, rfl, hr, hb1⟩; have hz1 := hb1.size; have HB1 := Lib.hid hb1; obtain rfl : r = true := hr.2 HP.out; have g0 := (hb1.cell (p := ⟨w.heap.size, 0, none⟩) hfw).trans f0; have g1 := (hb1.cell (p := ⟨w.heap.size, 1, none⟩) hfw).trans f1; have g2 := (hb1.cell (p := ⟨w.heap.size, 2, none⟩) hfw).trans f2; clear hb1 hr)
      | (go_at_call 18; refine (l5Gives_any f _ k x _ Z HP.out (HF.out.keep (Kept.below (HB0.out.trans (HB1.out.mono (by omega))) hD)) (fun b hb => by have := hD b hb; omega) Hxk.out).mono ?_; rintro e w2 ⟨a, b, rfl, ht2, hb2⟩; have hz2 := hb2.size; have HT2 := Lib.hid ht2; have HB2 := Lib.hid hb2; clear hb2 ht2))
    have HB12 := Lib.hid (HB1.out.trans (HB2.out.mono hz1))
    have HBr := Lib.hid (HB.out.trans (HB12.out.mono hzw))
    have HO2 := Lib.hid (HO1.out.below HB12.out fun kk hkk => (HO1.out.lt kk hkk).2)
    obtain ⟨lo, hlo⟩ : ∃ lo, lo = w1.heap.size := ⟨_, rfl⟩
    rw [← hlo] at HT2 hz1 hz2
    have HAV0 : Hid (∀ kk, u5.ownBlock = some kk → kk < lo ∨ w2.heap.size ≤ kk) := fun kk hkk => .inl (by have := (HO1.out.lt kk hkk).2; omega)
    generalize hevs : blkP f k x = evs at HUS HEV hevl HT2
    have HEVS := Lib.hid hevs
    generalize hold : upTo (blkP f) f.blocks k = old at HUS HO2 hul
    have HOLD := Lib.hid hold
    obtain ⟨_, A5, c5, rfl, _⟩ := HT2.out.1.ri
    obtain ⟨_, A6, c6, rfl, _⟩ := HT2.out.2.1.ri
    have hl5 : (evs.map (·.n)).length = evs.length := List.length_map _
    have hl6 : (evs.map (·.pl.src)).length = evs.length := List.length_map _
    rw [hl5, hl6] at HT2
    rw [hl5, hl6]
    clear f0 f1 f2 g0 g1 g2 hlo hevs hold HO1 HB HB0 HB1 HB2 HB12 hl5 hl6
    go_loopw [5, 9] (fun ov i wq => ∃ m : Nat, m ≤ evs.length ∧ i = .int .i64 m ∧ Hid (Below (w.heap.size + 1) (w.alloc (.cells #[.int .i64 f.params, .int .i64 f.names, .slice A f.blocks.length c] 30)) wq) ∧ Hid (OP wq (w.heap.size + 1) ov (pick old j ++ pick (evs.take m) j)) ∧ w2.heap.size ≤ wq.heap.size ∧ Hid (∀ kk, ov.ownBlock = some kk → kk < lo ∨ w2.heap.size ≤ kk) ∧ Hid (OI wq lo (.slice A5 evs.length c5) (evs.map (·.n))) ∧ Hid (OI wq lo (.slice A6 evs.length c6) (evs.map (·.pl.src)))) (fun _ i _ => evs.length - (intOf i).toNat)
    case atStart => exact ⟨0, Nat.zero_le _, rfl, HBr.out, (by rw [List.take_zero, pick_nil, List.append_nil]; exact HO2.out), Nat.le_refl _, HAV0.out, HT2.out.1, HT2.out.2.1⟩
    case round =>
      obtain ⟨m, hm, rfl, HB, HO, hsz, HAV, HN, HT⟩ := hrel
      have HO' : Hid (OP wr (w.heap.size + 1) u5 (pick old j ++ pick (evs.take m) j)) := HO.out
      have HAV' : Hid (∀ kk, u5.ownBlock = some kk → kk < lo ∨ w2.heap.size ≤ kk) := HAV.out
      clear HO HAV
      by_cases hml : m < evs.length
      case neg =>
        obtain rfl : m = evs.length := by omega
        have HO3 : Hid (OP wr (w.heap.size + 1) u5 (pick (upTo (blkP f) f.blocks (k + 1)) j)) := by
          have := HO'.out
          rw [List.take_length, ← pick_append, ← HUS.out] at this
          exact this
        go_wp2
        go_roundw
        case rel => exact ⟨k + 1, by omega, by go_num, HB.out, HO3.out⟩
        case measure => simp [intOf]; omega
      have hem : evs[m]? = some evs[m] := List.getElem?_eq_getElem hml
      generalize evs[m] = ev at hem
      have Hem := Lib.hid hem
      obtain ⟨_, A5', c5', he5, hux⟩ := HN.out.ri
      injection he5 with q1 q0 q2
      clear q0
      subst q1 q2
      obtain ⟨b5, o5, rfl, hcell⟩ := hux (by intro h; rw [List.map_eq_nil_iff] at h; rw [h] at hml; simp at hml)
      have p0 := hcell m ev.n (by rw [List.getElem?_map, hem]; rfl)
      obtain ⟨_, A6', c6', he6, hux'⟩ := HT.out.ri
      injection he6 with q1 q0 q2
      clear q0
      subst q1 q2
      obtain ⟨b6, o6, rfl, hcell'⟩ := hux' (by intro h; rw [List.map_eq_nil_iff] at h; rw [h] at hml; simp at hml)
      have p1 := hcell' m ev.pl.src (by rw [List.getElem?_map, hem]; rfl)
      have hml' : (m : Int) < (evs.length : Int) := by omega
      have HPT := Lib.hid (pick_take hem j)
      clear hcell hcell' hux hux' hem
      by_cases hev : ev.n = j
      case neg =>
        have hbq : (ev.n == j) = false := by simpa using hev
        have HO3 : Hid (OP wr (w.heap.size + 1) u5 (pick old j ++ pick (evs.take (m + 1)) j)) := by
          rw [HPT.out, if_neg hev]; exact HO'.out
        clear hev
        go_wp2
        go_roundw
        case rel => exact ⟨m + 1, by omega, by go_num, HB.out, HO3.out, hsz, HAV'.out, HN.out, HT.out⟩
        case measure => simp [intOf]; omega
      have hbq : (ev.n == j) = true := by simpa using hev
      have HEVN := Lib.hid hev
      have hpl := HEV.out ev (List.mem_of_getElem? Hem.out)
      have hlen : (pick old j ++ pick (evs.take m) j).length ≤ 1048576 := by
        have h1 := pick_len old j
        have h2 := pick_len (evs.take m) j
        rw [List.length_append]
        rw [List.length_take] at h2
        omega
      have hB1 : w.heap.size + 1 ≤ wr.heap.size := by omega
      have HPL : Hid (ev.pl = ⟨(k : Int), ev.pl.src⟩) := by rw [Hid, ← hpl]
      generalize hll : pick old j ++ pick (evs.take m) j = ll at HO' hlen HPT
      have HLL := Lib.hid hll
      obtain ⟨A7, c7, rfl⟩ := HO'.out.form
      clear hev hpl hll
      go_wp2_with (at_builtin; go_must (refine wpList_append_place rfl (.tmp 40) (.tmp 47) rfl (w.heap.size + 1) _ ll k ev.pl.src wr wr.heap.size rfl rfl HO'.out rfl hB1 hlen ?_; intro v' w9 hown9 hg9 hat9; have HO9 := Lib.hid hown9; have HG9 := Lib.hid hg9; have HA9 := Lib.hid hat9; clear hown9 hg9 hat9))
      have hg9 := HG9.out
      have hz9 := hg9.size
      have HB9 : Hid (Below (w.heap.size + 1) (w.alloc (.cells #[.int .i64 f.params, .int .i64 f.names, .slice A f.blocks.length c] 30)) w9) := HB.out.grown hg9 hB1 fun kk hkk => (HO'.out.lt kk hkk).1
      have HN9 := Lib.hid (HN.out.grown hg9 (.inr fun e => by
        have h1 := HT2.out.1.lt b5 rfl
        rcases HAV'.out b5 e.symm with h | h <;> omega))
      have HT9 := Lib.hid (HT.out.grown hg9 (.inr fun e => by
        have h1 := HT2.out.2.1.lt b6 rfl
        rcases HAV'.out b6 e.symm with h | h <;> omega))
      have HAV9 : Hid (∀ kk, v'.ownBlock = some kk → kk < lo ∨ w2.heap.size ≤ kk) := fun kk hkk => by
        rcases HA9.out with h | ⟨k9, h, hk9⟩
        · exact HAV'.out kk (h.symm.trans hkk)
        · rw [h] at hkk
          injection hkk with hkk
          exact .inr (by omega)
      have HO10 : Hid (OP w9 (w.heap.size + 1) v' (pick old j ++ pick (evs.take (m + 1)) j)) := by
        rw [HPT.out, if_pos HEVN.out, ← List.append_assoc, HLL.out, HPL.out]; exact HO9.out
      go_roundw
      case rel => exact ⟨m + 1, by omega, by go_num, HB9.out, HO10.out, by omega, HAV9.out, HN9.out, HT9.out⟩
      case measure => simp [intOf]; omega

end Go.Proofs.Ytbghcoihndlihaa
