/- TakesOf of the model. -/
import Derived.Test.YtbghcoihndlihaaGTakes
import Derived.Test.YtbghcoihndlihaaTakI
import Derived.Test.YtbghcoihndlihaaDefM
import Derived.Laws.StructEq
import Derived.Deep.QuietTactic
namespace Go.Proofs.Ytbghcoihndlihaa
open Go.ChangeShapes Go.WideShapes Go.ChangeAt Go.RowKit Go.Joins

theorem blkT_dst {f : FunD} {k : Nat} {x : BlockD} {e : EvD} (h : e ∈ blkT f k x) : e.pl.dst = k := by
  unfold blkT mvT insT at h
  simp only [List.mem_append] at h
  rcases h with ((h | h) | h) | h
  · obtain ⟨i, y, _, _, hy⟩ := mem_upTo h
    simp at hy; rw [hy]
  · obtain ⟨i, y, _, _, hy⟩ := mem_upTo h
    rw [List.mem_map] at hy
    obtain ⟨u, _, rfl⟩ := hy
    rfl
  · obtain ⟨i, y, _, _, hy⟩ := mem_upTo h
    simp at hy; rw [hy]
  · rw [List.mem_map] at h
    obtain ⟨u, _, rfl⟩ := h
    rfl
theorem blkT_name {f : FunD} (hp : FunP f) {k : Nat} {x : BlockD} (hx : f.blocks[k]? = some x) {e : EvD} (h : e ∈ blkT f k x) : isBelowB e.n f.names = true := by
  have hb := hp.1.2.2.2.2 k x hx
  unfold blkT mvT insT at h
  simp only [List.mem_append] at h
  rcases h with ((h | h) | h) | h
  · obtain ⟨i, y, _, hi, hy⟩ := mem_upTo h
    simp at hy; rw [hy]; exact (hb.2.1.2.1 i y hi).2
  · obtain ⟨i, y, _, hi, hy⟩ := mem_upTo h
    rw [List.mem_map] at hy
    obtain ⟨u, hu, rfl⟩ := hy
    exact uses_name (hb.2.2.2.2 i y hi) hu
  · obtain ⟨i, y, _, hi, hy⟩ := mem_upTo h
    simp at hy; rw [hy]; exact (hb.2.2.1.2.1 i y hi).2
  · rw [List.mem_map] at h
    obtain ⟨u, hu, rfl⟩ := h
    exact endL_name hp hx hu
theorem takesK_name {f : FunD} (hp : FunP f) {k : Nat} {e : EvD} (h : e ∈ takesK f k) : isBelowB e.n f.names = true := by
  obtain ⟨i, x, _, hx, hy⟩ := mem_upTo h
  exact blkT_name hp hx hy
theorem sTakesOf_res {f : FunD} (hp : FunP f) (j : Int) : TakesOfRes f j (pickO (upTo (blkT f) f.blocks f.blocks.length) j) := by
  by_cases hj : isBelowB j f.names = true
  · exact .inl ⟨hp, hj, rfl⟩
  · refine .inr ⟨fun h => hj h.2, ?_⟩
    unfold pickO
    rw [show pick (upTo (blkT f) f.blocks f.blocks.length) j = [] from pick_none (fun e he => takesK_name hp (k := f.blocks.length) he) hj]; rfl
theorem pickO_take {old evs : List EvD} {m : Nat} {e : EvD} (h : evs[m]? = some e) (j : Int) : pickO (old ++ evs.take (m + 1)) j = if e.n = j then once (pickO (old ++ evs.take m) j) e.pl else pickO (old ++ evs.take m) j := by
  rw [take_snoc h, ← List.append_assoc, pickO_snoc]

set_option maxRecDepth 10000 in
set_option maxHeartbeats 2000000 in
theorem sTakesOf_any (f : FunD) (v : Value) (j : Int) (w : World) (Z : Zn) (hv : EFun w Z f v) (hD : ∀ b, Z.D b → b < w.heap.size) (hn : f.blocks.length ≤ 1048576) : Calls Try.prog 14 #[v, .int .i64 j] w (GivesTakesOf f j w) := by
  have HF := Lib.hid hv
  obtain ⟨u, rfl, hu⟩ := hv
  obtain ⟨_, A, c, rfl, hx⟩ := hu
  clear hx
  by_cases hp : FunP f
  case neg =>
    have HN := Lib.hid hp
    have HR : Hid (TakesOfRes f j []) := .inr ⟨fun h => HN.out h.1, rfl⟩
    clear hp
    go_enter Try.func14, Try.ntmps14
    go_wp2_with fail
    have hO : OP ((w.alloc (.cells #[.int .i64 f.params, .int .i64 f.names, .slice A f.blocks.length c] 30)).alloc (.cells #[] 43)) (w.heap.size + 1) (.slice (some ⟨w.heap.size + 1, 0, none⟩) 0 0) [] := OP_lit0 _ (by simp) (by omega)
    have hB : Below w.heap.size w ((w.alloc (.cells #[.int .i64 f.params, .int .i64 f.names, .slice A f.blocks.length c] 30)).alloc (.cells #[] 43)) := ((Below.refl _ _).alloc (Nat.le_refl _) _).alloc (by simp) _
    have f0 : ((w.alloc (.cells #[.int .i64 f.params, .int .i64 f.names, .slice A f.blocks.length c] 30)).alloc (.cells #[] 43)).cell? ⟨w.heap.size, 0, none⟩ = some (.int .i64 f.params) := by go_simp
    have f1 : ((w.alloc (.cells #[.int .i64 f.params, .int .i64 f.names, .slice A f.blocks.length c] 30)).alloc (.cells #[] 43)).cell? ⟨w.heap.size, 1, none⟩ = some (.int .i64 f.names) := by go_simp
    have f2 : ((w.alloc (.cells #[.int .i64 f.params, .int .i64 f.names, .slice A f.blocks.length c] 30)).alloc (.cells #[] 43)).cell? ⟨w.heap.size, 2, none⟩ = some (.slice A f.blocks.length c) := by go_simp
    have hsz : w.heap.size + 2 ≤ ((w.alloc (.cells #[.int .i64 f.params, .int .i64 f.names, .slice A f.blocks.length c] 30)).alloc (.cells #[] 43)).heap.size := by simp
    generalize ((w.alloc (.cells #[.int .i64 f.params, .int .i64 f.names, .slice A f.blocks.length c] 30)).alloc (.cells #[] 43)) = w2 at *
    have HO := Lib.hid hO
    have HB := Lib.hid hB
    clear hO hB
    by_cases h0 : 0 < f.blocks.length
    case neg =>
      have h0' : f.blocks.length = 0 := by omega
      have h0i : (f.blocks.length : Int) ≤ 0 := by omega
      go_loopw [5, 6, 7, 8, 9] (fun o i _ _ _ wr => i = .int .i64 0 ∧ o = .slice (some ⟨w.heap.size + 1, 0, none⟩) 0 0 ∧ wr = w2) (fun _ _ _ _ _ _ => 0)
      case atStart => exact ⟨rfl, rfl, rfl⟩
      case round =>
        obtain ⟨rfl, rfl, rfl⟩ := hrel
        go_wp2_with fail
        go_ret
        exact ⟨[], _, rfl, HR.out, World.ownsRow.mono HO.out (by omega), HB.out⟩
    have h0' : (0 : Int) < (f.blocks.length : Int) := by omega
    go_loopw [5, 6, 7, 8, 9] (fun o i _ _ _ wr => i = .int .i64 0 ∧ o = .slice (some ⟨w.heap.size + 1, 0, none⟩) 0 0 ∧ wr = w2) (fun _ _ _ _ _ _ => 0)
    case atStart => exact ⟨rfl, rfl, rfl⟩
    case round =>
      obtain ⟨rfl, rfl, rfl⟩ := hrel
      go_wp2_with (go_at_call 17; refine (sFunOk_any f _ _ Z (HF.out.keep (Kept.below HB.out hD)) (fun b hb => by have := hD b hb; omega) hn).mono ?_; rintro e w1 ⟨r, rfl, hr, hb1⟩; have HB1 := Lib.hid hb1; obtain rfl : r = false := (by cases r; rfl; exact absurd (hr.1 rfl) HN.out); clear hb1 hr)
      go_ret
      exact ⟨[], _, rfl, HR.out, World.ownsRow.mono (HO.out.below HB1.out fun k hk => (HO.out.lt k hk).2) (by omega), HB.out.trans (HB1.out.mono (by omega))⟩
  have HP := Lib.hid hp
  have hb40 := hp.1.1.2
  have HRES := Lib.hid (sTakesOf_res hp j)
  have HULEN : Hid (∀ k, k ≤ f.blocks.length → (upTo (blkT f) f.blocks k).length ≤ 10000) := fun k hk => takesK_len hp k hk
  clear hp
  go_enter Try.func14, Try.ntmps14
  go_wp2_with fail
  go_loopw [5, 6, 7, 8, 9] (fun ov i _ _ _ wr => ∃ k : Nat, k ≤ f.blocks.length ∧ i = .int .i64 k ∧ Hid (Below (w.heap.size + 1) (w.alloc (.cells #[.int .i64 f.params, .int .i64 f.names, .slice A f.blocks.length c] 30)) wr) ∧ Hid (OP wr (w.heap.size + 1) ov (pickO (upTo (blkT f) f.blocks k) j))) (fun _ i _ _ _ _ => f.blocks.length - (intOf i).toNat)
  case atStart => exact ⟨0, Nat.zero_le _, rfl, (Below.refl _ _).alloc (by simp) _, OP_lit0 _ (by simp) (by omega)⟩
  case round =>
    obtain ⟨k, hk, rfl, HB, HO⟩ := hrel
    have HB0 : Hid (Below w.heap.size w wr) := ((Below.refl _ _).alloc (Nat.le_refl _) _).trans (HB.out.mono (by omega))
    have hzw : w.heap.size + 1 ≤ wr.heap.size := by have := HB.out.size; simp at this; omega
    have f0 : wr.cell? ⟨w.heap.size, 0, none⟩ = some (.int .i64 f.params) := (HB.out.cell (p := ⟨w.heap.size, 0, none⟩) (by simp)).trans (by go_simp)
    have f1 : wr.cell? ⟨w.heap.size, 1, none⟩ = some (.int .i64 f.names) := (HB.out.cell (p := ⟨w.heap.size, 1, none⟩) (by simp)).trans (by go_simp)
    have f2 : wr.cell? ⟨w.heap.size, 2, none⟩ = some (.slice A f.blocks.length c) := (HB.out.cell (p := ⟨w.heap.size, 2, none⟩) (by simp)).trans (by go_simp)
    have HO1 : Hid (OP wr (w.heap.size + 1) u5 (pickO (upTo (blkT f) f.blocks k) j)) := HO.out
    clear HO
    by_cases hlt : k < f.blocks.length
    case neg =>
      obtain rfl : k = f.blocks.length := by omega
      go_wp2
      go_ret
      exact ⟨_, _, rfl, HRES.out, World.ownsRow.mono HO1.out (by omega), HB0.out⟩
    have hxk : f.blocks[k]? = some f.blocks[k] := List.getElem?_eq_getElem hlt
    generalize f.blocks[k] = x at hxk
    have Hxk := Lib.hid hxk
    have hkl : (k : Int) < (f.blocks.length : Int) := by omega
    have hfw : w.heap.size < wr.heap.size := by omega
    have HUS := Lib.hid (upTo_succ (g := blkT f) hxk)
    have HEV : Hid (∀ e ∈ blkT f k x, e.pl.dst = (k : Int)) := fun e he => blkT_dst he
    have hevl := blkT_len HP.out hxk
    have hul := HULEN.out k hk
    clear hxk
    go_wp2_with (first
      | (go_at_call 17; refine (sFunOk_any f _ _ Z (HF.out.keep (Kept.below HB0.out hD)) (fun b hb => by have := hD b hb; omega) hn).mono ?_; rintro e w1 ⟨r, rfl, hr, hb1⟩; have hz1 := hb1.size; have HB1 := Lib.hid hb1; obtain rfl : r = true := hr.2 HP.out; have g0 := (hb1.cell (p := ⟨w.heap.size, 0, none⟩) hfw).trans f0; have g1 := (hb1.cell (p := ⟨w.heap.size, 1, none⟩) hfw).trans f1; have g2 := (hb1.cell (p := ⟨w.heap.size, 2, none⟩) hfw).trans f2; clear hb1 hr)
      | (go_at_call 26; refine (l5Takes_any f _ k x _ Z HP.out (HF.out.keep (Kept.below (HB0.out.trans (HB1.out.mono (by omega))) hD)) (fun b hb => by have := hD b hb; omega) Hxk.out).mono ?_; rintro e w2 ⟨a, b, rfl, ht2, hb2⟩; have hz2 := hb2.size; have HT2 := Lib.hid ht2; have HB2 := Lib.hid hb2; clear hb2 ht2))
    have HB12 := Lib.hid (HB1.out.trans (HB2.out.mono hz1))
    have HBr := Lib.hid (HB.out.trans (HB12.out.mono hzw))
    have HO2 := Lib.hid (HO1.out.below HB12.out fun kk hkk => (HO1.out.lt kk hkk).2)
    obtain ⟨lo, hlo⟩ : ∃ lo, lo = w1.heap.size := ⟨_, rfl⟩
    rw [← hlo] at HT2 hz1 hz2
    have HAV0 : Hid (∀ kk, u5.ownBlock = some kk → kk < lo ∨ w2.heap.size ≤ kk) := fun kk hkk => .inl (by have := (HO1.out.lt kk hkk).2; omega)
    generalize hevs : blkT f k x = evs at HUS HEV hevl HT2
    have HEVS := Lib.hid hevs
    generalize hold : upTo (blkT f) f.blocks k = old at HUS HO2 hul
    have HOLD := Lib.hid hold
    obtain ⟨_, A5, c5, rfl, _⟩ := HT2.out.1.ri
    obtain ⟨_, A6, c6, rfl, _⟩ := HT2.out.2.1.ri
    have hl5 : (evs.map (·.n)).length = evs.length := List.length_map _
    have hl6 : (evs.map (·.pl.src)).length = evs.length := List.length_map _
    rw [hl5, hl6] at HT2
    rw [hl5, hl6]
    clear f0 f1 f2 g0 g1 g2 hlo hevs hold HO1 HB HB0 HB1 HB2 HB12 hl5 hl6
    go_loopw [5, 9] (fun ov i wq => ∃ m : Nat, m ≤ evs.length ∧ i = .int .i64 m ∧ Hid (Below (w.heap.size + 1) (w.alloc (.cells #[.int .i64 f.params, .int .i64 f.names, .slice A f.blocks.length c] 30)) wq) ∧ Hid (OP wq (w.heap.size + 1) ov (pickO (old ++ evs.take m) j)) ∧ w2.heap.size ≤ wq.heap.size ∧ Hid (∀ kk, ov.ownBlock = some kk → kk < lo ∨ w2.heap.size ≤ kk) ∧ Hid (OI wq lo (.slice A5 evs.length c5) (evs.map (·.n))) ∧ Hid (OI wq lo (.slice A6 evs.length c6) (evs.map (·.pl.src)))) (fun _ i _ => evs.length - (intOf i).toNat)
    case atStart => exact ⟨0, Nat.zero_le _, rfl, HBr.out, (by rw [List.take_zero, List.append_nil]; exact HO2.out), Nat.le_refl _, HAV0.out, HT2.out.1, HT2.out.2.1⟩
    case round =>
      obtain ⟨m, hm, rfl, HB, HO, hsz, HAV, HN, HT⟩ := hrel
      have HO' : Hid (OP wr (w.heap.size + 1) u5 (pickO (old ++ evs.take m) j)) := HO.out
      have HAV' : Hid (∀ kk, u5.ownBlock = some kk → kk < lo ∨ w2.heap.size ≤ kk) := HAV.out
      clear HO HAV
      by_cases hml : m < evs.length
      case neg =>
        obtain rfl : m = evs.length := by omega
        have HO3 : Hid (OP wr (w.heap.size + 1) u5 (pickO (upTo (blkT f) f.blocks (k + 1)) j)) := by
          have := HO'.out
          rw [List.take_length, ← HUS.out] at this
          exact this
        go_wp2
        go_roundw
        case rel => exact ⟨k + 1, by omega, by go_num, HB.out, HO3.out⟩
        case measure => simp [intOf]; omega
      have hem : evs[m]? = some evs[m] := List.getElem?_eq_getElem hml
      generalize evs[m] = ev at hem
      have Hem := Lib.hid hem
      obtain ⟨_, A5', c5', he5, hux⟩ := HN.out.ri
      injection he5 with q1 q0 q2
      clear q0
      subst q1 q2
      obtain ⟨b5, o5, rfl, hcell⟩ := hux (by intro h; rw [List.map_eq_nil_iff] at h; rw [h] at hml; simp at hml)
      have p0' := hcell m ev.n (by rw [List.getElem?_map, hem]; rfl)
      obtain ⟨_, A6', c6', he6, hux'⟩ := HT.out.ri
      injection he6 with q1 q0 q2
      clear q0
      subst q1 q2
      obtain ⟨b6, o6, rfl, hcell'⟩ := hux' (by intro h; rw [List.map_eq_nil_iff] at h; rw [h] at hml; simp at hml)
      have p1 := hcell' m ev.pl.src (by rw [List.getElem?_map, hem]; rfl)
      have hml' : (m : Int) < (evs.length : Int) := by omega
      have HPT := Lib.hid (pickO_take (old := old) hem j)
      have hb5l := (HN.out.lt b5 rfl).2
      have hB5 : Below wr.heap.size wr (wr.alloc (.cells #[.int .i64 k, .int .i64 ev.pl.src] 43)) := (Below.refl _ _).alloc (Nat.le_refl _) _
      have p0 : (wr.alloc (.cells #[.int .i64 k, .int .i64 ev.pl.src] 43)).cell? ⟨b5, o5 + m, none⟩ = some (.int .i64 ev.n) := (hB5.cell (p := ⟨b5, _, none⟩) hb5l).trans p0'
      have HB5 := Lib.hid hB5
      have hB1 : w.heap.size + 1 ≤ wr.heap.size := by omega
      have HBX := Lib.hid (HB.out.trans (hB5.mono hB1))
      have HN5 := Lib.hid (HN.out.below hB5 fun kk hkk => (HN.out.lt kk hkk).2)
      have HT5 := Lib.hid (HT.out.below hB5 fun kk hkk => (HT.out.lt kk hkk).2)
      have HO5 := Lib.hid (HO'.out.below hB5 fun kk hkk => (HO'.out.lt kk hkk).2)
      have hsz5 : (wr.alloc (.cells #[.int .i64 k, .int .i64 ev.pl.src] 43)).heap.size = wr.heap.size + 1 := by simp
      have HS5 := Lib.hid hsz5
      clear hcell hcell' hux hux' hem p0' hsz5 HB HN HT
      by_cases hev : ev.n = j
      case neg =>
        have hbq : (ev.n == j) = false := by simpa using hev
        have HO3 : Hid (OP (wr.alloc (.cells #[.int .i64 k, .int .i64 ev.pl.src] 43)) (w.heap.size + 1) u5 (pickO (old ++ evs.take (m + 1)) j)) := by
          rw [HPT.out, if_neg hev]; exact HO5.out
        clear hev hB5
        go_wp2
        go_quiet (fail)
        go_wp2
        go_roundw
        case rel => exact ⟨m + 1, by omega, by go_num, below_drewN HBX.out nq, HO3.out.drewN nq, (by have := HS5.out; show w2.heap.size ≤ (wr.alloc _).heap.size; omega), HAV'.out, HN5.out.drewN nq, HT5.out.drewN nq⟩
        case measure => simp [intOf]; omega
      have hbq : (ev.n == j) = true := by simpa using hev
      have HEVN := Lib.hid hev
      have hpl := HEV.out ev (List.mem_of_getElem? Hem.out)
      have HPL : Hid (ev.pl = ⟨(k : Int), ev.pl.src⟩) := by rw [Hid, ← hpl]
      have hlen : (pickO (old ++ evs.take m) j).length ≤ 1048576 := by
        have h1 := pickO_len (old ++ evs.take m) j
        rw [List.length_append, List.length_take] at h1
        omega
      generalize hll : pickO (old ++ evs.take m) j = ll at HO' HO5 hlen HPT
      have HLR := Lib.hid HO'.out.row
      obtain ⟨A7, c7, rfl⟩ := HO'.out.form
      have hOlt := HO'.out.lt
      have HOL := Lib.hid hOlt
      clear hev hpl hll hOlt
      rw [if_pos HEVN.out] at HPT
      by_cases hne : ll = []
      case pos =>
        have HON : Hid (once ll ev.pl = ll ++ [ev.pl]) := by rw [hne]; rfl
        have hl0 : ll.length = 0 := by rw [hne]; rfl
        have HNE := Lib.hid hl0
        clear hne hB5
        rw [hl0]
        rw [hl0] at HO5 HAV' HOL
        go_wp2
        go_quiet (fail)
        go_wp2_with (at_builtin; go_must (refine wpList_append_place rfl (.tmp 62) (.tmp 64) rfl (w.heap.size + 1) _ ll k ev.pl.src ((wr.alloc (.cells #[.int .i64 k, .int .i64 ev.pl.src] 43)).drewN nq) (wr.heap.size + 1) HS5.out rfl (HO5.out.drewN nq) rfl (by rw [show ((wr.alloc (.cells #[.int .i64 k, .int .i64 ev.pl.src] 43)).drewN nq).heap.size = wr.heap.size + 1 from HS5.out]; omega) hlen ?_; intro v' w9 hown9 hg9 hat9; have HO9 := Lib.hid hown9; have HG9 := Lib.hid hg9; have HA9 := Lib.hid hat9; clear hown9 hg9 hat9))
        have hg9 := HG9.out
        have hz9 := hg9.size
        have hzd : ((wr.alloc (.cells #[.int .i64 k, .int .i64 ev.pl.src] 43)).drewN nq).heap.size = wr.heap.size + 1 := HS5.out
        have HB9 : Hid (Below (w.heap.size + 1) (w.alloc (.cells #[.int .i64 f.params, .int .i64 f.names, .slice A f.blocks.length c] 30)) w9) := (below_drewN HBX.out nq).grown hg9 (by omega) fun kk hkk => (HOL.out kk hkk).1
        have HN9 := Lib.hid ((HN5.out.drewN nq).grown hg9 (.inr fun e => by
          have h1 := HT2.out.1.lt b5 rfl
          rcases HAV'.out b5 e.symm with h | h <;> omega))
        have HT9 := Lib.hid ((HT5.out.drewN nq).grown hg9 (.inr fun e => by
          have h1 := HT2.out.2.1.lt b6 rfl
          rcases HAV'.out b6 e.symm with h | h <;> omega))
        have HAV9 : Hid (∀ kk, v'.ownBlock = some kk → kk < lo ∨ w2.heap.size ≤ kk) := fun kk hkk => by
          rcases HA9.out with h | ⟨k9, h, hk9⟩
          · exact HAV'.out kk (h.symm.trans hkk)
          · rw [h] at hkk
            injection hkk with hkk
            exact .inr (by omega)
        have HO10 : Hid (OP w9 (w.heap.size + 1) v' (pickO (old ++ evs.take (m + 1)) j)) := by
          rw [HPT.out, HON.out, HPL.out]; exact HO9.out
        have hz10 : w2.heap.size ≤ w9.heap.size := by omega
        clear hzd hz9 hg9
        go_roundw
        case rel => exact ⟨m + 1, by omega, by go_num, HB9.out, HO10.out, hz10, HAV9.out, HN9.out, HT9.out⟩
        case measure => simp [intOf]; omega
      obtain ⟨y, hy1, hy2⟩ := getLast?_get hne
      obtain ⟨n1, hn1⟩ : ∃ n1, ll.length = n1 + 1 := ⟨ll.length - 1, by
        have : ll.length ≠ 0 := fun h => hne (List.length_eq_zero_iff.1 h)
        omega⟩
      obtain ⟨_, A8, c8, e8, hrow⟩ := HLR.out
      injection e8 with e1 e0 e2
      clear e0
      subst e1 e2
      obtain ⟨b7, o7, rfl, _, hrow⟩ := hrow hne
      obtain ⟨cs, hE, hcs⟩ := hrow _ y hy2
      subst hE
      have hb7l : b7 < wr.heap.size := (HOL.out b7 rfl).2
      have r0 := (hB5.cell (p := ⟨b7, _, none⟩) hb7l).trans (hcs 0 _ rfl).1
      have r1 := (hB5.cell (p := ⟨b7, _, none⟩) hb7l).trans (hcs 1 _ rfl).1
      rw [show ll.length - 1 = n1 by omega] at r0 r1
      have r0' : (wr.alloc (.cells #[.int .i64 k, .int .i64 ev.pl.src] 43)).cell? ⟨b7, o7 + n1 * 2, none⟩ = some (.int .i64 y.dst) := r0
      have r1' : (wr.alloc (.cells #[.int .i64 k, .int .i64 ev.pl.src] 43)).cell? ⟨b7, o7 + n1 * 2 + 1, none⟩ = some (.int .i64 y.src) := r1
      have HY1 := Lib.hid hy1
      have hm0 : 0 ≤ (n1 : Int) := by omega
      have hm1 : (n1 : Int) < (n1 : Int) + 1 := by omega
      have hmw : IntKind.i64.wrap (n1 : Int) = (n1 : Int) := by rw [IntKind.wrap_i64]; omega
      have hz : ((n1 : Int) + 1 == 0) = false := by simp; omega
      rw [hn1]
      rw [hn1] at HO5 HAV' HOL
      have HN1 := Lib.hid hn1
      clear hcs hrow r0 r1 hne hy1 hy2 hB5 hn1
      by_cases hyp : y = ev.pl
      case pos =>
        have HO3 : Hid (OP (wr.alloc (.cells #[.int .i64 k, .int .i64 ev.pl.src] 43)) (w.heap.size + 1) (.slice (some ⟨b7, o7, none⟩) (n1 + 1) c7) (pickO (old ++ evs.take (m + 1)) j)) := by
          rw [HPT.out]
          unfold once
          rw [if_pos (by rw [HY1.out, hyp])]
          exact HO5.out
        have e0 : (y.dst == (k : Int)) = true := by rw [hyp, HPL.out]; simp
        have e1 : (y.src == ev.pl.src) = true := by rw [hyp]; simp
        clear hyp
        go_wp2
        go_quiet (fail)
        go_wp2
        go_roundw
        case rel => exact ⟨m + 1, by omega, by go_num, below_drewN HBX.out nq, HO3.out.drewN nq, (by have := HS5.out; show w2.heap.size ≤ (wr.alloc _).heap.size; omega), HAV'.out, HN5.out.drewN nq, HT5.out.drewN nq⟩
        case measure => simp [intOf]; omega
      have HON : Hid (once ll ev.pl = ll ++ [ev.pl]) := by
        rw [Hid]
        unfold once
        rw [if_neg (by rw [HY1.out]; intro h; exact hyp (Option.some.inj h))]
      obtain ⟨e0, e1⟩ | e0 : ((y.dst == (k : Int)) = true ∧ (y.src == ev.pl.src) = false) ∨ (y.dst == (k : Int)) = false := by
        by_cases h0 : y.dst = (k : Int)
        · by_cases h1 : y.src = ev.pl.src
          · exact absurd (by rw [HPL.out]; cases y; simp at h0 h1 ⊢; exact ⟨h0, h1⟩) hyp
          · exact .inl ⟨by simpa using h0, by simpa using h1⟩
        · exact .inr (by simpa using h0)
      all_goals
        clear hyp
        go_wp2
        go_quiet (fail)
        go_wp2_with (at_builtin; go_must (refine wpList_append_place rfl (.tmp 62) (.tmp 64) rfl (w.heap.size + 1) _ ll k ev.pl.src ((wr.alloc (.cells #[.int .i64 k, .int .i64 ev.pl.src] 43)).drewN nq) (wr.heap.size + 1) HS5.out rfl (HO5.out.drewN nq) rfl (by rw [show ((wr.alloc (.cells #[.int .i64 k, .int .i64 ev.pl.src] 43)).drewN nq).heap.size = wr.heap.size + 1 from HS5.out]; omega) hlen ?_; intro v' w9 hown9 hg9 hat9; have HO9 := Lib.hid hown9; have HG9 := Lib.hid hg9; have HA9 := Lib.hid hat9; clear hown9 hg9 hat9))
        have hg9 := HG9.out
        have hz9 := hg9.size
        have hzd : ((wr.alloc (.cells #[.int .i64 k, .int .i64 ev.pl.src] 43)).drewN nq).heap.size = wr.heap.size + 1 := HS5.out
        have HB9 : Hid (Below (w.heap.size + 1) (w.alloc (.cells #[.int .i64 f.params, .int .i64 f.names, .slice A f.blocks.length c] 30)) w9) := (below_drewN HBX.out nq).grown hg9 (by omega) fun kk hkk => (HOL.out kk hkk).1
        have HN9 := Lib.hid ((HN5.out.drewN nq).grown hg9 (.inr fun e => by
          have h1 := HT2.out.1.lt b5 rfl
          rcases HAV'.out b5 e.symm with h | h <;> omega))
        have HT9 := Lib.hid ((HT5.out.drewN nq).grown hg9 (.inr fun e => by
          have h1 := HT2.out.2.1.lt b6 rfl
          rcases HAV'.out b6 e.symm with h | h <;> omega))
        have HAV9 : Hid (∀ kk, v'.ownBlock = some kk → kk < lo ∨ w2.heap.size ≤ kk) := fun kk hkk => by
          rcases HA9.out with h | ⟨k9, h, hk9⟩
          · exact HAV'.out kk (h.symm.trans hkk)
          · rw [h] at hkk
            injection hkk with hkk
            exact .inr (by omega)
        have HO10 : Hid (OP w9 (w.heap.size + 1) v' (pickO (old ++ evs.take (m + 1)) j)) := by
          rw [HPT.out, HON.out, HPL.out]; exact HO9.out
        have hz10 : w2.heap.size ≤ w9.heap.size := by omega
        clear hzd hz9 hg9
        go_roundw
        case rel => exact ⟨m + 1, by omega, by go_num, HB9.out, HO10.out, hz10, HAV9.out, HN9.out, HT9.out⟩
        case measure => simp [intOf]; omega

end Go.Proofs.Ytbghcoihndlihaa
