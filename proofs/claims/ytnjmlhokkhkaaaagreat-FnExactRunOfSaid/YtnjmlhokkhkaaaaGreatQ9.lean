/- RunM3, RunM4, RunW, IL, joined. -/
import Derived.Test.YtnjmlhokkhkaaaaGreatQ4
import Derived.Test.YtnjmlhokkhkaaaaGreatQ6
import Derived.Test.YtnjmlhokkhkaaaaGreatQ7
import Derived.Test.YtnjmlhokkhkaaaaGreatQ8
namespace Go.Proofs.YtnjmlhokkhkaaaaGreat

/- l6Body of the model. -/
section
open Go.ChangeShapes Go.WideShapes Go.ChangeAt Go.RowKit Go.Joins

def GivesBody (v ev : Value) (Bv B : Nat) (r : BSt) (w : World) (e : Ending) (w' : World) : Prop :=
  ∃ ev', e = .returned (.tuple #[v, ev']) ∧ OI w' Bv v r.σ ∧ OI w' B ev' r.em ∧ Fw (fun b => v.ownBlock = some b ∨ ev.ownBlock = some b) w w' ∧ (ev'.ownBlock = ev.ownBlock ∨ ∃ k, ev'.ownBlock = some k ∧ w.heap.size ≤ k)

/-- How the body stands behind some instructions. -/
structure MB (v ev ov : Value) (Bv B : Nat) (r : BSt) (w wr : World) : Prop where
  hv : OI wr Bv v r.σ
  he : OI wr B ov r.em
  fw : Fw (fun b => v.ownBlock = some b ∨ ev.ownBlock = some b) w wr
  ev : ov.ownBlock = ev.ownBlock ∨ ∃ k, ov.ownBlock = some k ∧ w.heap.size ≤ k
  ne : ∀ k, v.ownBlock = some k → ov.ownBlock ≠ some k
  lt : ∀ k, v.ownBlock = some k → k < w.heap.size

theorem MB.below {v ev ov : Value} {Bv B : Nat} {r : BSt} {w wr w' : World} (h : MB v ev ov Bv B r w wr) (hb : Below wr.heap.size wr w') : MB v ev ov Bv B r w w' :=
  ⟨h.hv.below hb fun k hk => (h.hv.lt k hk).2, h.he.below hb fun k hk => (h.he.lt k hk).2, h.fw.trans (Fw.below (P := fun _ => False) hb) fun _ _ h => h.elim, h.ev, h.ne, h.lt⟩
theorem MB.setV {v ev ov : Value} {Bv B : Nat} {r : BSt} {w wr : World} (h : MB v ev ov Bv B r w wr) {g cap : Nat} (hv : v = .slice (some ⟨g, 0, none⟩) r.σ.length cap) {x : Int} {k : Nat} (hx : x = k) (y : Int) : MB v ev ov Bv B ⟨pN r.σ x y, r.em⟩ w (wr.setCell ⟨g, k, none⟩ (.int .i64 y)) := by
  have hg : v.ownBlock = some g := by rw [hv]; rfl
  refine ⟨h.hv.setI hv hx y, h.he.fw (Fw.set (P := (· = g)) wr rfl k (.int .i64 y)) (fun kk hkk e => ?_), h.fw.trans (Fw.set (P := (· = g)) wr rfl k (.int .i64 y)) (fun i _ e => .inl (by rw [hg, show i = g from e])), h.ev, h.ne, h.lt⟩
  have e' : kk = g := e
  exact h.ne g hg (by rw [← e']; exact hkk)
theorem MB.emit {v ev ov ov' : Value} {Bv B : Nat} {r : BSt} {w wr w' : World} (h : MB v ev ov Bv B r w wr) {em' : List Int} (ho : OI w' B ov' em') (hg : wr.grownBy w' ov.ownBlock) (hat : ov'.ownBlock = ov.ownBlock ∨ ∃ k, ov'.ownBlock = some k ∧ wr.heap.size ≤ k) : MB v ev ov' Bv B ⟨r.σ, em'⟩ w w' := by
  have hsz := h.fw.size
  refine ⟨h.hv.grown hg ?_, ho, ?_, ?_, ?_, h.lt⟩
  · rcases e : v.ownBlock with _ | k
    · exact .inl rfl
    · exact .inr fun e' => h.ne k e e'.symm
  · refine h.fw.trans (Fw.grown (P := fun b => ov.ownBlock = some b) hg fun g hg' _ => hg') fun i hi hq => ?_
    rcases h.ev with e | ⟨k, e, hk⟩
    · exact .inr (e ▸ hq)
    · rw [e] at hq
      injection hq with hq
      omega
  · rcases hat with e | ⟨k, e, hk⟩
    · rcases h.ev with e2 | ⟨k, e2, hk⟩
      · exact .inl (e.trans e2)
      · exact .inr ⟨k, e.trans e2, hk⟩
    · exact .inr ⟨k, e, by omega⟩
  · intro k hk
    rcases hat with e | ⟨k', e, hk'⟩
    · rw [e]; exact h.ne k hk
    · rw [e]; intro e2; injection e2 with e2; have := h.lt k hk; omega

set_option maxRecDepth 10000 in
set_option maxHeartbeats 4000000 in
theorem l6Body_any (v ev mv : Value) (s : BSt) (l : List InsD) (w : World) (B Bv : Nat) (Zm : Zn) (hv : OI w Bv v s.σ) (he : OI w B ev s.em) (hne : ∀ k, v.ownBlock = some k → ev.ownBlock ≠ some k) (hm : Row w Zm 4 EIns mv l)
    (hZ : ∀ b, Zm.D b → b < w.heap.size ∧ v.ownBlock ≠ some b ∧ ev.ownBlock ≠ some b) (hok : ∀ (j : Nat) i, l[j]? = some i → InsP s.σ.length i) (hl : l.length ≤ 80) (hem : s.em.length ≤ 100000) (hB : B ≤ w.heap.size) :
    Calls Tryz.prog 42 #[v, mv, ev] w (GivesBody v ev Bv B (bodyS l s l.length) w) := by
  obtain ⟨_, A, c, rfl, hx⟩ := hm
  have HX := Lib.hid hx
  have HZ := Lib.hid hZ
  have HOK := Lib.hid hok
  have HM0 : Hid (MB v ev ev Bv B (bodyS l s 0) w w) := ⟨hv, he, Fw.refl _ _, .inl rfl, hne, fun k hk => (hv.lt k hk).2⟩
  clear hx hZ hok hv he hne
  go_enter Tryz.func42, Tryz.ntmps42
  go_wp2_with fail
  go_loopw [2, 8] (fun ov i wr => ∃ k : Nat, k ≤ l.length ∧ i = .int .i64 k ∧ Hid (MB v ev ov Bv B (bodyS l s k) w wr)) (fun _ i _ => l.length - (intOf i).toNat)
  case atStart => exact ⟨0, Nat.zero_le _, rfl, HM0.out⟩
  clear HM0
  case round =>
    obtain ⟨k, hk, rfl, HM'⟩ := hrel
    have HM : Hid (MB v ev u2 Bv B (bodyS l s k) w wr) := HM'.out
    clear HM'
    by_cases hkl : k < l.length
    case neg =>
      obtain rfl : k = l.length := by omega
      go_wp2_with fail
      refine bodyPost_ret (v := .tuple #[v, u2]) (by simp [results, Tryz.results42, go_sem]) rfl ⟨u2, rfl, HM.out.hv, HM.out.he, HM.out.fw, HM.out.ev⟩
    have hkl' : (k : Int) < (l.length : Int) := by omega
    have hik : l[k]? = some l[k] := List.getElem?_eq_getElem hkl
    generalize l[k] = i at hik
    obtain ⟨b, off, rfl, hDb, hrow⟩ := HX.out (by rintro rfl; simp at hkl)
    obtain ⟨cs, hE, hcs⟩ := hrow k i hik
    subst hE
    have hbb := HZ.out b hDb
    have hcw : ∀ j u, ([Value.int .i64 i.op, .int .i64 i.v, .int .i64 i.a, .int .i64 i.b] : List Value)[j]? = some u → wr.cell? ⟨b, off + k * 4 + j, none⟩ = some u := fun j u hu => (World.cell?_of_block (a := ⟨b, _, none⟩) (HM.out.fw.block b hbb.1 (fun h => by rcases h with h | h; exact hbb.2.1 h; exact hbb.2.2 h))).trans (hcs j u hu).1
    have HC0 : Hid (wr.cell? ⟨b, off + k * 4, none⟩ = some (.int .i64 i.op)) := hcw 0 _ rfl
    have HC1 : Hid (wr.cell? ⟨b, off + k * 4 + 1, none⟩ = some (.int .i64 i.v)) := hcw 1 _ rfl
    have HC2 : Hid (wr.cell? ⟨b, off + k * 4 + 2, none⟩ = some (.int .i64 i.a)) := hcw 2 _ rfl
    have HC3 : Hid (wr.cell? ⟨b, off + k * 4 + 3, none⟩ = some (.int .i64 i.b)) := hcw 3 _ rfl
    have HSU : Hid (bodyS l s (k + 1) = insS i (bodyS l s k)) := bodyS_succ hik
    have hip := HOK.out k i hik
    rw [← bodyS_len l s k] at hip
    have hbe := bodyS_em l s k
    have hemk : (bodyS l s k).em.length ≤ 1000000 := by omega
    have hnl : (bodyS l s k).σ.length ≤ 9223372036854775807 := HM.out.hv.ri.1
    generalize bodyS l s k = r at *
    clear hik hcs hrow hcw hbe hbb
    by_cases h1 : i.op = 1
    case pos =>
      obtain ⟨v0, v1⟩ := insP_v hip (by omega)
      obtain ⟨y, hy⟩ : ∃ y : Nat, i.v = y := ⟨i.v.toNat, by omega⟩
      have yl : y < r.σ.length := by omega
      have yl' : (y : Int) < (r.σ.length : Int) := by omega
      have yp : 0 ≤ (y : Int) := by omega
      obtain ⟨g, cap, hvg, hBg, _⟩ := World.ownsRow.form HM.out.hv (by omega)
      have HVG := Lib.hid hvg
      have HINS : Hid (insS i r = ⟨pN r.σ y i.a, r.em⟩) := by unfold insS; rw [if_pos h1, hy]; rfl
      have c0 : wr.cell? ⟨b, off + k * 4, none⟩ = some (.int .i64 1) := by rw [← h1]; exact HC0.out
      have c1 : wr.cell? ⟨b, off + k * 4 + 1, none⟩ = some (.int .i64 y) := by rw [← hy]; exact HC1.out
      have c2 : wr.cell? ⟨b, off + k * 4 + 2, none⟩ = some (.int .i64 i.a) := HC2.out
      have c3 : wr.cell? ⟨b, off + k * 4 + 3, none⟩ = some (.int .i64 i.b) := HC3.out
      clear hip hy v0 v1
      go_upto_region 8 with fail
      have hB1 : Below wr.heap.size wr (wr.alloc (.cells #[.int .i64 1, .int .i64 y, .int .i64 i.a, .int .i64 i.b] 84)) := (Below.refl _ _).alloc (Nat.le_refl _) _
      have k0 : (wr.alloc (.cells #[.int .i64 1, .int .i64 y, .int .i64 i.a, .int .i64 i.b] 84)).cell? ⟨wr.heap.size, 0, none⟩ = some (.int .i64 1) := by go_simp
      have k1 : (wr.alloc (.cells #[.int .i64 1, .int .i64 y, .int .i64 i.a, .int .i64 i.b] 84)).cell? ⟨wr.heap.size, 1, none⟩ = some (.int .i64 y) := by go_simp
      have k2 : (wr.alloc (.cells #[.int .i64 1, .int .i64 y, .int .i64 i.a, .int .i64 i.b] 84)).cell? ⟨wr.heap.size, 2, none⟩ = some (.int .i64 i.a) := by go_simp
      have k3 : (wr.alloc (.cells #[.int .i64 1, .int .i64 y, .int .i64 i.a, .int .i64 i.b] 84)).cell? ⟨wr.heap.size, 3, none⟩ = some (.int .i64 i.b) := by go_simp
      have hqn : v.ownBlock ≠ some wr.heap.size ∧ u2.ownBlock ≠ some wr.heap.size := ⟨fun e => by have := (HM.out.hv.lt _ e).2; omega, fun e => by have := (HM.out.he.lt _ e).2; omega⟩
      have hqs : wr.heap.size < (wr.alloc (.cells #[.int .i64 1, .int .i64 y, .int .i64 i.a, .int .i64 i.b] 84)).heap.size := by simp
      obtain ⟨q, hq⟩ : ∃ q, q = wr.heap.size := ⟨_, rfl⟩
      rw [← hq] at k0 k1 k2 k3 hqn hqs ⊢
      generalize (wr.alloc (.cells #[.int .i64 1, .int .i64 y, .int .i64 i.a, .int .i64 i.b] 84)) = w1 at *
      have HM1 := Lib.hid (HM.out.below hB1)
      clear HM hB1 hq c0 c1 c2 c3 HC0 HC1 HC2 HC3
      obtain ⟨⟨u0, vc⟩, vf⟩ := HM1.out.hv.cellI (k := y) hvg yl
      have HM3 : Hid (MB v ev u2 Bv B (insS i r) w (w1.setCell ⟨g, y, none⟩ (.int .i64 i.a))) := by rw [HINS.out]; exact HM1.out.setV hvg rfl i.a
      subst hvg
      go_wp2_with fail
      generalize w1.setCell ⟨g, y, none⟩ (.int .i64 i.a) = w3 at *
      clear vc vf k0 k1 k2 k3
      go_roundw
      case rel => exact ⟨k + 1, by omega, by go_num, by rw [HSU.out]; exact HM3.out⟩
      case measure => simp [intOf]; omega
    by_cases h2 : i.op = 2
    case pos =>
      obtain ⟨v0, v1⟩ := insP_v hip (by omega)
      obtain ⟨y, hy⟩ : ∃ y : Nat, i.v = y := ⟨i.v.toNat, by omega⟩
      have yl : y < r.σ.length := by omega
      have yl' : (y : Int) < (r.σ.length : Int) := by omega
      have yp : 0 ≤ (y : Int) := by omega
      obtain ⟨a0, a1⟩ := insP_a hip (by omega)
      obtain ⟨a, ha⟩ : ∃ a : Nat, i.a = a := ⟨i.a.toNat, by omega⟩
      have al : a < r.σ.length := by omega
      have al' : (a : Int) < (r.σ.length : Int) := by omega
      have ap : 0 ≤ (a : Int) := by omega
      obtain ⟨g, cap, hvg, hBg, _⟩ := World.ownsRow.form HM.out.hv (by omega)
      have HVG := Lib.hid hvg
      have HINS : Hid (insS i r = ⟨pN r.σ y (gN r.σ a), r.em⟩) := by unfold insS; rw [if_neg h1, if_pos h2, hy, ha]; rfl
      have c0 : wr.cell? ⟨b, off + k * 4, none⟩ = some (.int .i64 2) := by rw [← h2]; exact HC0.out
      have c1 : wr.cell? ⟨b, off + k * 4 + 1, none⟩ = some (.int .i64 y) := by rw [← hy]; exact HC1.out
      have c2 : wr.cell? ⟨b, off + k * 4 + 2, none⟩ = some (.int .i64 a) := by rw [← ha]; exact HC2.out
      have c3 : wr.cell? ⟨b, off + k * 4 + 3, none⟩ = some (.int .i64 i.b) := HC3.out
      clear hip hy ha v0 v1 a0 a1
      go_upto_region 10 with fail
      have hB1 : Below wr.heap.size wr (wr.alloc (.cells #[.int .i64 2, .int .i64 y, .int .i64 a, .int .i64 i.b] 84)) := (Below.refl _ _).alloc (Nat.le_refl _) _
      have k0 : (wr.alloc (.cells #[.int .i64 2, .int .i64 y, .int .i64 a, .int .i64 i.b] 84)).cell? ⟨wr.heap.size, 0, none⟩ = some (.int .i64 2) := by go_simp
      have k1 : (wr.alloc (.cells #[.int .i64 2, .int .i64 y, .int .i64 a, .int .i64 i.b] 84)).cell? ⟨wr.heap.size, 1, none⟩ = some (.int .i64 y) := by go_simp
      have k2 : (wr.alloc (.cells #[.int .i64 2, .int .i64 y, .int .i64 a, .int .i64 i.b] 84)).cell? ⟨wr.heap.size, 2, none⟩ = some (.int .i64 a) := by go_simp
      have k3 : (wr.alloc (.cells #[.int .i64 2, .int .i64 y, .int .i64 a, .int .i64 i.b] 84)).cell? ⟨wr.heap.size, 3, none⟩ = some (.int .i64 i.b) := by go_simp
      have hqn : v.ownBlock ≠ some wr.heap.size ∧ u2.ownBlock ≠ some wr.heap.size := ⟨fun e => by have := (HM.out.hv.lt _ e).2; omega, fun e => by have := (HM.out.he.lt _ e).2; omega⟩
      have hqs : wr.heap.size < (wr.alloc (.cells #[.int .i64 2, .int .i64 y, .int .i64 a, .int .i64 i.b] 84)).heap.size := by simp
      obtain ⟨q, hq⟩ : ∃ q, q = wr.heap.size := ⟨_, rfl⟩
      rw [← hq] at k0 k1 k2 k3 hqn hqs ⊢
      generalize (wr.alloc (.cells #[.int .i64 2, .int .i64 y, .int .i64 a, .int .i64 i.b] 84)) = w1 at *
      have HM1 := Lib.hid (HM.out.below hB1)
      clear HM hB1 hq c0 c1 c2 c3 HC0 HC1 HC2 HC3
      obtain ⟨⟨u0, vc⟩, vf⟩ := HM1.out.hv.cellI (k := y) hvg yl
      have va : w1.cell? ⟨g, a, none⟩ = some (.int .i64 (gN r.σ a)) := by
        have h := HM1.out.hv
        rw [hvg] at h
        rw [World.ownsRow.cellAt h a (by omega), List.getElem?_map, gN_get (x := (a : Int)) rfl al]; rfl
      generalize gN r.σ a = x at va HINS
      have HM3 : Hid (MB v ev u2 Bv B (insS i r) w ((w1.setCell ⟨g, y, none⟩ (.int .i64 x)).drew)) := by rw [HINS.out]; exact (HM1.out.setV hvg rfl x).below (Below.refl _ _).drew
      subst hvg
      have Kd : (fun w' => w'.cell? ⟨q, 1, none⟩ = some (.int .i64 y) ∧ w'.cell? ⟨q, 2, none⟩ = some (.int .i64 a) ∧ w'.cell? ⟨g, a, none⟩ = some (.int .i64 x)) w1.drew := ⟨k1, k2, va⟩
      refine wp_region_offL (S := ((fun w' => w'.cell? ⟨q, 1, none⟩ = some (.int .i64 y) ∧ w'.cell? ⟨q, 2, none⟩ = some (.int .i64 a) ∧ w'.cell? ⟨g, a, none⟩ = some (.int .i64 x)))) (by simp) (by kernel_rfl) (by kernel_rfl) (by kernel_rfl) (by kernel_rfl) (by kernel_rfl) ?_ (fun hHeld => ?_)
      · (try dsimp only)
        (first | exact Kd | fail)
      simp only [List.dropLast_cons_cons, List.dropLast_singleton, List.length_cons, List.length_nil]
      refine wpAnyH_take (i := 0) (v := ?_) rfl (by kernel_rfl) (by kernel_rfl) (by kernel_rfl) (fun _ _ _ h => h) (Or.inl ⟨by rfl, ?_⟩) (by assumption) ?_
      rotate_left
      · intro w hSw
        simp only [List.getElem_toArray, List.getElem_cons_zero]
        (try dsimp only at hSw)
        go_simp
        first | done | (with_reducible rfl)
      simp only [List.getElem_toArray, List.getElem_cons_zero, Act.put, List.setIfInBounds_toArray, List.set_cons_zero, List.set_cons_succ]
      refine wpAnyH_take (i := 1) (v := ?_) rfl (by kernel_rfl) (by kernel_rfl) (by kernel_rfl) (fun _ _ _ h => h) (Or.inl ⟨by rfl, ?_⟩) (by assumption) ?_
      rotate_left
      · intro w hSw
        simp only [List.getElem_toArray, List.getElem_cons_succ, List.getElem_cons_zero]
        (try dsimp only at hSw)
        go_simp
        first | done | (with_reducible rfl)
      simp only [List.getElem_toArray, List.getElem_cons_succ, List.getElem_cons_zero, Act.put, List.setIfInBounds_toArray, List.set_cons_zero, List.set_cons_succ]
      refine wpAnyH_take (i := 2) (v := ?_) rfl (by kernel_rfl) (by kernel_rfl) (by kernel_rfl) (fun _ _ _ h => h) (Or.inl ⟨by rfl, ?_⟩) (by assumption) ?_
      rotate_left
      · intro w hSw
        simp only [List.getElem_toArray, List.getElem_cons_succ, List.getElem_cons_zero]
        (try dsimp only at hSw)
        go_simp
        first | done | (with_reducible rfl)
      simp only [List.getElem_toArray, List.getElem_cons_succ, List.getElem_cons_zero, Act.put, List.setIfInBounds_toArray, List.set_cons_zero, List.set_cons_succ]
      refine wpAnyH_take (i := 3) (v := ?_) rfl (by kernel_rfl) (by kernel_rfl) (by kernel_rfl) (fun _ _ _ h => h) (Or.inl ⟨by rfl, ?_⟩) (by assumption) ?_
      rotate_left
      · intro w hSw
        simp only [List.getElem_toArray, List.getElem_cons_succ, List.getElem_cons_zero]
        (try dsimp only at hSw)
        go_simp
        first | done | (with_reducible rfl)
      simp only [List.getElem_toArray, List.getElem_cons_succ, List.getElem_cons_zero, Act.put, List.setIfInBounds_toArray, List.set_cons_zero, List.set_cons_succ]
      refine wpAnyH_take (i := 4) (v := ?_) rfl (by kernel_rfl) (by kernel_rfl) (by kernel_rfl) (fun _ _ _ h => h) (Or.inl ⟨by rfl, ?_⟩) (by assumption) ?_
      rotate_left
      · intro w hSw
        simp only [List.getElem_toArray, List.getElem_cons_succ, List.getElem_cons_zero]
        (try dsimp only at hSw)
        go_simp
        first | done | (with_reducible rfl)
      simp only [List.getElem_toArray, List.getElem_cons_succ, List.getElem_cons_zero, Act.put, List.setIfInBounds_toArray, List.set_cons_zero, List.set_cons_succ]
      refine wpAnyH_take (i := 5) (v := ?_) rfl (by kernel_rfl) (by kernel_rfl) (by kernel_rfl) (fun _ _ _ h => h) (Or.inl ⟨by rfl, ?_⟩) (by assumption) ?_
      rotate_left
      · intro w hSw
        simp only [List.getElem_toArray, List.getElem_cons_succ, List.getElem_cons_zero]
        (try dsimp only at hSw)
        go_simp
        first | done | (with_reducible rfl)
      simp only [List.getElem_toArray, List.getElem_cons_succ, List.getElem_cons_zero, Act.put, List.setIfInBounds_toArray, List.set_cons_zero, List.set_cons_succ]
      refine wpAnyH_take (i := 6) (v := ?_) rfl (by kernel_rfl) (by kernel_rfl) (by kernel_rfl) (fun _ _ _ h => h) (Or.inl ⟨by rfl, ?_⟩) (by assumption) ?_
      rotate_left
      · intro w hSw
        simp only [List.getElem_toArray, List.getElem_cons_succ, List.getElem_cons_zero]
        (try dsimp only at hSw)
        go_simp
        first | done | (with_reducible rfl)
      simp only [List.getElem_toArray, List.getElem_cons_succ, List.getElem_cons_zero, Act.put, List.setIfInBounds_toArray, List.set_cons_zero, List.set_cons_succ]
      refine wpAnyH_take (i := 7) (v := ?_) rfl (by kernel_rfl) (by kernel_rfl) (by kernel_rfl) (fun _ _ _ h => h) (Or.inl ⟨by rfl, ?_⟩) (by assumption) ?_
      rotate_left
      · intro w hSw
        simp only [List.getElem_toArray, List.getElem_cons_succ, List.getElem_cons_zero]
        (try dsimp only at hSw)
        go_simp
        first | done | (with_reducible rfl)
      simp only [List.getElem_toArray, List.getElem_cons_succ, List.getElem_cons_zero, Act.put, List.setIfInBounds_toArray, List.set_cons_zero, List.set_cons_succ]
      refine wpAnyH_take (i := 8) (v := ?_) rfl (by kernel_rfl) (by kernel_rfl) (by kernel_rfl) (fun _ _ _ h => h) (Or.inl ⟨by rfl, ?_⟩) (by assumption) ?_
      rotate_left
      · intro w hSw
        simp only [List.getElem_toArray, List.getElem_cons_succ, List.getElem_cons_zero]
        (try dsimp only at hSw)
        go_simp
        first | done | (with_reducible rfl)
      simp only [List.getElem_toArray, List.getElem_cons_succ, List.getElem_cons_zero, Act.put, List.setIfInBounds_toArray, List.set_cons_zero, List.set_cons_succ]
      refine wpAnyH_done (by kernel_rfl) ?_ _
      refine offQ_last rfl (fun KL hKL => ?_)
      go_simp
      refine hKL.out _ _ ?_
      (try rw [show w1.drew.setCell ⟨g, y, none⟩ (.int .i64 x) = (w1.setCell ⟨g, y, none⟩ (.int .i64 x)).drew from rfl])
      generalize (w1.setCell ⟨g, y, none⟩ (.int .i64 x)).drew = w3 at *
      clear Kd k0 k1 k2 k3 va vc vf
      go_wp2_with fail
      go_roundw
      case rel => exact ⟨k + 1, by omega, by go_num, by rw [HSU.out]; exact HM3.out⟩
      case measure => simp [intOf]; omega
    by_cases h7 : i.op = 7
    case pos =>
      obtain ⟨a0, a1⟩ := insP_a hip (by omega)
      obtain ⟨a, ha⟩ : ∃ a : Nat, i.a = a := ⟨i.a.toNat, by omega⟩
      have al : a < r.σ.length := by omega
      have al' : (a : Int) < (r.σ.length : Int) := by omega
      have ap : 0 ≤ (a : Int) := by omega
      obtain ⟨g, cap, hvg, hBg, _⟩ := World.ownsRow.form HM.out.hv (by omega)
      have HVG := Lib.hid hvg
      have HINS : Hid (insS i r = ⟨r.σ, r.em ++ [gN r.σ a]⟩) := by unfold insS; rw [if_neg h1, if_neg h2, if_pos h7, ha]; rfl
      have c0 : wr.cell? ⟨b, off + k * 4, none⟩ = some (.int .i64 7) := by rw [← h7]; exact HC0.out
      have c1 : wr.cell? ⟨b, off + k * 4 + 1, none⟩ = some (.int .i64 i.v) := HC1.out
      have c2 : wr.cell? ⟨b, off + k * 4 + 2, none⟩ = some (.int .i64 a) := by rw [← ha]; exact HC2.out
      have c3 : wr.cell? ⟨b, off + k * 4 + 3, none⟩ = some (.int .i64 i.b) := HC3.out
      clear hip ha a0 a1
      go_upto_region 12 with fail
      have hB1 : Below wr.heap.size wr (wr.alloc (.cells #[.int .i64 7, .int .i64 i.v, .int .i64 a, .int .i64 i.b] 84)) := (Below.refl _ _).alloc (Nat.le_refl _) _
      have k0 : (wr.alloc (.cells #[.int .i64 7, .int .i64 i.v, .int .i64 a, .int .i64 i.b] 84)).cell? ⟨wr.heap.size, 0, none⟩ = some (.int .i64 7) := by go_simp
      have k1 : (wr.alloc (.cells #[.int .i64 7, .int .i64 i.v, .int .i64 a, .int .i64 i.b] 84)).cell? ⟨wr.heap.size, 1, none⟩ = some (.int .i64 i.v) := by go_simp
      have k2 : (wr.alloc (.cells #[.int .i64 7, .int .i64 i.v, .int .i64 a, .int .i64 i.b] 84)).cell? ⟨wr.heap.size, 2, none⟩ = some (.int .i64 a) := by go_simp
      have k3 : (wr.alloc (.cells #[.int .i64 7, .int .i64 i.v, .int .i64 a, .int .i64 i.b] 84)).cell? ⟨wr.heap.size, 3, none⟩ = some (.int .i64 i.b) := by go_simp
      have hqn : v.ownBlock ≠ some wr.heap.size ∧ u2.ownBlock ≠ some wr.heap.size := ⟨fun e => by have := (HM.out.hv.lt _ e).2; omega, fun e => by have := (HM.out.he.lt _ e).2; omega⟩
      have hqs : wr.heap.size < (wr.alloc (.cells #[.int .i64 7, .int .i64 i.v, .int .i64 a, .int .i64 i.b] 84)).heap.size := by simp
      obtain ⟨q, hq⟩ : ∃ q, q = wr.heap.size := ⟨_, rfl⟩
      rw [← hq] at k0 k1 k2 k3 hqn hqs ⊢
      generalize (wr.alloc (.cells #[.int .i64 7, .int .i64 i.v, .int .i64 a, .int .i64 i.b] 84)) = w1 at *
      have HM1 := Lib.hid (HM.out.below hB1)
      clear HM hB1 hq c0 c1 c2 c3 HC0 HC1 HC2 HC3
      have va : w1.cell? ⟨g, a, none⟩ = some (.int .i64 (gN r.σ a)) := by
        have h := HM1.out.hv
        rw [hvg] at h
        rw [World.ownsRow.cellAt h a (by omega), List.getElem?_map, gN_get (x := (a : Int)) rfl al]; rfl
      generalize gN r.σ a = x at va HINS
      have hBw : B ≤ w1.heap.size := by have := HM1.out.fw.size; omega
      subst hvg
      go_wp2_with (at_builtin; go_must (refine wpList_append_int rfl (.tmp 60) (.tmp 66) rfl B u2 r.em x w1 rfl HM1.out.he rfl hBw (by omega) ?_; intro ov' w9 hown9 hg9 hat9; have HO9 := Lib.hid hown9; have HG9 := Lib.hid hg9; have HA9 := Lib.hid hat9; clear hown9 hg9 hat9))
      have HM3 : Hid (MB (.slice (some ⟨g, 0, none⟩) r.σ.length cap) ev ov' Bv B (insS i r) w w9) := by rw [HINS.out]; exact HM1.out.emit HO9.out HG9.out HA9.out
      clear k0 k1 k2 k3 va HO9 HG9 HA9
      go_roundw
      case rel => exact ⟨k + 1, by omega, by go_num, by rw [HSU.out]; exact HM3.out⟩
      case measure => simp [intOf]; omega
    obtain ⟨v0, v1⟩ := insP_v hip h7
    obtain ⟨y, hy⟩ : ∃ y : Nat, i.v = y := ⟨i.v.toNat, by omega⟩
    have yl : y < r.σ.length := by omega
    have yl' : (y : Int) < (r.σ.length : Int) := by omega
    have yp : 0 ≤ (y : Int) := by omega
    obtain ⟨a0, a1⟩ := insP_a hip h1
    obtain ⟨a, ha⟩ : ∃ a : Nat, i.a = a := ⟨i.a.toNat, by omega⟩
    have al : a < r.σ.length := by omega
    have al' : (a : Int) < (r.σ.length : Int) := by omega
    have ap : 0 ≤ (a : Int) := by omega
    obtain ⟨b0, b1⟩ := insP_b hip h1 h2 h7
    obtain ⟨bb, hbb⟩ : ∃ bb : Nat, i.b = bb := ⟨i.b.toNat, by omega⟩
    have bbl : bb < r.σ.length := by omega
    have bbl' : (bb : Int) < (r.σ.length : Int) := by omega
    have bbp : 0 ≤ (bb : Int) := by omega
    obtain ⟨g, cap, hvg, hBg, _⟩ := World.ownsRow.form HM.out.hv (by omega)
    have HVG := Lib.hid hvg
    have HINS : Hid (insS i r = ⟨pN r.σ y (reckB i.op (gN r.σ a) (gN r.σ bb)), r.em⟩) := by unfold insS; rw [if_neg h1, if_neg h2, if_neg h7, hy, ha, hbb]; rfl
    have d1 : (i.op == 1) = false := by simpa using h1
    have d2 : (i.op == 2) = false := by simpa using h2
    have d7 : (i.op == 7) = false := by simpa using h7
    have c0 := HC0.out
    have c1 : wr.cell? ⟨b, off + k * 4 + 1, none⟩ = some (.int .i64 y) := by rw [← hy]; exact HC1.out
    have c2 : wr.cell? ⟨b, off + k * 4 + 2, none⟩ = some (.int .i64 a) := by rw [← ha]; exact HC2.out
    have c3 : wr.cell? ⟨b, off + k * 4 + 3, none⟩ = some (.int .i64 bb) := by rw [← hbb]; exact HC3.out
    clear hip hy ha hbb v0 v1 a0 a1 b0 b1 h1 h2 h7
    go_upto_region 6 with fail
    have hB1 : Below wr.heap.size wr (wr.alloc (.cells #[.int .i64 i.op, .int .i64 y, .int .i64 a, .int .i64 bb] 84)) := (Below.refl _ _).alloc (Nat.le_refl _) _
    have k0 : (wr.alloc (.cells #[.int .i64 i.op, .int .i64 y, .int .i64 a, .int .i64 bb] 84)).cell? ⟨wr.heap.size, 0, none⟩ = some (.int .i64 i.op) := by go_simp
    have k1 : (wr.alloc (.cells #[.int .i64 i.op, .int .i64 y, .int .i64 a, .int .i64 bb] 84)).cell? ⟨wr.heap.size, 1, none⟩ = some (.int .i64 y) := by go_simp
    have k2 : (wr.alloc (.cells #[.int .i64 i.op, .int .i64 y, .int .i64 a, .int .i64 bb] 84)).cell? ⟨wr.heap.size, 2, none⟩ = some (.int .i64 a) := by go_simp
    have k3 : (wr.alloc (.cells #[.int .i64 i.op, .int .i64 y, .int .i64 a, .int .i64 bb] 84)).cell? ⟨wr.heap.size, 3, none⟩ = some (.int .i64 bb) := by go_simp
    have hqn : v.ownBlock ≠ some wr.heap.size ∧ u2.ownBlock ≠ some wr.heap.size := ⟨fun e => by have := (HM.out.hv.lt _ e).2; omega, fun e => by have := (HM.out.he.lt _ e).2; omega⟩
    have hqs : wr.heap.size < (wr.alloc (.cells #[.int .i64 i.op, .int .i64 y, .int .i64 a, .int .i64 bb] 84)).heap.size := by simp
    obtain ⟨q, hq⟩ : ∃ q, q = wr.heap.size := ⟨_, rfl⟩
    rw [← hq] at k0 k1 k2 k3 hqn hqs ⊢
    generalize (wr.alloc (.cells #[.int .i64 i.op, .int .i64 y, .int .i64 a, .int .i64 bb] 84)) = w1 at *
    have HM1 := Lib.hid (HM.out.below hB1)
    clear HM hB1 hq c0 c1 c2 c3 HC0 HC1 HC2 HC3
    obtain ⟨⟨u0, vc⟩, vf⟩ := HM1.out.hv.cellI (k := y) hvg yl
    have va : w1.cell? ⟨g, a, none⟩ = some (.int .i64 (gN r.σ a)) := by
      have h := HM1.out.hv
      rw [hvg] at h
      rw [World.ownsRow.cellAt h a (by omega), List.getElem?_map, gN_get (x := (a : Int)) rfl al]; rfl
    have vb : w1.cell? ⟨g, bb, none⟩ = some (.int .i64 (gN r.σ bb)) := by
      have h := HM1.out.hv
      rw [hvg] at h
      rw [World.ownsRow.cellAt h bb (by omega), List.getElem?_map, gN_get (x := (bb : Int)) rfl bbl]; rfl
    generalize gN r.σ a = xa at va HINS
    generalize gN r.σ bb = xb at vb HINS
    clear d1 d2 d7
    have HM3 : Hid (MB v ev u2 Bv B (insS i r) w ((w1.setCell ⟨g, y, none⟩ (.int .i64 (reckB i.op xa xb))).drew)) := by rw [HINS.out]; exact (HM1.out.setV hvg rfl _).below (Below.refl _ _).drew
    subst hvg
    have Kd : (fun w' => w'.cell? ⟨q, 0, none⟩ = some (.int .i64 i.op) ∧ w'.cell? ⟨q, 1, none⟩ = some (.int .i64 y) ∧ w'.cell? ⟨q, 2, none⟩ = some (.int .i64 a) ∧ w'.cell? ⟨q, 3, none⟩ = some (.int .i64 bb) ∧ w'.cell? ⟨g, a, none⟩ = some (.int .i64 xa) ∧ w'.cell? ⟨g, bb, none⟩ = some (.int .i64 xb)) w1.drew := ⟨k0, k1, k2, k3, va, vb⟩
    refine wp_region_offL (S := ((fun w' => w'.cell? ⟨q, 0, none⟩ = some (.int .i64 i.op) ∧ w'.cell? ⟨q, 1, none⟩ = some (.int .i64 y) ∧ w'.cell? ⟨q, 2, none⟩ = some (.int .i64 a) ∧ w'.cell? ⟨q, 3, none⟩ = some (.int .i64 bb) ∧ w'.cell? ⟨g, a, none⟩ = some (.int .i64 xa) ∧ w'.cell? ⟨g, bb, none⟩ = some (.int .i64 xb)))) (by simp) (by kernel_rfl) (by kernel_rfl) (by kernel_rfl) (by kernel_rfl) (by kernel_rfl) ?_ (fun hHeld => ?_)
    · (try dsimp only)
      (first | exact Kd | fail)
    simp only [List.dropLast_cons_cons, List.dropLast_singleton, List.length_cons, List.length_nil]
    refine wpAnyH_take (i := 0) (v := ?_) rfl (by kernel_rfl) (by kernel_rfl) (by kernel_rfl) (fun _ _ _ h => h) (Or.inl ⟨by rfl, ?_⟩) (by assumption) ?_
    rotate_left
    · intro w hSw
      simp only [List.getElem_toArray, List.getElem_cons_zero]
      (try dsimp only at hSw)
      go_simp
      first | done | (with_reducible rfl)
    simp only [List.getElem_toArray, List.getElem_cons_zero, Act.put, List.setIfInBounds_toArray, List.set_cons_zero, List.set_cons_succ]
    refine wpAnyH_take (i := 1) (v := ?_) rfl (by kernel_rfl) (by kernel_rfl) (by kernel_rfl) (fun _ _ _ h => h) (Or.inl ⟨by rfl, ?_⟩) (by assumption) ?_
    rotate_left
    · intro w hSw
      simp only [List.getElem_toArray, List.getElem_cons_succ, List.getElem_cons_zero]
      (try dsimp only at hSw)
      go_simp
      first | done | (with_reducible rfl)
    simp only [List.getElem_toArray, List.getElem_cons_succ, List.getElem_cons_zero, Act.put, List.setIfInBounds_toArray, List.set_cons_zero, List.set_cons_succ]
    refine wpAnyH_take (i := 2) (v := ?_) rfl (by kernel_rfl) (by kernel_rfl) (by kernel_rfl) (fun _ _ _ h => h) (Or.inl ⟨by rfl, ?_⟩) (by assumption) ?_
    rotate_left
    · intro w hSw
      simp only [List.getElem_toArray, List.getElem_cons_succ, List.getElem_cons_zero]
      (try dsimp only at hSw)
      go_simp
      first | done | (with_reducible rfl)
    simp only [List.getElem_toArray, List.getElem_cons_succ, List.getElem_cons_zero, Act.put, List.setIfInBounds_toArray, List.set_cons_zero, List.set_cons_succ]
    refine wpAnyH_take (i := 3) (v := ?_) rfl (by kernel_rfl) (by kernel_rfl) (by kernel_rfl) (fun _ _ _ h => h) (Or.inl ⟨by rfl, ?_⟩) (by assumption) ?_
    rotate_left
    · intro w hSw
      simp only [List.getElem_toArray, List.getElem_cons_succ, List.getElem_cons_zero]
      (try dsimp only at hSw)
      go_simp
      first | done | (with_reducible rfl)
    simp only [List.getElem_toArray, List.getElem_cons_succ, List.getElem_cons_zero, Act.put, List.setIfInBounds_toArray, List.set_cons_zero, List.set_cons_succ]
    refine wpAnyH_take (i := 4) (v := ?_) rfl (by kernel_rfl) (by kernel_rfl) (by kernel_rfl) (fun _ _ _ h => h) (Or.inl ⟨by rfl, ?_⟩) (by assumption) ?_
    rotate_left
    · intro w hSw
      simp only [List.getElem_toArray, List.getElem_cons_succ, List.getElem_cons_zero]
      (try dsimp only at hSw)
      go_simp
      first | done | (with_reducible rfl)
    simp only [List.getElem_toArray, List.getElem_cons_succ, List.getElem_cons_zero, Act.put, List.setIfInBounds_toArray, List.set_cons_zero, List.set_cons_succ]
    refine wpAnyH_take (i := 5) (v := ?_) rfl (by kernel_rfl) (by kernel_rfl) (by kernel_rfl) (fun _ _ _ h => h) (Or.inl ⟨by rfl, ?_⟩) (by assumption) ?_
    rotate_left
    · intro w hSw
      simp only [List.getElem_toArray, List.getElem_cons_succ, List.getElem_cons_zero]
      (try dsimp only at hSw)
      go_simp
      first | done | (with_reducible rfl)
    simp only [List.getElem_toArray, List.getElem_cons_succ, List.getElem_cons_zero, Act.put, List.setIfInBounds_toArray, List.set_cons_zero, List.set_cons_succ]
    refine wpAnyH_take (i := 6) (v := ?_) rfl (by kernel_rfl) (by kernel_rfl) (by kernel_rfl) (fun _ _ _ h => h) (Or.inl ⟨by rfl, ?_⟩) (by assumption) ?_
    rotate_left
    · intro w hSw
      simp only [List.getElem_toArray, List.getElem_cons_succ, List.getElem_cons_zero]
      (try dsimp only at hSw)
      go_simp
      first | done | (with_reducible rfl)
    simp only [List.getElem_toArray, List.getElem_cons_succ, List.getElem_cons_zero, Act.put, List.setIfInBounds_toArray, List.set_cons_zero, List.set_cons_succ]
    refine wpAnyH_take (i := 7) (v := ?_) rfl (by kernel_rfl) (by kernel_rfl) (by kernel_rfl) (fun _ _ _ h => h) (Or.inl ⟨by rfl, ?_⟩) (by assumption) ?_
    rotate_left
    · intro w hSw
      simp only [List.getElem_toArray, List.getElem_cons_succ, List.getElem_cons_zero]
      (try dsimp only at hSw)
      go_simp
      first | done | (with_reducible rfl)
    simp only [List.getElem_toArray, List.getElem_cons_succ, List.getElem_cons_zero, Act.put, List.setIfInBounds_toArray, List.set_cons_zero, List.set_cons_succ]
    refine wpAnyH_take (i := 8) (v := ?_) rfl (by kernel_rfl) (by kernel_rfl) (by kernel_rfl) (fun _ _ _ h => h) (Or.inl ⟨by rfl, ?_⟩) (by assumption) ?_
    rotate_left
    · intro w hSw
      simp only [List.getElem_toArray, List.getElem_cons_succ, List.getElem_cons_zero]
      (try dsimp only at hSw)
      go_simp
      first | done | (with_reducible rfl)
    simp only [List.getElem_toArray, List.getElem_cons_succ, List.getElem_cons_zero, Act.put, List.setIfInBounds_toArray, List.set_cons_zero, List.set_cons_succ]
    refine wpAnyH_take (i := 9) (v := ?_) rfl (by kernel_rfl) (by kernel_rfl) (by kernel_rfl) (fun _ _ _ h => h) (Or.inl ⟨by rfl, ?_⟩) (by assumption) ?_
    rotate_left
    · intro w hSw
      simp only [List.getElem_toArray, List.getElem_cons_succ, List.getElem_cons_zero]
      (try dsimp only at hSw)
      go_simp
      first | done | (with_reducible rfl)
    simp only [List.getElem_toArray, List.getElem_cons_succ, List.getElem_cons_zero, Act.put, List.setIfInBounds_toArray, List.set_cons_zero, List.set_cons_succ]
    refine wpAnyH_take (i := 10) (v := ?_) rfl (by kernel_rfl) (by kernel_rfl) (by kernel_rfl) (fun _ _ _ h => h) (Or.inl ⟨by rfl, ?_⟩) (by assumption) ?_
    rotate_left
    · intro w hSw
      simp only [List.getElem_toArray, List.getElem_cons_succ, List.getElem_cons_zero]
      (try dsimp only at hSw)
      go_simp
      first | done | (with_reducible rfl)
    simp only [List.getElem_toArray, List.getElem_cons_succ, List.getElem_cons_zero, Act.put, List.setIfInBounds_toArray, List.set_cons_zero, List.set_cons_succ]
    refine wpAnyH_take (i := 11) (v := ?_) rfl (by kernel_rfl) (by kernel_rfl) (by kernel_rfl) (fun _ _ _ h => h) (Or.inl ⟨by rfl, ?_⟩) (by assumption) ?_
    rotate_left
    · intro w hSw
      simp only [List.getElem_toArray, List.getElem_cons_succ, List.getElem_cons_zero]
      (try dsimp only at hSw)
      go_simp
      first | done | (with_reducible rfl)
    simp only [List.getElem_toArray, List.getElem_cons_succ, List.getElem_cons_zero, Act.put, List.setIfInBounds_toArray, List.set_cons_zero, List.set_cons_succ]
    refine wpAnyH_take (i := 12) (v := ?_) rfl (by kernel_rfl) (by kernel_rfl) (by kernel_rfl) (fun _ _ _ h => h) (Or.inl ⟨by rfl, ?_⟩) (by assumption) ?_
    rotate_left
    · intro w hSw
      simp only [List.getElem_toArray, List.getElem_cons_succ, List.getElem_cons_zero]
      (try dsimp only at hSw)
      go_simp
      first | done | (with_reducible rfl)
    simp only [List.getElem_toArray, List.getElem_cons_succ, List.getElem_cons_zero, Act.put, List.setIfInBounds_toArray, List.set_cons_zero, List.set_cons_succ]
    refine wpAnyH_take (i := 13) (v := ?_) rfl (by kernel_rfl) (by kernel_rfl) (by kernel_rfl) (fun _ _ _ h => h) (Or.inl ⟨by rfl, ?_⟩) (by assumption) ?_
    rotate_left
    · intro w hSw
      simp only [List.getElem_toArray, List.getElem_cons_succ, List.getElem_cons_zero]
      (try dsimp only at hSw)
      go_simp
      first | done | (with_reducible rfl)
    simp only [List.getElem_toArray, List.getElem_cons_succ, List.getElem_cons_zero, Act.put, List.setIfInBounds_toArray, List.set_cons_zero, List.set_cons_succ]
    refine wpAnyH_take (i := 14) (v := ?_) rfl (by kernel_rfl) (by kernel_rfl) (by kernel_rfl) (fun _ _ _ h => h) (Or.inl ⟨by rfl, ?_⟩) (by assumption) ?_
    rotate_left
    · intro w hSw
      simp only [List.getElem_toArray, List.getElem_cons_succ, List.getElem_cons_zero]
      (try dsimp only at hSw)
      go_simp
      first | done | (with_reducible rfl)
    simp only [List.getElem_toArray, List.getElem_cons_succ, List.getElem_cons_zero, Act.put, List.setIfInBounds_toArray, List.set_cons_zero, List.set_cons_succ]
    refine wpAnyH_ready (rs := [15]) (by kernel_rfl) (by simp) ?_
    refine AllReadyH.cons rfl (fun KZ hKZ => ?_) AllReadyH.nil
    simp only [List.getElem_toArray, List.getElem_cons_succ, List.getElem_cons_zero]
    go_simp
    (first | (go_at_call 73; refine (sReckoned_any i.op xa xb _).mono ?_; rintro e w7 ⟨rfl, rfl⟩) | fail)
    go_wp2_with fail
    refine hKZ.out _ _ ?_ (fun hHeld => ?_)
    · (try dsimp only)
      (first | exact Kd | fail)
    clear hKZ KZ
    (try simp only [List.getElem_toArray, List.getElem_cons_succ, List.getElem_cons_zero, Act.put, List.setIfInBounds_toArray, List.set_cons_zero, List.set_cons_succ])
    refine wpAnyH_take (i := 16) (v := ?_) rfl (by kernel_rfl) (by kernel_rfl) (by kernel_rfl) (fun _ _ _ h => h) (Or.inl ⟨by rfl, ?_⟩) (by assumption) ?_
    rotate_left
    · intro w hSw
      simp only [List.getElem_toArray, List.getElem_cons_succ, List.getElem_cons_zero]
      (try dsimp only at hSw)
      go_simp
      first | done | (with_reducible rfl)
    simp only [List.getElem_toArray, List.getElem_cons_succ, List.getElem_cons_zero, Act.put, List.setIfInBounds_toArray, List.set_cons_zero, List.set_cons_succ]
    refine wpAnyH_done (by kernel_rfl) ?_ _
    generalize reckB i.op xa xb = x at *
    refine offQ_last rfl (fun KL hKL => ?_)
    go_simp
    refine hKL.out _ _ ?_
    (try rw [show w1.drew.setCell ⟨g, y, none⟩ (.int .i64 x) = (w1.setCell ⟨g, y, none⟩ (.int .i64 x)).drew from rfl])
    generalize (w1.setCell ⟨g, y, none⟩ (.int .i64 x)).drew = w3 at *
    clear Kd k0 k1 k2 k3 va vb vc vf
    go_wp2_with fail
    go_roundw
    case rel => exact ⟨k + 1, by omega, by go_num, by rw [HSU.out]; exact HM3.out⟩
    case measure => simp [intOf]; omega
end

/- l6Args of the model; the zeros that are put behind. -/
section
open Go.ChangeShapes Go.WideShapes Go.ChangeAt Go.RowKit Go.Joins

def ArgsP (f : FunD) (args : List Int) (fuel : Int) : Prop := (args.length : Int) = f.params ∧ (0 ≤ fuel ∧ fuel ≤ 500) ∧ ∀ a ∈ args, 0 ≤ a ∧ a < 1000003

theorem RI.keepB {w w' : World} {v : Value} {xs : List Int} (h : RI w v xs) (hb : Below w.heap.size w w') : RI w' v xs := by
  obtain ⟨h1, A, c, rfl, h2⟩ := h
  refine ⟨h1, A, c, rfl, fun hne => ?_⟩
  obtain ⟨b, off, rfl, h3⟩ := h2 hne
  exact ⟨b, off, rfl, fun k u hu => (hb.cell (p := ⟨b, _, none⟩) (World.block_lt_of_cell? w ⟨b, _, none⟩ (h3 k u hu))).trans (h3 k u hu)⟩

set_option maxHeartbeats 1000000 in
theorem l6Args_any (f : FunD) (A : Option Addr) (n c : Nat) (va : Value) (args : List Int) (fuel : Int) (w : World) (ha : RI w va args) :
    Calls Tryz.prog 39 #[.agg #[.int .i64 f.params, .int .i64 f.names, .slice A n c], va, .int .i64 fuel] w (GivesB (ArgsP f args fuel) w) := by
  have hB : Below w.heap.size w (w.alloc (.cells #[.int .i64 f.params, .int .i64 f.names, .slice A n c] 26)) := (Below.refl _ _).alloc (Nat.le_refl _) _
  have HB := Lib.hid hB
  have HA := Lib.hid (ha.keepB hB)
  obtain ⟨hal, Aa, ca, rfl, _⟩ := ha
  clear hB
  by_cases h1 : (args.length : Int) = f.params
  case neg =>
    have HN : Hid (¬ ArgsP f args fuel) := fun h => h1 h.1
    have hb : ((args.length : Int) != f.params) = true := by simpa using h1
    clear h1
    go_enter Tryz.func39, Tryz.ntmps39
    go_wp2_with (go_at_call 71; refine (l1In_any _ _ _ _).mono ?_; rintro e w' ⟨rfl, rfl⟩)
    go_ret
    exact gives_no HN.out HB.out
  have hb : ((args.length : Int) != f.params) = false := by simpa using h1
  have H1 := Lib.hid h1
  clear h1
  by_cases h2 : 0 ≤ fuel ∧ fuel ≤ 500
  case neg =>
    have HN : Hid (¬ ArgsP f args fuel) := fun h => h2 h.2.1
    have hb2 : (decide (0 ≤ fuel) && decide (fuel ≤ 500)) = false := by simp; omega
    clear h2
    go_enter Tryz.func39, Tryz.ntmps39
    go_wp2_with (go_at_call 71; refine (l1In_any _ _ _ _).mono ?_; rintro e w' ⟨rfl, rfl⟩; rw [hb2])
    go_ret
    exact gives_no HN.out HB.out
  have hb2 : (decide (0 ≤ fuel) && decide (fuel ≤ 500)) = true := by simp; omega
  have H2 := Lib.hid h2
  clear h2
  go_enter Tryz.func39, Tryz.ntmps39
  go_wp2_with (go_at_call 71; refine (l1In_any _ _ _ _).mono ?_; rintro e w' ⟨rfl, rfl⟩; rw [hb2])
  go_loop [7] (fun q => ∃ k : Nat, k ≤ args.length ∧ q = .int .i64 k ∧ Hid (∀ (j : Nat) x, j < k → args[j]? = some x → isValueB x = true)) (fun q => args.length - (intOf q).toNat)
  case atStart => exact ⟨0, Nat.zero_le _, rfl, fun _ _ h => absurd h (by omega)⟩
  case round =>
    obtain ⟨k, hk, rfl, HK⟩ := hrel
    by_cases hkl : k < args.length
    case neg =>
      obtain rfl : k = args.length := by omega
      have HY : Hid (ArgsP f args fuel) := ⟨H1.out, H2.out, fun a hm => by
        obtain ⟨j, hj⟩ := List.mem_iff_getElem?.1 hm
        exact isValueB_iff.1 (HK.out j a (List.getElem?_eq_some_iff.1 hj).1 hj)⟩
      go_wp2_with fail
      go_ret
      exact gives_yes HY.out HB.out
    have hxk : args[k]? = some args[k] := List.getElem?_eq_getElem hkl
    generalize args[k] = y at hxk
    obtain ⟨_, A', c', e1, hx⟩ := HA.out
    injection e1 with e1 e0 e2
    clear e0
    subst e1 e2
    obtain ⟨b, off, rfl, hx'⟩ := hx (by rintro rfl; simp at hkl)
    have hc := hx' k _ hxk
    have hkl' : (k : Int) < (args.length : Int) := by omega
    have Hxk := Lib.hid hxk
    clear hx hx' hxk
    by_cases hv : isValueB y = true
    · have HK' : Hid (∀ (j : Nat) x, j < k + 1 → args[j]? = some x → isValueB x = true) := fun j x hj hx => by
        by_cases e : j = k
        · subst e; rw [Hxk.out] at hx; injection hx with hx; subst hx; exact hv
        · exact HK.out j x (by omega) hx
      go_wp2_with (go_at_call 72; refine (l1Value_any _ _).mono ?_; rintro e w' ⟨rfl, rfl⟩)
      go_round
      case rel => exact ⟨k + 1, by omega, by go_num, HK'⟩
      case measure => simp [intOf]; omega
    · have hv' : isValueB y = false := by simpa using hv
      have HN : Hid (¬ ArgsP f args fuel) := fun h => by
        have h1 := isValueB_iff.2 (h.2.2 y (List.mem_of_getElem? Hxk.out))
        rw [h1] at hv'; cases hv'
      clear hv
      go_wp2_with (go_at_call 72; refine (l1Value_any _ _).mono ?_; rintro e w' ⟨rfl, rfl⟩)
      go_ret
      exact gives_no HN.out HB.out

theorem step_append_zeros {ops : Array Oper} {o : Oper} {a : Act} {K : Act → World → Prop} {Q : Exit → Act → World → Prop} {F : Prop} (hgd : o.guard = none) (s x : Operand)
    (ho : o.op = .call { callee := .builtin .append, args := #[s, x], argTypes := #[27, 2] })
    (B : Nat) (v : Value) (xs : List Int) (z : Int) (n : Nat) (hz : z = n) (w : World) (hs : a.eval s = v) (hx : a.eval x = .int .i64 z) (hown : OI w B v xs) (hb : B ≤ w.heap.size) (hlen : xs.length + n ≤ 1000000)
    (h : ∀ v' w', OI w' B v' (xs ++ List.replicate n 0) → w.grownBy w' v.ownBlock → K (a.put o.dst v') w') :
    if Region.wanted o (yielded ops a.tmps) = true then Oper.wp Tryz.prog o a w K Q else F := by
  have hw : Region.wanted o (yielded ops a.tmps) = true := by simp [Region.wanted, hgd]
  rw [if_pos hw]
  subst hz
  obtain ⟨v', w', hr, h2, h3⟩ := run_append_zeros o.type B v xs n w hown hb hlen
  exact Go.Lib.wp_append_run w s x _ _ ho v _ hs hx v' w' hr (h v' w' h2 h3)
end

/- The program's run in memory: its block R, the block V of the values, the row of what was told. -/
section
open Go.ChangeShapes Go.WideShapes Go.ChangeAt Go.RowKit Go.Joins

/-- What holds of the world ahead of the run's own block. -/
structure RA (f : FunD) (Z : Zn) (wa : World) (bl : Value) (B V G : Nat) : Prop where
  hp : FunP f
  row : Row wa Z 8 (EBlock wa Z) bl f.blocks
  old : ∀ b, Z.D b → b < B
  hBV : B ≤ V
  hVG : V < G
  prs : PRow wa (G + 1) G f.blocks.length fun j => predsK succsE f.blocks f.blocks.length j
  szG : G < wa.heap.size

def runCells (f : FunD) (bl : Value) (V G : Nat) (n : Nat) (s : VSt) (st val : Int) (ev : Value) (vis : Nat) : Array Value :=
  #[bl, .slice (some ⟨G, 0, none⟩) f.blocks.length f.blocks.length, .slice (some ⟨V, 0, none⟩) n n, .int .i64 s.at_, .int .i64 s.bef, .int .i64 st, .int .i64 val, ev, .int .i64 vis]

/-- The run as it stands in w: R is the first block behind wa. -/
structure RW (f : FunD) (wa w : World) (bl : Value) (R V G : Nat) (s : VSt) (st val : Int) (vis : Nat) (ev : Value) : Prop where
  hR : R = wa.heap.size
  fw : Fw (fun b => b = V) wa w
  run : w.heap[R]? = some (.cells (runCells f bl V G s.σ.length s st val ev vis) 59 (0, 0))
  hev : OI w (R + 1) ev s.em
  vals : OI w V (.slice (some ⟨V, 0, none⟩) s.σ.length s.σ.length) s.σ

variable {f : FunD} {Z : Zn} {wa w w' : World} {bl ev : Value} {B R V G : Nat} {s : VSt} {st val : Int} {vis : Nat}

theorem RW.ltR (h : RW f wa w bl R V G s st val vis ev) : R < w.heap.size := (Array.getElem?_eq_some_iff.1 h.run).1
theorem RW.ltV (h : RW f wa w bl R V G s st val vis ev) : V < w.heap.size := (h.vals.lt V rfl).2
theorem RW.ltE (h : RW f wa w bl R V G s st val vis ev) {k : Nat} (hk : ev.ownBlock = some k) : R < k ∧ k < w.heap.size := by
  have := h.hev.lt k hk
  omega
theorem RW.cell (h : RW f wa w bl R V G s st val vis ev) {j : Nat} {u : Value} (hu : (runCells f bl V G s.σ.length s st val ev vis)[j]? = some u) : w.cell? ⟨R, j, none⟩ = some u := (cell_of_row w R j _ _ (0, 0) h.run).trans hu
theorem RW.frozen (h : RW f wa w bl R V G s st val vis ev) (j : Nat) : w.frozen? ⟨R, j, none⟩ = false := by
  have := h.run
  simp [World.frozen?, this]
theorem RW.vcell (h : RW f wa w bl R V G s st val vis ev) {x : Int} {k : Nat} (hx : x = k) (hk : k < s.σ.length) : w.cell? ⟨V, k, none⟩ = some (.int .i64 (gN s.σ x)) := by
  have := World.ownsRow.cellAt h.vals k (by omega)
  rw [this, List.getElem?_map, gN_get hx hk]; rfl
theorem RW.vfrozen (h : RW f wa w bl R V G s st val vis ev) (k : Nat) : w.frozen? ⟨V, k, none⟩ = false := World.ownsRow.frozenAt h.vals k

/-- Of what lay there the values, the run's block and the row of what was told alone may have turned. -/
structure RF (R V : Nat) (ev ev' : Value) (w w' : World) : Prop where
  fw : Fw (fun b => b = V ∨ b = R ∨ ev.ownBlock = some b) w w'
  ev : ev'.ownBlock = ev.ownBlock ∨ ∃ k, ev'.ownBlock = some k ∧ w.heap.size ≤ k
theorem RF.refl (R V : Nat) (ev : Value) (w : World) : RF R V ev ev w w := ⟨Fw.refl _ _, .inl rfl⟩
theorem RF.trans {a b c : World} {e1 e2 e3 : Value} (h : RF R V e1 e2 a b) (k : RF R V e2 e3 b c) : RF R V e1 e3 a c := by
  refine ⟨h.fw.trans k.fw fun i hi hq => ?_, ?_⟩
  · rcases hq with hq | hq | hq
    · exact .inl hq
    · exact .inr (.inl hq)
    · rcases h.ev with h1 | ⟨k1, h1, h2⟩
      · exact .inr (.inr (h1 ▸ hq))
      · rw [h1] at hq
        injection hq with hq
        omega
  · rcases k.ev with h1 | ⟨k1, h1, h2⟩
    · rcases h.ev with h3 | ⟨k3, h3, h4⟩
      · exact .inl (h1.trans h3)
      · exact .inr ⟨k3, h1.trans h3, h4⟩
    · exact .inr ⟨k1, h1, Nat.le_trans h.fw.size h2⟩
theorem RF.below {R V : Nat} {ev : Value} (h : Below w.heap.size w w') : RF R V ev ev w w' := ⟨Fw.below h, .inl rfl⟩
theorem RF.size {ev ev' : Value} (h : RF R V ev ev' w w') : w.heap.size ≤ w'.heap.size := h.fw.size
/-- A block of the caller's own, beside the run. -/
def Beside (R V : Nat) (ev : Value) (w : World) (x : Nat) : Prop := x ≠ V ∧ x ≠ R ∧ ev.ownBlock ≠ some x ∧ x < w.heap.size
theorem Beside.rf {ev ev' : Value} {x : Nat} (hx : Beside R V ev w x) (h : RF R V ev ev' w w') : Beside R V ev' w' x := by
  obtain ⟨h1, h2, h3, h4⟩ := hx
  refine ⟨h1, h2, ?_, Nat.lt_of_lt_of_le h4 h.size⟩
  rcases h.ev with e | ⟨k, e, hk⟩
  · rw [e]; exact h3
  · rw [e]; intro hh; injection hh with hh; omega
theorem Beside.heap {ev ev' : Value} {x : Nat} (hx : Beside R V ev w x) (h : RF R V ev ev' w w') : w'.heap[x]? = w.heap[x]? := by
  obtain ⟨h1, h2, h3, h4⟩ := hx
  exact h.fw.block x h4 fun hq => by
    rcases hq with hq | hq | hq
    · exact h1 hq
    · exact h2 hq
    · exact h3 hq
theorem Beside.cell {ev ev' : Value} {x : Nat} (hx : Beside R V ev w x) (h : RF R V ev ev' w w') (o : Nat) : w'.cell? ⟨x, o, none⟩ = w.cell? ⟨x, o, none⟩ := World.cell?_of_block (hx.heap h)
theorem RW.beside_new (h : RW f wa w bl R V G s st val vis ev) {x : Nat} (hx : w.heap.size ≤ x) (hx' : x < w'.heap.size) : Beside R V ev w' x := by
  have h1 := h.ltR
  have h2 := h.ltV
  refine ⟨by omega, by omega, fun e => ?_, hx'⟩
  have := (h.ltE e).2
  omega
theorem RW.beside_old (h : RW f wa w bl R V G s st val vis ev) {x : Nat} (hx : x < wa.heap.size) (hV : x ≠ V) : Beside R V ev w x := by
  have h1 := h.ltR
  have h2 := h.hR
  refine ⟨hV, by omega, fun e => ?_, by omega⟩
  have := (h.ltE e).1
  omega

/-- Below all that the run has: old memory. -/
theorem RW.old (h : RW f wa w bl R V G s st val vis ev) (ha : RA f Z wa bl B V G) : Below B wa w := h.fw.toBelow (by have h1 := ha.hBV; have h2 := ha.hVG; have h3 := ha.szG; omega) fun k hk e => by have := ha.hBV; omega
theorem RW.kept (h : RW f wa w bl R V G s st val vis ev) (ha : RA f Z wa bl B V G) : Kept Z Z wa w := Kept.below (h.old ha) ha.old
theorem RW.blocks (h : RW f wa w bl R V G s st val vis ev) (ha : RA f Z wa bl B V G) : Row w Z 8 (EBlock w Z) bl f.blocks := ha.row.keep (h.kept ha) fun _ _ e => e.keep (h.kept ha)
theorem RW.ltZ (h : RW f wa w bl R V G s st val vis ev) (ha : RA f Z wa bl B V G) {b : Nat} (hb : Z.D b) : Beside R V ev w b := by
  have h1 := ha.old b hb
  have h2 := ha.hBV
  have h3 := ha.hVG
  have h4 := ha.szG
  exact h.beside_old (by omega) (by omega)
theorem RW.preds (h : RW f wa w bl R V G s st val vis ev) (ha : RA f Z wa bl B V G) {j : Nat} (hj : j < f.blocks.length) : ∃ v, w.cell? ⟨G, j, none⟩ = some v ∧ OI w (G + 1) v (predsF f j) := by
  obtain ⟨v, hv, ho⟩ := ha.prs.get hj
  have hVG := ha.hVG
  rw [show predsK succsE f.blocks f.blocks.length (j : Int) = predsF f j from funP_preds ha.hp j] at ho
  refine ⟨v, (World.cell?_of_block (h.fw.block G ha.szG (by omega))).trans hv, ho.fw h.fw fun k hk e => ?_⟩
  have := (ho.lt k hk).1
  omega

theorem RW.below (h : RW f wa w bl R V G s st val vis ev) (hb : Below w.heap.size w w') : RW f wa w' bl R V G s st val vis ev :=
  ⟨h.hR, h.fw.trans (Fw.below (P := fun _ => False) hb) fun _ _ h => h.elim, (hb.block _ h.ltR).trans h.run, h.hev.below hb fun _ hk => (h.ltE hk).2, h.vals.below hb fun _ hk => (h.vals.lt _ hk).2⟩

/-- A value is given. -/
theorem RW.setV (h : RW f wa w bl R V G s st val vis ev) (hVR : V < R) {x : Int} {k : Nat} (hx : x = k) (v : Int) : RW f wa (w.setCell ⟨V, k, none⟩ (.int .i64 v)) bl R V G { s with σ := pN s.σ x v } st val vis ev := by
  have hg : w.grownBy (w.setCell ⟨V, k, none⟩ (.int .i64 v)) (some V) := set_grown w V k _
  have hRl := h.ltR
  have hl : (pN s.σ x v).length = s.σ.length := pN_len _ _ _
  refine ⟨h.hR, h.fw.trans (Fw.set (P := fun b => b = V) w rfl k _) fun _ _ h => h, ?_, ?_, ?_⟩
  · rw [hg.block R hRl (by intro e; injection e with e; omega)]
    show w.heap[R]? = some (.cells (runCells f bl V G (pN s.σ x v).length { s with σ := pN s.σ x v } st val ev vis) 59 (0, 0))
    rw [hl]
    exact h.run
  · refine h.hev.grown hg ?_
    rcases e : ev.ownBlock with _ | q
    · exact .inl rfl
    · refine .inr fun e' => ?_
      injection e' with e'
      have := (h.ltE e).1
      omega
  · show OI (w.setCell ⟨V, k, none⟩ (.int .i64 v)) V (.slice (some ⟨V, 0, none⟩) (pN s.σ x v).length (pN s.σ x v).length) (pN s.σ x v)
    rw [hl]
    have hs := (World.ownsRow.stored h.vals k (iv v)).1
    subst hx
    unfold OI pN
    rw [Int.toNat_natCast, List.map_set, List.length_set]
    exact hs
theorem RF.setV {R V : Nat} {ev : Value} (w : World) (k : Nat) (u : Value) : RF R V ev ev w (w.setCell ⟨V, k, none⟩ u) := ⟨Fw.set w (.inl rfl) k u, .inl rfl⟩
theorem RF.setR {R V : Nat} {ev : Value} (w : World) (k : Nat) (u : Value) : RF R V ev ev w (w.setCell ⟨R, k, none⟩ u) := ⟨Fw.set w (.inr (.inl rfl)) k u, .inl rfl⟩

/-- A store into the run's own block. -/
theorem RW.setR (h : RW f wa w bl R V G s st val vis ev) (hVR : V < R) (j : Nat) (u : Value) {s' : VSt} {st' val' : Int} {vis' : Nat} (hσ : s'.σ = s.σ) (hem : s'.em = s.em)
    (he : (runCells f bl V G s.σ.length s st val ev vis).setIfInBounds j u = runCells f bl V G s'.σ.length s' st' val' ev vis') : RW f wa (w.setCell ⟨R, j, none⟩ u) bl R V G s' st' val' vis' ev := by
  have hg : w.grownBy (w.setCell ⟨R, j, none⟩ u) (some R) := set_grown w R j u
  refine ⟨h.hR, ?_, ?_, ?_, ?_⟩
  · have hR := h.hR
    exact ⟨h.fw.os, h.fw.tape, h.fw.output, by simpa using h.fw.size, fun k hk hn => (Below.heap_setCell w ⟨R, j, none⟩ u k (fun e => by have e' : k = R := e; omega)).trans (h.fw.block k hk hn)⟩
  · rw [← he]
    exact heap_setCell_same w R j _ _ u h.run
  · rw [hem]
    refine h.hev.grown hg ?_
    rcases e : ev.ownBlock with _ | q
    · exact .inl rfl
    · refine .inr fun e' => ?_
      injection e' with e'
      have := (h.ltE e).1
      omega
  · rw [hσ]
    refine h.vals.grown hg (.inr fun e' => ?_)
    have e2 : V = R := by injection e'
    omega

/-- One thing more is told: the row has grown, and the run's block has it. -/
theorem RW.emit (h : RW f wa w bl R V G s st val vis ev) (hVR : V < R) {ev' : Value} {em' : List Int} (ho : OI w' (R + 1) ev' em') (hg : w.grownBy w' ev.ownBlock) :
    RW f wa (w'.setCell ⟨R, 7, none⟩ ev') bl R V G { s with em := em' } st val vis ev' := by
  have hRl := h.ltR
  have hVl := h.ltV
  have hne : ∀ k, k ≤ R → some k ≠ ev.ownBlock := fun k hk e => by have := (h.ltE e.symm).1; omega
  have hR' : w'.heap[R]? = some (.cells (runCells f bl V G s.σ.length s st val ev vis) 59 (0, 0)) := (hg.block R hRl (hne R (Nat.le_refl _))).trans h.run
  have hg2 : w'.grownBy (w'.setCell ⟨R, 7, none⟩ ev') (some R) := set_grown w' R 7 ev'
  have hR := h.hR
  refine ⟨h.hR, ?_, heap_setCell_same w' R 7 _ _ ev' hR', ?_, ?_⟩
  · refine ⟨hg.os.trans h.fw.os, hg.tape.trans h.fw.tape, hg.output.trans h.fw.output, by have h1 := hg.size; have h2 := h.fw.size; simp; omega, fun k hk hn => ?_⟩
    have hkw : k < w.heap.size := Nat.lt_of_lt_of_le hk h.fw.size
    rw [Below.heap_setCell w' ⟨R, 7, none⟩ ev' k (fun e => by have e' : k = R := e; omega), hg.block k hkw (hne k (by omega))]
    exact h.fw.block k hk hn
  · refine ho.grown hg2 ?_
    rcases e : ev'.ownBlock with _ | q
    · exact .inl rfl
    · refine .inr fun e' => ?_
      injection e' with e'
      have := (ho.lt q e).1
      omega
  · refine (h.vals.grown hg (.inr fun e' => hne V (by omega) e')).grown hg2 (.inr fun e' => ?_)
    have e2 : V = R := by injection e'
    omega
theorem RF.emit {ev' : Value} (hg : w.grownBy w' ev.ownBlock) (hat : ev'.ownBlock = ev.ownBlock ∨ ∃ k, ev'.ownBlock = some k ∧ w.heap.size ≤ k) : RF R V ev ev' w (w'.setCell ⟨R, 7, none⟩ ev') := by
  refine ⟨⟨hg.os, hg.tape, hg.output, by simpa using hg.size, fun k hk hn => ?_⟩, hat⟩
  rw [Below.heap_setCell w' ⟨R, 7, none⟩ ev' k (fun e => hn (.inr (.inl e)))]
  exact hg.block k hk fun e => hn (.inr (.inr e.symm))

/-- A block of the caller's own is written. -/
theorem RW.other (h : RW f wa w bl R V G s st val vis ev) {x : Nat} (hf : Fw (· = x) w w') (hx : Beside R V ev w x) (ha : wa.heap.size ≤ x) : RW f wa w' bl R V G s st val vis ev := by
  obtain ⟨h1, h2, h3, _⟩ := hx
  refine ⟨h.hR, h.fw.trans hf fun i hi e => by have e' : i = x := e; omega, (hf.block R h.ltR fun e => h2 e.symm).trans h.run, h.hev.fw hf fun k hk e => h3 (by rw [hk, show k = x from e]), h.vals.fw hf fun k hk e => ?_⟩
  have e' : k = x := e
  have e2 : V = k := by injection hk
  exact h1 (by omega)
theorem RF.other {ev ev' : Value} {wr : World} (h : RF R V ev ev' w wr) {x : Nat} (hf : Fw (· = x) wr w') (hx : w.heap.size ≤ x) : RF R V ev ev' w w' :=
  ⟨h.fw.trans hf fun i hi e => by have e' : i = x := e; omega, h.ev⟩
theorem Beside.other {ev : Value} {x y : Nat} (h : Beside R V ev w y) (hf : Fw (· = x) w w') : Beside R V ev w' y := ⟨h.1, h.2.1, h.2.2.1, Nat.lt_of_lt_of_le h.2.2.2 hf.size⟩
theorem RW.leA (h : RW f wa w bl R V G s st val vis ev) {x : Nat} (hx : w.heap.size ≤ x) : wa.heap.size ≤ x := Nat.le_trans h.fw.size hx
end

/- A list of numbers that fills a block of the call's own. -/
section
open Go.ChangeShapes Go.WideShapes Go.ChangeAt Go.RowKit Go.Joins

/-- The n numbers of block q. -/
def IL (w : World) (q n : Nat) (xs : List Int) : Prop := xs.length = n ∧ OI w q (.slice (some ⟨q, 0, none⟩) n n) xs
theorem IL.own {w : World} {q n : Nat} {xs : List Int} (h : IL w q n xs) : w.ownsRow q 2 1 (.slice (some ⟨q, 0, none⟩) n n) n (xs.map iv) := by
  obtain ⟨rfl, h⟩ := h
  exact h
theorem IL.mk {w : World} {q n : Nat} {xs : List Int} (hl : xs.length = n) (h : w.ownsRow q 2 1 (.slice (some ⟨q, 0, none⟩) n n) n (xs.map iv)) : IL w q n xs := by
  subst hl
  exact ⟨rfl, h⟩
theorem IL.cell {w : World} {q n k : Nat} {xs : List Int} (h : IL w q n xs) {x : Int} (hk : xs[k]? = some x) : w.cell? ⟨q, k, none⟩ = some (.int .i64 x) := by
  have hlt := (List.getElem?_eq_some_iff.1 hk).1
  rw [World.ownsRow.cellAt h.own k (by rw [h.1] at hlt; omega), List.getElem?_map, hk]; rfl
theorem IL.cellN {w : World} {q n k : Nat} {xs : List Int} (h : IL w q n xs) (hk : k < n) : w.cell? ⟨q, k, none⟩ = some (.int .i64 (xs.getD k 0)) := by
  have hlt : k < xs.length := by rw [h.1]; exact hk
  exact h.cell (by rw [List.getD_eq_getElem?_getD, List.getElem?_eq_getElem hlt]; rfl)
theorem IL.frozen {w : World} {q n : Nat} {xs : List Int} (h : IL w q n xs) (k : Nat) : w.frozen? ⟨q, k, none⟩ = false := World.ownsRow.frozenAt h.own k
theorem IL.set {w : World} {q n : Nat} {xs : List Int} (h : IL w q n xs) (k : Nat) (x : Int) : IL (w.setCell ⟨q, k, none⟩ (.int .i64 x)) q n (xs.set k x) := by
  refine IL.mk (by simp [h.1]) ?_
  have := (World.ownsRow.stored h.own k (iv x)).1
  rw [← List.map_set] at this
  exact this
theorem IL.fw {w w' : World} {q n : Nat} {xs : List Int} {P : Nat → Prop} (h : IL w q n xs) (hf : Fw P w w') (hn : ¬ P q) : IL w' q n xs :=
  IL.mk h.1 (own_fw h.own hf fun k hk => by injection hk with hk; subst hk; exact hn)
theorem IL.below {w w' : World} {q n : Nat} {xs : List Int} (h : IL w q n xs) (hb : Below w.heap.size w w') : IL w' q n xs := h.fw (P := fun _ => False) (Fw.below hb) fun h => h
theorem IL.lt {w : World} {q n : Nat} {xs : List Int} (h : IL w q n xs) : q < w.heap.size := (World.ownsRow.lt h.own q rfl).2
theorem IL.start (w : World) (n : Nat) (hm : n ≤ maxLen) : IL (w.alloc (.cells (madeCells #[.int .i64 0] n) 2)) w.heap.size n (List.replicate n 0) := by
  refine IL.mk (by simp) ⟨by simp, .inr ⟨w.heap.size, n, _, rfl, Nat.le_refl _, heap_alloc_new w _, Nat.le_refl _, hm, by simp [size_madeCells], ?_⟩⟩
  rw [toList_madeCells_one]
  simp [iv]
end

end Go.Proofs.YtnjmlhokkhkaaaaGreat
