/- Dominance is that of a tree; who is next above: propositions alone. -/
import Derived.Test.YteikpekffgifoaaDoorDmn
import Derived.Test.YteikpekffgifoaaDoorTz2
namespace Go.Proofs.YteikpekffgifoaaDoor
open Go.ChangeShapes Go.WideShapes Go.ChangeAt Go.RowKit Go.Joins

theorem rch_ne {sc : Int → List Int} {wo x : Int} (h : Rch sc wo x) : x ≠ wo := by
  cases h with
  | zero h => exact h
  | step _ _ h => exact h
/-- What is not reached may be left aside. -/
theorem rch_aside {sc : Int → List Int} {c b : Int} (hc : ¬ Rch sc (-1) c) (h : Rch sc (-1) b) : Rch sc c b := by
  induction h with
  | zero h0 => exact .zero (by rintro rfl; exact hc (.zero h0))
  | @step x y hx hy hn ih => exact .step ih hy (by rintro rfl; exact hc (.step hx hy hn))

theorem dom_reached {f : FunD} {a b : Int} (h : DomP f a b) : Rch (scF f.blocks) (-1) a := Classical.byContradiction fun hn => h.2.2.2.2 (rch_aside hn h.2.2.2.1)
theorem dom_refl {f : FunD} {b : Int} (hp : FunP f) (hb : isBelowB b f.blocks.length = true) (hr : Rch (scF f.blocks) (-1) b) : DomP f b b := ⟨hp, hb, hb, hr, fun h => rch_ne h rfl⟩
theorem dom_trans {f : FunD} {a c b : Int} (h : DomP f a c) (k : DomP f c b) : DomP f a b := by
  refine ⟨h.1, h.2.1, k.2.2.1, k.2.2.2.1, fun hab => k.2.2.2.2 ?_⟩
  have h0 : (0 : Int) ≠ a → (0 : Int) ≠ c := fun h0 e => h.2.2.2.2 (by rw [← e]; exact .zero h0)
  have key : ∀ x : Int, Rch (scF f.blocks) a x → Rch (scF f.blocks) c x := by
    intro x hx
    induction hx with
    | zero hz => exact .zero (h0 hz)
    | @step x y hx hy hya ih => exact .step ih hy (by rintro rfl; exact h.2.2.2.2 (.step hx hy hya))
  exact key b hab
theorem dom_anti {f : FunD} {a c : Int} (h : DomP f a c) (k : DomP f c a) : a = c := by
  refine Classical.byContradiction fun hne => k.2.2.2.2 ?_
  have key : ∀ x : Int, Rch (scF f.blocks) (-1) x → Rch (scF f.blocks) a x ∧ Rch (scF f.blocks) c x := by
    intro x hx
    induction hx with
    | zero _ =>
      have ha : (0 : Int) ≠ a := fun e => k.2.2.2.2 (by rw [← e]; exact .zero (by rw [e]; exact hne))
      have hc : (0 : Int) ≠ c := fun e => h.2.2.2.2 (by rw [← e]; exact .zero ha)
      exact ⟨.zero ha, .zero hc⟩
    | @step x y _ hy _ ih =>
      have ha : y ≠ a := by rintro rfl; exact k.2.2.2.2 (.step ih.2 hy hne)
      have hc : y ≠ c := by rintro rfl; exact h.2.2.2.2 (.step ih.1 hy ha)
      exact ⟨.step ih.1 hy ha, .step ih.2 hy hc⟩
  exact (key a k.2.2.2.1).2
theorem dom_chain {f : FunD} {a c b : Int} (h : DomP f a b) (k : DomP f c b) : DomP f a c ∨ DomP f c a := by
  by_cases h1 : Rch (scF f.blocks) a c
  · by_cases h2 : Rch (scF f.blocks) c a
    · exfalso
      have hac : a ≠ c := fun e => rch_ne h1 e.symm
      have key : ∀ x : Int, Rch (scF f.blocks) (-1) x → Rch (scF f.blocks) a x ∨ Rch (scF f.blocks) c x := by
        intro x hx
        induction hx with
        | zero _ =>
          by_cases e : (0 : Int) = a
          · exact .inr (.zero (by rw [e]; exact hac))
          · exact .inl (.zero e)
        | @step x y _ hy _ ih =>
          rcases ih with ih | ih
          · by_cases e : y = a
            · subst e; exact .inr h2
            · exact .inl (.step ih hy e)
          · by_cases e : y = c
            · subst e; exact .inl h1
            · exact .inr (.step ih hy e)
      rcases key b h.2.2.2.1 with g | g
      · exact h.2.2.2.2 g
      · exact k.2.2.2.2 g
    · exact .inr ⟨h.1, k.2.1, h.2.1, dom_reached h, h2⟩
  · exact .inl ⟨h.1, h.2.1, k.2.1, dom_reached k, h1⟩
theorem dom_range {f : FunD} {a b : Int} (h : DomP f a b) : 0 ≤ a ∧ a < f.blocks.length := by
  have := h.2.1
  simp [isBelowB] at this
  omega

/-- The list of all that dominate b, rising. -/
def IsDoms (f : FunD) (b : Int) (xs : List Int) : Prop := xs.Pairwise (· < ·) ∧ ∀ x, x ∈ xs ↔ DomP f x b
theorem sorted_ext : ∀ {xs ys : List Int}, xs.Pairwise (· < ·) → ys.Pairwise (· < ·) → (∀ x, x ∈ xs ↔ x ∈ ys) → xs = ys
  | [], [], _, _, _ => rfl
  | [], y :: ys, _, _, h => by have := (h y).2 (by simp); cases this
  | x :: xs, [], _, _, h => by have := (h x).1 (by simp); cases this
  | x :: xs, y :: ys, hx, hy, h => by
    obtain ⟨hx1, hx2⟩ := List.pairwise_cons.1 hx
    obtain ⟨hy1, hy2⟩ := List.pairwise_cons.1 hy
    have e : x = y := by
      have h1 := (h x).1 (by simp)
      have h2 := (h y).2 (by simp)
      rcases List.mem_cons.1 h1 with e | h1
      · exact e
      rcases List.mem_cons.1 h2 with e | h2
      · exact e.symm
      have := hx1 y h2
      have := hy1 x h1
      omega
    subst e
    congr 1
    refine sorted_ext hx2 hy2 fun z => ⟨fun hz => ?_, fun hz => ?_⟩
    · have := hx1 z hz
      rcases List.mem_cons.1 ((h z).1 (by simp [hz])) with e | h'
      · omega
      · exact h'
    · have := hy1 z hz
      rcases List.mem_cons.1 ((h z).2 (by simp [hz])) with e | h'
      · omega
      · exact h'
theorem IsDoms.one {f : FunD} {b : Int} {xs ys : List Int} (h : IsDoms f b xs) (k : IsDoms f b ys) : xs = ys := sorted_ext h.1 k.1 fun x => (h.2 x).trans (k.2 x).symm
theorem bitsTo_sorted (s k : Nat) : (bitsTo s k).Pairwise (· < ·) := by
  unfold bitsTo
  rw [List.pairwise_map]
  exact (List.pairwise_lt_range.filter _).imp fun h => by omega
theorem SetRes.doms {f : FunD} {j : Int} {s : Nat} (h : SetRes f j s) : IsDoms f j (bitsTo s 40) := by
  refine ⟨bitsTo_sorted s 40, fun x => ?_⟩
  rw [bitsTo_mem]
  constructor
  · rintro ⟨i, rfl, _, hi⟩
    exact (h.bit i).1 hi
  · intro hd
    have hr := dom_range hd
    have h40 := hd.1.1.1.2
    obtain ⟨i, rfl⟩ : ∃ i : Nat, x = i := ⟨x.toNat, by omega⟩
    exact ⟨i, rfl, by omega, (h.bit i).2 hd⟩
theorem IsDoms.len {f : FunD} {b : Int} {xs : List Int} (h : IsDoms f b xs) : xs.length ≤ f.blocks.length := by
  have h2 : ∀ x ∈ xs, 0 ≤ x ∧ x < (f.blocks.length : Int) := fun x hx => dom_range ((h.2 x).1 hx)
  have key : ∀ (ys : List Int) (lo hi : Int), lo ≤ hi → ys.Pairwise (· < ·) → (∀ y ∈ ys, lo ≤ y ∧ y < hi) → (ys.length : Int) ≤ hi - lo := by
    intro ys
    induction ys with
    | nil => intro lo hi h _ _; simp; omega
    | cons y ys ih =>
      intro lo hi hlh hp hm
      obtain ⟨h3, h4⟩ := List.pairwise_cons.1 hp
      have hy := hm y (by simp)
      have := ih (y + 1) hi (by omega) h4 fun z hz => ⟨by have := h3 z hz; omega, (hm z (by simp [hz])).2⟩
      simp only [List.length_cons, Int.natCast_add]
      omega
  have := key xs 0 f.blocks.length (by omega) h.1 h2
  omega

/-- r is next above b; -1 where none is. -/
def IsIdom (f : FunD) (b r : Int) : Prop := (r = -1 ∧ ∀ x, DomP f x b → x = b) ∨ (DomP f r b ∧ r ≠ b ∧ ∀ x, DomP f x b → x ≠ b → DomP f x r)
theorem IsIdom.one {f : FunD} {b r s : Int} (h : IsIdom f b r) (k : IsIdom f b s) : r = s := by
  rcases h with ⟨rfl, h⟩ | ⟨h1, h2, h3⟩ <;> rcases k with ⟨rfl, k⟩ | ⟨k1, k2, k3⟩
  · rfl
  · exact absurd (h s k1) k2
  · exact absurd (k r h1) h2
  · exact dom_anti (k3 r h1 h2) (h3 s k1 k2)
/-- The one among these that all of them dominate, but b. -/
def BestL (f : FunD) (b : Int) (xs : List Int) (r : Int) : Prop := (r = -1 ∧ ∀ x ∈ xs, x = b) ∨ (r ∈ xs ∧ r ≠ b ∧ ∀ x ∈ xs, x ≠ b → DomP f x r)
theorem BestL.nil (f : FunD) (b : Int) : BestL f b [] (-1) := .inl ⟨rfl, fun x hx => by cases hx⟩
theorem BestL.own {f : FunD} {b : Int} {xs : List Int} {r : Int} (h : BestL f b xs r) : BestL f b (xs ++ [b]) r := by
  rcases h with ⟨h1, h2⟩ | ⟨h1, h2, h3⟩
  · exact .inl ⟨h1, fun x hx => by rcases List.mem_append.1 hx with hx | hx; exact h2 x hx; simpa using hx⟩
  · exact .inr ⟨List.mem_append_left _ h1, h2, fun x hx hn => by rcases List.mem_append.1 hx with hx | hx; exact h3 x hx hn; exact absurd (by simpa using hx) hn⟩
theorem BestL.take {f : FunD} {b : Int} {xs : List Int} {r x : Int} (h : BestL f b xs r) (hx : DomP f x b) (hxb : x ≠ b) (hc : r = -1 ∨ DomP f r x) : BestL f b (xs ++ [x]) x := by
  have hxx : DomP f x x := dom_refl hx.1 hx.2.1 (dom_reached hx)
  refine .inr ⟨by simp, hxb, fun y hy hn => ?_⟩
  rcases List.mem_append.1 hy with hy | hy
  · rcases h with ⟨_, h2⟩ | ⟨h1, h2, h3⟩
    · exact absurd (h2 y hy) hn
    · rcases hc with rfl | hc
      · have := (dom_range (h3 (-1) h1 h2)).1; omega
      · exact dom_trans (h3 y hy hn) hc
  · have : y = x := by simpa using hy
    subst this; exact hxx
theorem BestL.keep {f : FunD} {b : Int} {xs : List Int} {r x : Int} (h : BestL f b xs r) (hall : ∀ y ∈ xs, DomP f y b) (hx : DomP f x b) (hr : r ≠ -1) (hc : ¬ DomP f r x) : BestL f b (xs ++ [x]) r := by
  rcases h with ⟨h1, _⟩ | ⟨h1, h2, h3⟩
  · exact absurd h1 hr
  · refine .inr ⟨List.mem_append_left _ h1, h2, fun y hy hn => ?_⟩
    rcases List.mem_append.1 hy with hy | hy
    · exact h3 y hy hn
    · have : y = x := by simpa using hy
      subst this
      rcases dom_chain hx (hall r h1) with g | g
      · exact g
      · exact absurd g hc
theorem BestL.idom {f : FunD} {b : Int} {xs : List Int} {r : Int} (h : BestL f b xs r) (hd : IsDoms f b xs) : IsIdom f b r := by
  rcases h with ⟨h1, h2⟩ | ⟨h1, h2, h3⟩
  · exact .inl ⟨h1, fun x hx => h2 x ((hd.2 x).2 hx)⟩
  · exact .inr ⟨(hd.2 r).1 h1, h2, fun x hx hn => h3 x ((hd.2 x).2 hx) hn⟩
theorem best_exists {f : FunD} {b : Int} : ∀ (ys xs : List Int) (r : Int), BestL f b xs r → (∀ y ∈ xs ++ ys, DomP f y b) → ∃ s, BestL f b (xs ++ ys) s
  | [], xs, r, h, _ => ⟨r, by rw [List.append_nil]; exact h⟩
  | y :: ys, xs, r, h, hall => by
    have hy := hall y (by simp)
    have hxs : ∀ z ∈ xs, DomP f z b := fun z hz => hall z (by simp [hz])
    have : ∃ s, BestL f b (xs ++ [y]) s := by
      by_cases hyb : y = b
      · subst hyb; exact ⟨r, h.own⟩
      · by_cases hc : r = -1 ∨ DomP f r y
        · exact ⟨y, h.take hy hyb hc⟩
        · exact ⟨r, h.keep hxs hy (fun e => hc (.inl e)) fun e => hc (.inr e)⟩
    obtain ⟨s, hs⟩ := this
    have := best_exists ys (xs ++ [y]) s hs (by simpa using hall)
    simpa using this

/-- The others above t, as bits. -/
theorem others_bit {f : FunD} {D : List Nat} (hp : FunP f) (hd : DomsD f D) {t : Nat} (ht : t < f.blocks.length) (i : Nat) : (clr (D.getD t 0) t).testBit i = true ↔ DomP f i t ∧ (i : Int) ≠ t := by
  have h40 := hp.1.1.2
  have hb := (show SetRes f t (D.getD t 0) from .inl ⟨t, D, rfl, ht, hp, hd, rfl⟩).bit i
  rw [clr_bit (all_lt (hd.1.lt t)) (by omega), Bool.and_eq_true, hb, decide_eq_true_iff]
  constructor
  · rintro ⟨h1, h2⟩; exact ⟨h1, by omega⟩
  · rintro ⟨h1, h2⟩; exact ⟨h1, by omega⟩
theorem idom_of_eq {f : FunD} {D : List Nat} (hp : FunP f) (hd : DomsD f D) {t a : Nat} (ht : t < f.blocks.length) (ha : DomP f a t) (hat : (a : Int) ≠ t) (he : D.getD a 0 = clr (D.getD t 0) t) : IsIdom f t a := by
  refine .inr ⟨ha, hat, fun x hx hxt => ?_⟩
  have hxr := dom_range hx
  have har := dom_range ha
  obtain ⟨i, rfl⟩ : ∃ i : Nat, x = i := ⟨x.toNat, by omega⟩
  have hb := (show SetRes f a (D.getD a 0) from .inl ⟨a, D, rfl, by omega, hp, hd, rfl⟩).bit i
  exact hb.1 (by rw [he]; exact (others_bit hp hd ht i).2 ⟨hx, hxt⟩)
theorem idom_none {f : FunD} {D : List Nat} (hp : FunP f) (hd : DomsD f D) {t : Nat} (ht : t < f.blocks.length) (hno : ∀ x ∈ bitsTo (clr (D.getD t 0) t) 40, D.getD x.toNat 0 ≠ clr (D.getD t 0) t) : IsIdom f t (-1) := by
  have h40 := hp.1.1.2
  have hds : IsDoms f t (bitsTo (D.getD t 0) 40) := (show SetRes f t (D.getD t 0) from .inl ⟨t, D, rfl, ht, hp, hd, rfl⟩).doms
  obtain ⟨s, hs⟩ := best_exists (f := f) (b := (t : Int)) (bitsTo (D.getD t 0) 40) [] (-1) (BestL.nil f t) (fun y hy => (hds.2 y).1 (by simpa using hy))
  rw [List.nil_append] at hs
  rcases hs with ⟨rfl, h2⟩ | ⟨h1, h2, h3⟩
  · exact .inl ⟨rfl, fun x hx => h2 x ((hds.2 x).2 hx)⟩
  · exfalso
    have hsd := (hds.2 s).1 h1
    have hsr := dom_range hsd
    obtain ⟨m, rfl⟩ : ∃ m : Nat, s = m := ⟨s.toNat, by omega⟩
    refine hno m ((bitsTo_mem _ _ _).2 ⟨m, rfl, by omega, (others_bit hp hd ht m).2 ⟨hsd, h2⟩⟩) ?_
    rw [Int.toNat_natCast]
    apply Nat.eq_of_testBit_eq
    intro i
    rw [Bool.eq_iff_iff, others_bit hp hd ht i, (show SetRes f m (D.getD m 0) from .inl ⟨m, D, rfl, by omega, hp, hd, rfl⟩).bit i]
    constructor
    · intro hi
      refine ⟨dom_trans hi hsd, ?_⟩
      intro e
      rw [e] at hi
      exact h2 (dom_anti hsd hi)
    · rintro ⟨hi, hn⟩
      exact h3 i ((hds.2 i).2 hi) hn

end Go.Proofs.YteikpekffgifoaaDoor
