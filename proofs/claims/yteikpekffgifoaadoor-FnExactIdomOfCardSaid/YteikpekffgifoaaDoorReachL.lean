/- What is reached, by a list of blocks that are still to be looked at: lists alone. -/
import Derived.Test.YteikpekffgifoaaDoorDfs
namespace Go.Proofs.YteikpekffgifoaaDoor

structure RSt (sc : Int → List Int) (wo : Int) (N : Nat) (bs : List Bool) (ts : List Int) (k : Option Int) : Prop where
  len : bs.length = N
  snd : ∀ i : Nat, bs[i]? = some true → Rch sc wo i
  mem : ∀ t ∈ ts, 0 ≤ t ∧ t < (N : Int) ∧ bs[t.toNat]? = some true
  clo : ∀ i : Nat, bs[i]? = some true → (i : Int) ∈ ts ∨ k = some (i : Int) ∨ ∀ t ∈ sc i, t ≠ wo → bs[t.toNat]? = some true
  zer : bs[0]? = some true

section
variable {sc : Int → List Int} {wo : Int} {N : Nat}

theorem not_true_replicate {N i : Nat} (h : (List.replicate N false)[i]? = some true) : False := by
  rw [List.getElem?_replicate] at h
  split at h <;> simp at h

theorem RSt.start (hN : 1 ≤ N) (h0 : (0 : Int) ≠ wo) : RSt sc wo N ((List.replicate N false).set 0 true) [0] none := by
  have hl : ((List.replicate N false).set 0 true).length = N := by simp
  have hz : ((List.replicate N false).set 0 true)[0]? = some true := set_get_self (by simp; omega) true
  have hi : ∀ i : Nat, ((List.replicate N false).set 0 true)[i]? = some true → i = 0 := fun i h => by
    rcases Nat.eq_zero_or_pos i with e | e
    · exact e
    · rw [set_get_other (by omega)] at h
      exact (not_true_replicate h).elim
  refine ⟨hl, fun i h => ?_, fun t ht => ?_, fun i h => ?_, hz⟩
  · rw [hi i h]; exact .zero h0
  · simp at ht
    subst ht
    exact ⟨by omega, by omega, hz⟩
  · rw [hi i h]; exact .inl (by simp)

theorem RSt.pop {bs : List Bool} {us : List Int} {t : Int} (h : RSt sc wo N bs (us ++ [t]) none) : RSt sc wo N bs us (some t) :=
  ⟨h.len, h.snd, fun u hu => h.mem u (by simp [hu]), fun i hi => by
    rcases h.clo i hi with h1 | h1 | h1
    · rcases List.mem_append.1 h1 with h2 | h2
      · exact .inl h2
      · simp at h2; exact .inr (.inl (by rw [h2]))
    · cases h1
    · exact .inr (.inr h1), h.zer⟩

theorem RSt.mark {bs : List Bool} {ts : List Int} {k u : Nat} (h : RSt sc wo N bs ts (some (k : Int))) (hk : bs[k]? = some true) (hu : (u : Int) ∈ sc k) (hw : (u : Int) ≠ wo) (huN : u < N) : RSt sc wo N (bs.set u true) (ts ++ [(u : Int)]) (some (k : Int)) := by
  have hu' : (bs.set u true)[u]? = some true := set_get_self (by rw [h.len]; exact huN) true
  have hm : ∀ i : Nat, bs[i]? = some true → (bs.set u true)[i]? = some true := fun i hi => by
    by_cases e : u = i
    · subst e; exact hu'
    · rw [set_get_other e]; exact hi
  refine ⟨by simp [h.len], fun i hi => ?_, fun t ht => ?_, fun i hi => ?_, hm 0 h.zer⟩
  · by_cases e : u = i
    · subst e; exact .step (h.snd k hk) hu hw
    · rw [set_get_other e] at hi; exact h.snd i hi
  · rcases List.mem_append.1 ht with h1 | h1
    · have := h.mem t h1
      exact ⟨this.1, this.2.1, hm _ this.2.2⟩
    · simp at h1
      subst h1
      exact ⟨by omega, by omega, by rw [Int.toNat_natCast]; exact hu'⟩
  · by_cases e : u = i
    · subst e; exact .inl (by simp)
    · rw [set_get_other e] at hi
      rcases h.clo i hi with h1 | h1 | h1
      · exact .inl (List.mem_append_left _ h1)
      · exact .inr (.inl h1)
      · exact .inr (.inr fun t ht hw => hm _ (h1 t ht hw))

theorem RSt.finish {bs : List Bool} {ts : List Int} {k : Nat} (h : RSt sc wo N bs ts (some (k : Int))) (hs : ∀ t ∈ sc k, t ≠ wo → bs[t.toNat]? = some true) : RSt sc wo N bs ts none :=
  ⟨h.len, h.snd, h.mem, fun i hi => by
    rcases h.clo i hi with h1 | h1 | h1
    · exact .inl h1
    · injection h1 with h1
      have : k = i := by omega
      subst this
      exact .inr (.inr hs)
    · exact .inr (.inr h1), h.zer⟩

theorem RSt.reach (hsc : ∀ b : Nat, b < N → ∀ t ∈ sc b, 0 ≤ t ∧ t < (N : Int)) (hN : 1 ≤ N) {bs : List Bool} (h : RSt sc wo N bs [] none) : IsReach sc wo N bs := by
  refine ⟨h.len, fun i hi => ⟨fun hb => h.snd i hb, fun hr => ?_⟩⟩
  have key : ∀ x : Int, Rch sc wo x → 0 ≤ x ∧ x < (N : Int) ∧ bs[x.toNat]? = some true := by
    intro x hx
    induction hx with
    | zero _ => exact ⟨by omega, by omega, h.zer⟩
    | @step a b _ hb hw ih =>
      obtain ⟨ha0, haN, hat⟩ := ih
      obtain ⟨k, rfl⟩ : ∃ k : Nat, a = k := ⟨a.toNat, by omega⟩
      have hbr := hsc k (by omega) b hb
      rw [Int.toNat_natCast] at hat
      rcases h.clo k hat with h1 | h1 | h1
      · cases h1
      · cases h1
      · exact ⟨hbr.1, hbr.2, h1 b hb hw⟩
  have := (key i hr).2.2
  rw [Int.toNat_natCast] at this
  exact this

theorem reach_none (h0 : (0 : Int) = wo) : IsReach sc wo N (List.replicate N false) := by
  refine ⟨by simp, fun i hi => ⟨fun h => (not_true_replicate h).elim, fun hr => ?_⟩⟩
  have key : ∀ x : Int, Rch sc wo x → False := by
    intro x hx
    induction hx with
    | zero h => exact h h0
    | step _ _ _ ih => exact ih
  exact (key _ hr).elim
end

end Go.Proofs.YteikpekffgifoaaDoor
