/- Dfs, Dfs2, DomP, Law, Ints, joined. -/
import Derived.WalkKit
import Derived.Test.YteikpekffgifoaaDoorRows
import Derived.WalkSpells
import Derived.WalkLawsBesides
import Derived.ProofKit
import Derived.Lib.SmallJoins
import Derived.Deep.QuietTactic
import Derived.BigQuiet
import Derived.Deep.AppendLies
import Derived.LoopTactic
import Derived.Lib.Hide
namespace Go.Proofs.YteikpekffgifoaaDoor

/- A walk through a graph in depth, and what is reached: lists alone. -/
section

/-- How many are false. -/
def cf (s : List Bool) : Nat := s.count false
theorem cf_le (s : List Bool) : cf s ≤ s.length := List.count_le_length
theorem cf_set : ∀ {s : List Bool} {k : Nat}, s[k]? = some false → cf (s.set k true) + 1 = cf s
  | [], k, h => by simp at h
  | a :: s, 0, h => by
    simp at h
    subst h
    simp [cf]
  | a :: s, k + 1, h => by
    have := cf_set (s := s) (k := k) (by simpa using h)
    unfold cf at this ⊢
    simp only [List.set_cons_succ, List.count_cons]
    omega
theorem cf_pos {s : List Bool} {k : Nat} (h : s[k]? = some false) : 1 ≤ cf s := by
  have := cf_set h
  omega
theorem set_get_self {s : List Bool} {k : Nat} (h : k < s.length) (b : Bool) : (s.set k b)[k]? = some b := by
  rw [List.getElem?_set_self (by simpa using h)]
theorem set_get_other {s : List Bool} {k j : Nat} (h : k ≠ j) (b : Bool) : (s.set k b)[j]? = s[j]? := by
  rw [List.getElem?_set_ne h]

/-- Has t been seen? -/
def seenAt (s : List Bool) (t : Int) : Bool := s.getD t.toNat true
theorem seenAt_of {s : List Bool} {t : Nat} {b : Bool} (h : s[t]? = some b) : seenAt s t = b := by
  unfold seenAt
  rw [Int.toNat_natCast, List.getD_eq_getElem?_getD, h]; rfl

/-- From b on, with fuel: who has been seen, and all that are finished, in order. -/
def dfs (sc : Int → List Int) : Nat → Int → List Bool × List Int → List Bool × List Int
  | 0, _, st => st
  | n + 1, b, st =>
    let r := (sc b).foldl (fun s t => if seenAt s.1 t = true then s else dfs sc n t s) (st.1.set b.toNat true, st.2)
    (r.1, r.2 ++ [b])
def dstep (sc : Int → List Int) (n : Nat) (s : List Bool × List Int) (t : Int) : List Bool × List Int := if seenAt s.1 t = true then s else dfs sc n t s
def dlist (sc : Int → List Int) (n : Nat) (ts : List Int) (s : List Bool × List Int) : List Bool × List Int := ts.foldl (dstep sc n) s
theorem dfs_succ (sc : Int → List Int) (n : Nat) (b : Int) (st : List Bool × List Int) : dfs sc (n + 1) b st = ((dlist sc n (sc b) (st.1.set b.toNat true, st.2)).1, (dlist sc n (sc b) (st.1.set b.toNat true, st.2)).2 ++ [b]) := rfl
theorem dlist_nil (sc : Int → List Int) (n : Nat) (s : List Bool × List Int) : dlist sc n [] s = s := rfl
theorem dlist_cons (sc : Int → List Int) (n : Nat) (t : Int) (ts : List Int) (s : List Bool × List Int) : dlist sc n (t :: ts) s = dlist sc n ts (dstep sc n s t) := rfl
theorem dlist_take (sc : Int → List Int) (n : Nat) {ts : List Int} {k : Nat} {t : Int} (h : ts[k]? = some t) (s : List Bool × List Int) : dlist sc n (ts.take (k + 1)) s = dstep sc n (dlist sc n (ts.take k) s) t := by
  unfold dlist
  rw [List.take_add_one, h, Option.toList_some, List.foldl_append]; rfl

/-- What stays right through the walk. -/
structure Inv (N K : Nat) (st : List Bool × List Int) : Prop where
  len : st.1.length = N
  cap : st.2.length + cf st.1 ≤ K
  mem : ∀ x ∈ st.2, 0 ≤ x ∧ x < (N : Int)

section
variable {sc : Int → List Int} {N : Nat} (hsc : ∀ b : Nat, b < N → ∀ t ∈ sc b, 0 ≤ t ∧ t < (N : Int))
include hsc

theorem dfs_inv {K : Nat} : ∀ (n : Nat) (b : Nat) (st : List Bool × List Int), Inv N K st → st.1[b]? = some false → Inv N K (dfs sc n b st) ∧ cf (dfs sc n b st).1 ≤ cf st.1
  | 0, _, st, h, _ => ⟨h, Nat.le_refl _⟩
  | n + 1, b, st, h, hb => by
    have hbN : b < N := by rw [← h.len]; exact (List.getElem?_eq_some_iff.1 hb).1
    have hl : ∀ (ts : List Int) (s : List Bool × List Int), (∀ t ∈ ts, 0 ≤ t ∧ t < (N : Int)) → ∀ K, Inv N K s → Inv N K (dlist sc n ts s) ∧ cf (dlist sc n ts s).1 ≤ cf s.1 := by
      intro ts
      induction ts with
      | nil => intro s _ K h; exact ⟨h, Nat.le_refl _⟩
      | cons t ts ih =>
        intro s ht K h
        rw [dlist_cons]
        have ht0 := ht t (by simp)
        obtain ⟨k, rfl⟩ : ∃ k : Nat, t = k := ⟨t.toNat, by omega⟩
        have hk : k < s.1.length := by rw [h.len]; omega
        have hs : s.1[k]? = some s.1[k] := List.getElem?_eq_getElem hk
        have hst : Inv N K (dstep sc n s k) ∧ cf (dstep sc n s k).1 ≤ cf s.1 := by
          unfold dstep
          rw [seenAt_of hs]
          by_cases hv : s.1[k] = true
          · rw [if_pos hv]; exact ⟨h, Nat.le_refl _⟩
          · rw [if_neg hv]
            have hv' : s.1[k] = false := by simpa using hv
            rw [hv'] at hs
            exact dfs_inv (K := K) n k s h hs
        obtain ⟨h1, h2⟩ := ih _ (fun u hu => ht u (by simp [hu])) K hst.1
        exact ⟨h1, Nat.le_trans h2 hst.2⟩
    have hcf := cf_set hb
    have hcap := h.cap
    have hK1 : 1 ≤ K := by omega
    have h0 : Inv N (K - 1) (st.1.set b true, st.2) := ⟨by simp [h.len], by show st.2.length + cf (st.1.set b true) ≤ K - 1; omega, h.mem⟩
    obtain ⟨h1, h2⟩ := hl (sc b) (st.1.set b true, st.2) (hsc b hbN) (K - 1) h0
    rw [dfs_succ, Int.toNat_natCast]
    refine ⟨⟨h1.len, ?_, ?_⟩, ?_⟩
    · have := h1.cap
      simp only [List.length_append, List.length_singleton]
      omega
    · intro x hx
      rcases List.mem_append.1 hx with hx | hx
      · exact h1.mem x hx
      · simp at hx; omega
    · have h2' : cf (dlist sc n (sc b) (st.1.set b true, st.2)).1 ≤ cf (st.1.set b true) := h2
      show cf (dlist sc n (sc b) (st.1.set b true, st.2)).1 ≤ _
      omega

/-- What has been seen stays seen. -/
theorem dfs_mono {K : Nat} : ∀ (n : Nat) (b : Nat) (st : List Bool × List Int), Inv N K st → st.1[b]? = some false → ∀ i : Nat, st.1[i]? = some true → (dfs sc n b st).1[i]? = some true
  | 0, _, _, _, _, i, hi => hi
  | n + 1, b, st, h, hb, i, hi => by
    have hbN : b < N := by rw [← h.len]; exact (List.getElem?_eq_some_iff.1 hb).1
    have hl : ∀ (ts : List Int) (s : List Bool × List Int), (∀ t ∈ ts, 0 ≤ t ∧ t < (N : Int)) → ∀ K, Inv N K s → ∀ i : Nat, s.1[i]? = some true → (dlist sc n ts s).1[i]? = some true := by
      intro ts
      induction ts with
      | nil => intro s _ K h i hi; exact hi
      | cons t ts ih =>
        intro s ht K h i hi
        rw [dlist_cons]
        have ht0 := ht t (by simp)
        obtain ⟨k, rfl⟩ : ∃ k : Nat, t = k := ⟨t.toNat, by omega⟩
        have hk : k < s.1.length := by rw [h.len]; omega
        have hs : s.1[k]? = some s.1[k] := List.getElem?_eq_getElem hk
        have hst : Inv N K (dstep sc n s k) ∧ (dstep sc n s k).1[i]? = some true := by
          unfold dstep
          rw [seenAt_of hs]
          by_cases hv : s.1[k] = true
          · rw [if_pos hv]; exact ⟨h, hi⟩
          · rw [if_neg hv]
            have hv' : s.1[k] = false := by simpa using hv
            rw [hv'] at hs
            exact ⟨(dfs_inv hsc n k s h hs).1, dfs_mono (K := K) n k s h hs i hi⟩
        exact ih _ (fun u hu => ht u (by simp [hu])) K hst.1 i hst.2
    have hcf := cf_set hb
    have hcap := h.cap
    have h0 : Inv N K (st.1.set b true, st.2) := ⟨by simp [h.len], by show st.2.length + cf (st.1.set b true) ≤ K; omega, h.mem⟩
    rw [dfs_succ, Int.toNat_natCast]
    refine hl (sc b) (st.1.set b true, st.2) (hsc b hbN) K h0 i ?_
    have hne : b ≠ i := by rintro rfl; rw [hb] at hi; cases hi
    show (st.1.set b true)[i]? = some true
    rw [set_get_other hne]; exact hi

/-- What comes of a list of succs: all that were so far, and they. -/
theorem dlist_inv {K : Nat} (n : Nat) : ∀ (ts : List Int) (s : List Bool × List Int), (∀ t ∈ ts, 0 ≤ t ∧ t < (N : Int)) → Inv N K s → Inv N K (dlist sc n ts s) ∧ cf (dlist sc n ts s).1 ≤ cf s.1 ∧ ∀ i : Nat, s.1[i]? = some true → (dlist sc n ts s).1[i]? = some true
  | [], s, _, h => ⟨h, Nat.le_refl _, fun _ hi => hi⟩
  | t :: ts, s, ht, h => by
    rw [dlist_cons]
    have ht0 := ht t (by simp)
    obtain ⟨k, rfl⟩ : ∃ k : Nat, t = k := ⟨t.toNat, by omega⟩
    have hk : k < s.1.length := by rw [h.len]; omega
    have hs : s.1[k]? = some s.1[k] := List.getElem?_eq_getElem hk
    have hst : Inv N K (dstep sc n s k) ∧ cf (dstep sc n s k).1 ≤ cf s.1 ∧ ∀ i : Nat, s.1[i]? = some true → (dstep sc n s k).1[i]? = some true := by
      unfold dstep
      rw [seenAt_of hs]
      by_cases hv : s.1[k] = true
      · rw [if_pos hv]; exact ⟨h, Nat.le_refl _, fun _ hi => hi⟩
      · rw [if_neg hv]
        have hv' : s.1[k] = false := by simpa using hv
        rw [hv'] at hs
        have := dfs_inv hsc n k s h hs
        exact ⟨this.1, this.2, dfs_mono hsc n k s h hs⟩
    obtain ⟨h1, h2, h3⟩ := dlist_inv n ts _ (fun u hu => ht u (by simp [hu])) hst.1
    exact ⟨h1, Nat.le_trans h2 hst.2.1, fun i hi => h3 i (hst.2.2 i hi)⟩

theorem dfs_seen {K : Nat} {n b : Nat} {st : List Bool × List Int} (h : Inv N K st) (hb : st.1[b]? = some false) : (dfs sc (n + 1) b st).1[b]? = some true := by
  have hbN : b < N := by rw [← h.len]; exact (List.getElem?_eq_some_iff.1 hb).1
  have hcf := cf_set hb
  have hcap := h.cap
  have h0 : Inv N K (st.1.set b true, st.2) := ⟨by simp [h.len], by show st.2.length + cf (st.1.set b true) ≤ K; omega, h.mem⟩
  rw [dfs_succ, Int.toNat_natCast]
  exact (dlist_inv hsc n _ _ (hsc b hbN) h0).2.2 b (set_get_self (by rw [h.len]; exact hbN) true)
end

/-- Come to from the block 0 on, without one. -/
inductive Rch (sc : Int → List Int) (wo : Int) : Int → Prop
  | zero (h : (0 : Int) ≠ wo) : Rch sc wo 0
  | step {a b : Int} (h : Rch sc wo a) (hb : b ∈ sc a) (hw : b ≠ wo) : Rch sc wo b

section
variable {sc : Int → List Int} {N : Nat} (hsc : ∀ b : Nat, b < N → ∀ t ∈ sc b, 0 ≤ t ∧ t < (N : Int))
include hsc

theorem dlist_sound {K : Nat} (n : Nat) (ih : ∀ (b : Nat) (s : List Bool × List Int), Inv N K s → s.1[b]? = some false → Rch sc (-1) b → (∀ i : Nat, s.1[i]? = some true → Rch sc (-1) i) → ∀ i : Nat, (dfs sc n b s).1[i]? = some true → Rch sc (-1) i) :
    ∀ (ts : List Int) (s : List Bool × List Int), (∀ t ∈ ts, 0 ≤ t ∧ t < (N : Int)) → (∀ t ∈ ts, Rch sc (-1) t) → Inv N K s → (∀ i : Nat, s.1[i]? = some true → Rch sc (-1) i) → ∀ i : Nat, (dlist sc n ts s).1[i]? = some true → Rch sc (-1) i
  | [], s, _, _, _, h, i, hi => h i hi
  | t :: ts, s, ht, hr, h, hs, i, hi => by
    rw [dlist_cons] at hi
    have ht0 := ht t (by simp)
    have hrt := hr t (by simp)
    obtain ⟨k, rfl⟩ : ∃ k : Nat, t = k := ⟨t.toNat, by omega⟩
    have hk : k < s.1.length := by rw [h.len]; omega
    have hsk : s.1[k]? = some s.1[k] := List.getElem?_eq_getElem hk
    have hst : Inv N K (dstep sc n s k) ∧ ∀ i : Nat, (dstep sc n s k).1[i]? = some true → Rch sc (-1) i := by
      unfold dstep
      rw [seenAt_of hsk]
      by_cases hv : s.1[k] = true
      · rw [if_pos hv]; exact ⟨h, hs⟩
      · rw [if_neg hv]
        have hv' : s.1[k] = false := by simpa using hv
        rw [hv'] at hsk
        exact ⟨(dfs_inv hsc n k s h hsk).1, ih k s h hsk hrt hs⟩
    exact dlist_sound n ih ts _ (fun u hu => ht u (by simp [hu])) (fun u hu => hr u (by simp [hu])) hst.1 hst.2 i hi

theorem dfs_sound {K : Nat} : ∀ (n : Nat) (b : Nat) (s : List Bool × List Int), Inv N K s → s.1[b]? = some false → Rch sc (-1) b → (∀ i : Nat, s.1[i]? = some true → Rch sc (-1) i) → ∀ i : Nat, (dfs sc n b s).1[i]? = some true → Rch sc (-1) i
  | 0, _, _, _, _, _, hs, i, hi => hs i hi
  | n + 1, b, s, h, hb, hr, hs, i, hi => by
    have hbN : b < N := by rw [← h.len]; exact (List.getElem?_eq_some_iff.1 hb).1
    have hcf := cf_set hb
    have hcap := h.cap
    have h0 : Inv N K (s.1.set b true, s.2) := ⟨by simp [h.len], by show s.2.length + cf (s.1.set b true) ≤ K; omega, h.mem⟩
    rw [dfs_succ, Int.toNat_natCast] at hi
    refine dlist_sound hsc n (fun b' s' => dfs_sound n b' s') (sc b) _ (hsc b hbN) (fun t ht => .step hr ht (by have := hsc b hbN t ht; omega)) h0 (fun j hj => ?_) i hi
    by_cases hjb : b = j
    · subst hjb; exact hr
    · have hj' : (s.1.set b true)[j]? = some true := hj
      rw [set_get_other hjb] at hj'
      exact hs j hj'

/-- Each one that has been seen newly has all its succs seen. -/
def Clo (sc : Int → List Int) (s s' : List Bool) : Prop := ∀ i : Nat, s'[i]? = some true → s[i]? = some true ∨ ∀ t ∈ sc i, s'[t.toNat]? = some true

theorem dlist_clo {K : Nat} (n : Nat) (ih : ∀ (b : Nat) (s : List Bool × List Int), Inv N K s → s.1[b]? = some false → cf s.1 ≤ n → Clo sc s.1 (dfs sc n b s).1 ∧ (dfs sc n b s).1[b]? = some true) :
    ∀ (ts : List Int) (s : List Bool × List Int), (∀ t ∈ ts, 0 ≤ t ∧ t < (N : Int)) → Inv N K s → cf s.1 ≤ n → Clo sc s.1 (dlist sc n ts s).1 ∧ ∀ t ∈ ts, (dlist sc n ts s).1[t.toNat]? = some true
  | [], s, _, _, _ => ⟨fun i hi => .inl hi, fun t ht => by cases ht⟩
  | t :: ts, s, ht, h, hn => by
    rw [dlist_cons]
    have ht0 := ht t (by simp)
    obtain ⟨k, rfl⟩ : ∃ k : Nat, t = k := ⟨t.toNat, by omega⟩
    have hk : k < s.1.length := by rw [h.len]; omega
    have hsk : s.1[k]? = some s.1[k] := List.getElem?_eq_getElem hk
    have hst : Inv N K (dstep sc n s k) ∧ cf (dstep sc n s k).1 ≤ cf s.1 ∧ Clo sc s.1 (dstep sc n s k).1 ∧ (dstep sc n s k).1[k]? = some true := by
      unfold dstep
      rw [seenAt_of hsk]
      by_cases hv : s.1[k] = true
      · rw [if_pos hv]; rw [hv] at hsk; exact ⟨h, Nat.le_refl _, fun i hi => .inl hi, hsk⟩
      · rw [if_neg hv]
        have hv' : s.1[k] = false := by simpa using hv
        rw [hv'] at hsk
        have h1 := dfs_inv hsc n k s h hsk
        have h2 := ih k s h hsk hn
        exact ⟨h1.1, h1.2, h2.1, h2.2⟩
    obtain ⟨g1, g2, g3, g4⟩ := hst
    have htl := fun u (hu : u ∈ ts) => ht u (by simp [hu])
    obtain ⟨e1, e2⟩ := dlist_clo n ih ts _ htl g1 (Nat.le_trans g2 hn)
    have hm := (dlist_inv hsc n ts _ htl g1).2.2
    refine ⟨fun i hi => ?_, fun u hu => ?_⟩
    · rcases e1 i hi with h' | h'
      · rcases g3 i h' with h'' | h''
        · exact .inl h''
        · exact .inr fun t ht => hm _ (h'' t ht)
      · exact .inr h'
    · rcases List.mem_cons.1 hu with rfl | hu
      · exact hm _ (by simpa using g4)
      · exact e2 u hu

theorem dfs_clo {K : Nat} : ∀ (n : Nat) (b : Nat) (s : List Bool × List Int), Inv N K s → s.1[b]? = some false → cf s.1 ≤ n → Clo sc s.1 (dfs sc n b s).1 ∧ (dfs sc n b s).1[b]? = some true
  | 0, _, _, _, hb, hn => by have := cf_pos hb; omega
  | n + 1, b, s, h, hb, hn => by
    have hbN : b < N := by rw [← h.len]; exact (List.getElem?_eq_some_iff.1 hb).1
    have hcf := cf_set hb
    have hcap := h.cap
    have h0 : Inv N K (s.1.set b true, s.2) := ⟨by simp [h.len], by show s.2.length + cf (s.1.set b true) ≤ K; omega, h.mem⟩
    obtain ⟨e1, e2⟩ := dlist_clo hsc n (fun b' s' => dfs_clo n b' s') (sc b) (s.1.set b true, s.2) (hsc b hbN) h0 (by show cf (s.1.set b true) ≤ n; omega)
    refine ⟨fun i hi => ?_, dfs_seen hsc h hb⟩
    rw [dfs_succ, Int.toNat_natCast] at hi ⊢
    rcases e1 i hi with h' | h'
    · by_cases hbi : b = i
      · subst hbi; exact .inr e2
      · have h'' : (s.1.set b true)[i]? = some true := h'
        rw [set_get_other hbi] at h''
        exact .inl h''
    · exact .inr h'
end

/-- The list tells of each block whether it is come to from the block 0 on, without one. -/
def IsReach (sc : Int → List Int) (wo : Int) (n : Nat) (bs : List Bool) : Prop := bs.length = n ∧ ∀ i : Nat, i < n → (bs[i]? = some true ↔ Rch sc wo i)
theorem IsReach.one {sc : Int → List Int} {wo : Int} {n : Nat} {bs cs : List Bool} (h : IsReach sc wo n bs) (k : IsReach sc wo n cs) : bs = cs := by
  refine List.ext_getElem? fun i => ?_
  by_cases hi : i < n
  · have hl1 : i < bs.length := by rw [h.1]; exact hi
    have hl2 : i < cs.length := by rw [k.1]; exact hi
    have h1 : bs[i]? = some bs[i] := List.getElem?_eq_getElem hl1
    have h2 : cs[i]? = some cs[i] := List.getElem?_eq_getElem hl2
    have e : bs[i]? = some true ↔ cs[i]? = some true := (h.2 i hi).trans (k.2 i hi).symm
    rw [h1, h2] at e ⊢
    cases hb : bs[i] <;> cases hc : cs[i] <;> simp_all
  · rw [List.getElem?_eq_none (by rw [h.1]; omega), List.getElem?_eq_none (by rw [k.1]; omega)]

/-- The walk in depth at a function's blocks. -/
def dfs0 (sc : Int → List Int) (N : Nat) : List Bool × List Int := dfs sc N (0 : Nat) (List.replicate N false, [])
theorem cf_replicate (N : Nat) : cf (List.replicate N false) = N := by simp [cf]
theorem inv0 (N : Nat) : Inv N N (List.replicate N false, []) := ⟨by simp, by show 0 + cf (List.replicate N false) ≤ N; rw [cf_replicate]; omega, fun x hx => by cases hx⟩
theorem get_replicate {N k : Nat} (h : k < N) : (List.replicate N false)[k]? = some false := by rw [List.getElem?_replicate, if_pos h]

theorem dfs0_reach {sc : Int → List Int} {N : Nat} (hsc : ∀ b : Nat, b < N → ∀ t ∈ sc b, 0 ≤ t ∧ t < (N : Int)) (hN : 1 ≤ N) : IsReach sc (-1) N (dfs0 sc N).1 := by
  have h0 := get_replicate (N := N) (k := 0) (by omega)
  refine ⟨(dfs_inv hsc N 0 _ (inv0 N) h0).1.len, fun i hi => ⟨fun h => ?_, fun h => ?_⟩⟩
  · refine dfs_sound hsc N 0 _ (inv0 N) h0 (.zero (by omega)) (fun j hj => ?_) i h
    have hj' : (List.replicate N false)[j]? = some true := hj
    rw [List.getElem?_replicate] at hj'
    split at hj' <;> simp at hj'
  · obtain ⟨e1, e2⟩ := dfs_clo hsc N 0 _ (inv0 N) h0 (by show cf (List.replicate N false) ≤ N; rw [cf_replicate]; omega)
    have key : ∀ x : Int, Rch sc (-1) x → 0 ≤ x ∧ x < (N : Int) ∧ (dfs0 sc N).1[x.toNat]? = some true := by
      intro x hx
      induction hx with
      | zero _ => exact ⟨by omega, by omega, e2⟩
      | @step a b _ hb _ ih =>
        obtain ⟨ha0, haN, hat⟩ := ih
        obtain ⟨k, rfl⟩ : ∃ k : Nat, a = k := ⟨a.toNat, by omega⟩
        have hbr := hsc k (by omega) b hb
        refine ⟨hbr.1, hbr.2, ?_⟩
        rw [Int.toNat_natCast] at hat
        rcases e1 k hat with h' | h'
        · have h'' : (List.replicate N false)[k]? = some true := h'
          rw [List.getElem?_replicate] at h''
          split at h'' <;> simp at h''
        · exact h' b hb
    have := (key i h).2.2
    simpa using this

theorem dfs0_len {sc : Int → List Int} {N : Nat} (hsc : ∀ b : Nat, b < N → ∀ t ∈ sc b, 0 ≤ t ∧ t < (N : Int)) (hN : 1 ≤ N) : (dfs0 sc N).2.length ≤ N := by
  have := (dfs_inv hsc N 0 _ (inv0 N) (get_replicate (N := N) (k := 0) (by omega))).1.cap
  unfold dfs0
  omega
end

/- The order of a walk in depth: each one that is reached is once in it, behind (read backwards) one of its preds; lists alone. -/
section

/-- From s to s' the ones in ns have been finished newly. -/
structure New (sc : Int → List Int) (s s' : List Bool × List Int) (ns : List Int) (R : Int → Prop) : Prop where
  len : s'.1.length = s.1.length
  mono : ∀ i : Nat, s.1[i]? = some true → s'.1[i]? = some true
  out : s'.2 = s.2 ++ ns
  nd : ns.Pairwise (· ≠ ·)
  mem : ∀ x, x ∈ ns ↔ ∃ i : Nat, x = (i : Int) ∧ s.1[i]? = some false ∧ s'.1[i]? = some true
  prd : ∀ (k : Nat) (x : Int), ns[k]? = some x → R x ∨ ∃ (j : Nat) (y : Int), k < j ∧ ns[j]? = some y ∧ x ∈ sc y

theorem New.refl (sc : Int → List Int) (s : List Bool × List Int) (R : Int → Prop) : New sc s s [] R :=
  ⟨rfl, fun _ h => h, by simp, List.Pairwise.nil, fun x => ⟨fun h => (by cases h), fun ⟨i, _, h1, h2⟩ => by rw [h1] at h2; cases h2⟩, fun k x h => (by simp at h)⟩
theorem New.trans {sc : Int → List Int} {s s1 s2 : List Bool × List Int} {n1 n2 : List Int} {R R1 R2 : Int → Prop} (h : New sc s s1 n1 R1) (k : New sc s1 s2 n2 R2) (h1 : ∀ x, R1 x → R x) (h2 : ∀ x, R2 x → R x) : New sc s s2 (n1 ++ n2) R := by
  refine ⟨k.len.trans h.len, fun i hi => k.mono i (h.mono i hi), by rw [k.out, h.out, List.append_assoc], List.pairwise_append.2 ⟨h.nd, k.nd, fun a ha b hb => ?_⟩, fun x => ?_, fun j x hx => ?_⟩
  · rintro rfl
    obtain ⟨i, rfl, _, hi⟩ := (h.mem _).1 ha
    obtain ⟨i', e, hi', _⟩ := (k.mem _).1 hb
    have : i = i' := by omega
    subst this
    rw [hi] at hi'; cases hi'
  · rw [List.mem_append]
    constructor
    · rintro (hx | hx)
      · obtain ⟨i, rfl, g1, g2⟩ := (h.mem _).1 hx
        exact ⟨i, rfl, g1, k.mono i g2⟩
      · obtain ⟨i, rfl, g1, g2⟩ := (k.mem _).1 hx
        refine ⟨i, rfl, ?_, g2⟩
        have hl : i < s.1.length := by rw [← h.len]; exact (List.getElem?_eq_some_iff.1 g1).1
        have hs : s.1[i]? = some s.1[i] := List.getElem?_eq_getElem hl
        cases hv : s.1[i]
        · rw [hs, hv]
        · rw [hv] at hs
          have := h.mono i hs
          rw [g1] at this; cases this
    · rintro ⟨i, rfl, g1, g2⟩
      have hl : i < s1.1.length := by rw [h.len]; exact (List.getElem?_eq_some_iff.1 g1).1
      have hs : s1.1[i]? = some s1.1[i] := List.getElem?_eq_getElem hl
      cases hv : s1.1[i]
      · rw [hv] at hs; exact .inr ((k.mem _).2 ⟨i, rfl, hs, g2⟩)
      · rw [hv] at hs; exact .inl ((h.mem _).2 ⟨i, rfl, g1, hs⟩)
  · by_cases hj : j < n1.length
    · rw [List.getElem?_append_left hj] at hx
      rcases h.prd j x hx with g | ⟨m, y, g1, g2, g3⟩
      · exact .inl (h1 x g)
      · exact .inr ⟨m, y, g1, by rw [List.getElem?_append_left (List.getElem?_eq_some_iff.1 g2).1]; exact g2, g3⟩
    · rw [List.getElem?_append_right (by omega)] at hx
      rcases k.prd _ x hx with g | ⟨m, y, g1, g2, g3⟩
      · exact .inl (h2 x g)
      · exact .inr ⟨n1.length + m, y, by omega, by rw [List.getElem?_append_right (by omega), show n1.length + m - n1.length = m by omega]; exact g2, g3⟩

section
variable {sc : Int → List Int} {N : Nat} (hsc : ∀ b : Nat, b < N → ∀ t ∈ sc b, 0 ≤ t ∧ t < (N : Int))
include hsc

theorem dlist_new {K : Nat} (n : Nat) (ih : ∀ (b : Nat) (s : List Bool × List Int), Inv N K s → s.1[b]? = some false → ∃ ns, New sc s (dfs sc n b s) ns (· = (b : Int))) :
    ∀ (ts : List Int) (s : List Bool × List Int), (∀ t ∈ ts, 0 ≤ t ∧ t < (N : Int)) → Inv N K s → ∃ ns, New sc s (dlist sc n ts s) ns (· ∈ ts)
  | [], s, _, _ => ⟨[], New.refl _ _ _⟩
  | t :: ts, s, ht, h => by
    rw [dlist_cons]
    have ht0 := ht t (by simp)
    obtain ⟨k, rfl⟩ : ∃ k : Nat, t = k := ⟨t.toNat, by omega⟩
    have hk : k < s.1.length := by rw [h.len]; omega
    have hsk : s.1[k]? = some s.1[k] := List.getElem?_eq_getElem hk
    have hst : Inv N K (dstep sc n s k) ∧ ∃ ns, New sc s (dstep sc n s k) ns (· = (k : Int)) := by
      unfold dstep
      rw [seenAt_of hsk]
      by_cases hv : s.1[k] = true
      · rw [if_pos hv]; exact ⟨h, [], New.refl _ _ _⟩
      · rw [if_neg hv]
        have hv' : s.1[k] = false := by simpa using hv
        rw [hv'] at hsk
        exact ⟨(dfs_inv hsc n k s h hsk).1, ih k s h hsk⟩
    obtain ⟨g1, n1, g2⟩ := hst
    obtain ⟨n2, g3⟩ := dlist_new n ih ts _ (fun u hu => ht u (by simp [hu])) g1
    exact ⟨n1 ++ n2, g2.trans g3 (fun x hx => by rw [hx]; simp) fun x hx => by simp [hx]⟩

theorem dfs_new {K : Nat} : ∀ (n : Nat) (b : Nat) (s : List Bool × List Int), Inv N K s → s.1[b]? = some false → ∃ ns, New sc s (dfs sc n b s) ns (· = (b : Int)) ∧ (n ≠ 0 → ∃ ms, ns = ms ++ [(b : Int)])
  | 0, _, s, _, _ => ⟨[], New.refl _ _ _, fun h => absurd rfl h⟩
  | n + 1, b, s, h, hb => by
    have hbN : b < N := by rw [← h.len]; exact (List.getElem?_eq_some_iff.1 hb).1
    have hcf := cf_set hb
    have hcap := h.cap
    have h0 : Inv N K (s.1.set b true, s.2) := ⟨by simp [h.len], by show s.2.length + cf (s.1.set b true) ≤ K; omega, h.mem⟩
    obtain ⟨ns, g⟩ := dlist_new hsc n (fun b' s' h1 h2 => let ⟨ns, g, _⟩ := dfs_new n b' s' h1 h2; ⟨ns, g⟩) (sc b) (s.1.set b true, s.2) (hsc b hbN) h0
    have hbs : (s.1.set b true)[b]? = some true := set_get_self (by rw [h.len]; exact hbN) true
    have hbt : (dlist sc n (sc b) (s.1.set b true, s.2)).1[b]? = some true := g.mono b hbs
    have hnb : (b : Int) ∉ ns := fun hm => by
      obtain ⟨i, e, g1, _⟩ := (g.mem _).1 hm
      have : b = i := by omega
      subst this
      have g1' : (s.1.set b true)[b]? = some false := g1
      rw [hbs] at g1'; cases g1'
    refine ⟨ns ++ [(b : Int)], ⟨?_, fun i hi => ?_, ?_, ?_, fun x => ?_, fun k x hx => ?_⟩, fun _ => ⟨ns, rfl⟩⟩
    · rw [dfs_succ, Int.toNat_natCast]
      have := g.len
      simpa using this
    · rw [dfs_succ, Int.toNat_natCast]
      refine g.mono i ?_
      show (s.1.set b true)[i]? = some true
      rw [set_get_other (by rintro rfl; rw [hb] at hi; cases hi)]; exact hi
    · rw [dfs_succ, Int.toNat_natCast]
      have := g.out
      show (dlist sc n (sc b) (s.1.set b true, s.2)).2 ++ [(b : Int)] = _
      rw [this, List.append_assoc]
    · refine List.pairwise_append.2 ⟨g.nd, List.pairwise_singleton _ _, fun a ha c hc => ?_⟩
      simp at hc
      subst hc
      rintro rfl
      exact hnb ha
    · rw [dfs_succ, Int.toNat_natCast, List.mem_append]
      constructor
      · rintro (hx | hx)
        · obtain ⟨i, rfl, g1, g2⟩ := (g.mem _).1 hx
          have g1' : (s.1.set b true)[i]? = some false := g1
          have hne : b ≠ i := by rintro rfl; rw [hbs] at g1'; cases g1'
          rw [set_get_other hne] at g1'
          exact ⟨i, rfl, g1', g2⟩
        · simp at hx
          subst hx
          exact ⟨b, rfl, hb, hbt⟩
      · rintro ⟨i, rfl, g1, g2⟩
        by_cases hne : b = i
        · subst hne; exact .inr (by simp)
        · refine .inl ((g.mem _).2 ⟨i, rfl, ?_, g2⟩)
          show (s.1.set b true)[i]? = some false
          rw [set_get_other hne]; exact g1
    · by_cases hk : k < ns.length
      · rw [List.getElem?_append_left hk] at hx
        rcases g.prd k x hx with g1 | ⟨j, y, g1, g2, g3⟩
        · exact .inr ⟨ns.length, b, hk, by simp, g1⟩
        · exact .inr ⟨j, y, g1, by rw [List.getElem?_append_left (List.getElem?_eq_some_iff.1 g2).1]; exact g2, g3⟩
      · rw [List.getElem?_append_right (by omega)] at hx
        have hk0 : k - ns.length = 0 := by
          have := (List.getElem?_eq_some_iff.1 hx).1
          simp at this; omega
        rw [hk0] at hx
        simp at hx
        exact .inl hx.symm

/-- The order of a function's blocks: the first one is 0; all that are reached, once each; behind one of its preds. -/
structure IsOrder (sc : Int → List Int) (N : Nat) (l : List Int) : Prop where
  head : ∃ T, l = 0 :: T
  nd : l.Pairwise (· ≠ ·)
  mem : ∀ x : Int, x ∈ l ↔ 0 ≤ x ∧ x < N ∧ Rch sc (-1) x
  prd : ∀ (k : Nat) (x : Int), l[k + 1]? = some x → ∃ (j : Nat) (y : Int), j < k + 1 ∧ l[j]? = some y ∧ x ∈ sc y

theorem dfs0_order (hN : 1 ≤ N) : IsOrder sc N (dfs0 sc N).2.reverse := by
  have h0 := get_replicate (N := N) (k := 0) (by omega)
  obtain ⟨ns, g, hms⟩ := dfs_new hsc N 0 _ (inv0 N) h0
  obtain ⟨ms, rfl⟩ := hms (by omega)
  have hr := dfs0_reach hsc hN
  have hout : (dfs0 sc N).2 = ms ++ [(0 : Int)] := by
    have := g.out
    show (dfs sc N (0 : Nat) (List.replicate N false, [])).2 = _
    rw [this]; rfl
  have hm : ∀ x : Int, x ∈ ms ++ [(0 : Int)] ↔ 0 ≤ x ∧ x < N ∧ Rch sc (-1) x := fun x => by
    rw [show ((0 : Int)) = (((0 : Nat)) : Int) from rfl, g.mem x]
    constructor
    · rintro ⟨i, rfl, g1, g2⟩
      have hi : i < N := by
        have := (List.getElem?_eq_some_iff.1 g1).1
        simpa using this
      exact ⟨by omega, by omega, (hr.2 i hi).1 g2⟩
    · rintro ⟨hx0, hxN, hx⟩
      obtain ⟨i, rfl⟩ : ∃ i : Nat, x = i := ⟨x.toNat, by omega⟩
      exact ⟨i, rfl, get_replicate (by omega), (hr.2 i (by omega)).2 hx⟩
  rw [hout]
  refine ⟨⟨ms.reverse, by simp⟩, ?_, fun x => by rw [List.mem_reverse]; exact hm x, fun k x hx => ?_⟩
  · rw [List.pairwise_reverse]
    exact g.nd.imp fun h => Ne.symm h
  · have hk : k + 1 < (ms ++ [(0 : Int)]).reverse.length := (List.getElem?_eq_some_iff.1 hx).1
    rw [List.length_reverse] at hk
    have hlen : (ms ++ [(0 : Int)]).length = ms.length + 1 := by simp
    rw [List.getElem?_reverse hk] at hx
    rcases g.prd _ x hx with e | ⟨j, y, g1, g2, g3⟩
    · exfalso
      subst e
      have hz : (ms ++ [(((0 : Nat)) : Int)])[ms.length]? = some (((0 : Nat)) : Int) := by simp
      obtain ⟨i1, e1⟩ := List.getElem?_eq_some_iff.1 hx
      obtain ⟨i2, e2⟩ := List.getElem?_eq_some_iff.1 hz
      have := List.pairwise_iff_getElem.1 g.nd _ _ i1 i2 (by omega)
      exact this (e1.trans e2.symm)
    · have hj := (List.getElem?_eq_some_iff.1 g2).1
      have hj' : j < (ms ++ [(0 : Int)]).length := hj
      refine ⟨(ms ++ [(0 : Int)]).length - 1 - j, y, by omega, ?_, g3⟩
      rw [List.getElem?_reverse (by omega), show (ms ++ [(0 : Int)]).length - 1 - ((ms ++ [(0 : Int)]).length - 1 - j) = j by omega]
      exact g2
end
end

/- Dominance by sets of blocks that shrink till nothing changes: lists of numbers alone. -/
section

/-- All blocks, as bits. -/
def allBits : Nat := 1099511627775
theorem allBits_bit (a : Nat) : allBits.testBit a = decide (a < 40) := Nat.testBit_two_pow_sub_one 40 a
theorem bit_zero (a : Nat) : (0 : Nat).testBit a = false := Nat.zero_testBit a
theorem bit_pow (b a : Nat) : (2 ^ b).testBit a = decide (b = a) := Nat.testBit_two_pow
theorem le_of_sub {x y : Nat} (h : ∀ a, x.testBit a = true → y.testBit a = true) : x ≤ y := by
  have e : x &&& y = x := by
    apply Nat.eq_of_testBit_eq
    intro a
    rw [Nat.testBit_and]
    cases hx : x.testBit a
    · rfl
    · rw [h a hx]; rfl
  rw [← e]
  exact Nat.and_le_right

/-- What all preds have, of those that have any. -/
def meetD (D : List Nat) (ps : List Int) : Nat := ps.foldl (fun s p => if D.getD p.toNat 0 = 0 then s else s &&& D.getD p.toNat 0) allBits
theorem meetD_take {D : List Nat} {ps : List Int} {k : Nat} {p : Int} (h : ps[k]? = some p) : meetD D (ps.take (k + 1)) = if D.getD p.toNat 0 = 0 then meetD D (ps.take k) else meetD D (ps.take k) &&& D.getD p.toNat 0 := by
  unfold meetD
  rw [List.take_add_one, h, Option.toList_some, List.foldl_append]; rfl
theorem foldl_bit (D : List Nat) : ∀ (ps : List Int) (s a : Nat), (ps.foldl (fun s p => if D.getD p.toNat 0 = 0 then s else s &&& D.getD p.toNat 0) s).testBit a = true ↔ s.testBit a = true ∧ ∀ p ∈ ps, D.getD p.toNat 0 ≠ 0 → (D.getD p.toNat 0).testBit a = true
  | [], s, a => by simp
  | p :: ps, s, a => by
    rw [List.foldl_cons, foldl_bit D ps]
    by_cases h : D.getD p.toNat 0 = 0
    · rw [if_pos h]
      constructor
      · rintro ⟨h1, h2⟩
        refine ⟨h1, fun q hq hn => ?_⟩
        rcases List.mem_cons.1 hq with rfl | hq
        · exact absurd h hn
        · exact h2 q hq hn
      · rintro ⟨h1, h2⟩
        exact ⟨h1, fun q hq hn => h2 q (by simp [hq]) hn⟩
    · rw [if_neg h, Nat.testBit_and, Bool.and_eq_true]
      constructor
      · rintro ⟨⟨h1, h3⟩, h2⟩
        refine ⟨h1, fun q hq hn => ?_⟩
        rcases List.mem_cons.1 hq with rfl | hq
        · exact h3
        · exact h2 q hq hn
      · rintro ⟨h1, h2⟩
        exact ⟨⟨h1, h2 p (by simp) h⟩, fun q hq hn => h2 q (by simp [hq]) hn⟩
theorem meetD_bit (D : List Nat) (ps : List Int) (a : Nat) : (meetD D ps).testBit a = true ↔ a < 40 ∧ ∀ p ∈ ps, D.getD p.toNat 0 ≠ 0 → (D.getD p.toNat 0).testBit a = true := by
  unfold meetD
  rw [foldl_bit, allBits_bit, decide_eq_true_iff]
theorem meetD_le (D : List Nat) (ps : List Int) : meetD D ps ≤ allBits := le_of_sub fun a h => by rw [allBits_bit, decide_eq_true_iff]; exact ((meetD_bit D ps a).1 h).1

/-- What dominates b, by its preds. -/
def stepD (D : List Nat) (ps : List Int) (b : Nat) : Nat := meetD D ps ||| 2 ^ b
theorem stepD_bit (D : List Nat) (ps : List Int) (b a : Nat) : (stepD D ps b).testBit a = true ↔ (a < 40 ∧ ∀ p ∈ ps, D.getD p.toNat 0 ≠ 0 → (D.getD p.toNat 0).testBit a = true) ∨ b = a := by
  unfold stepD
  rw [Nat.testBit_or, Bool.or_eq_true, meetD_bit, bit_pow, decide_eq_true_iff]
theorem stepD_le (D : List Nat) (ps : List Int) {b : Nat} (hb : b < 40) : stepD D ps b ≤ allBits := le_of_sub fun a h => by
  rw [allBits_bit, decide_eq_true_iff]
  rcases (stepD_bit D ps b a).1 h with h | h
  · exact h.1
  · omega

/-- The preds are those from whom one comes to it. -/
def IsPreds (sc : Int → List Int) (N : Nat) (pr : Nat → List Int) : Prop := ∀ (j : Nat) (p : Int), j < N → (p ∈ pr j ↔ ∃ m : Nat, p = (m : Int) ∧ m < N ∧ (j : Int) ∈ sc m)

structure DInv (sc : Int → List Int) (N : Nat) (pr : Nat → List Int) (D : List Nat) : Prop where
  len : D.length = N
  zer : D.getD 0 0 = 1
  un : ∀ i : Nat, i < N → ¬ Rch sc (-1) i → D.getD i 0 = 0
  self : ∀ i : Nat, i < N → Rch sc (-1) i → (D.getD i 0).testBit i = true
  sup : ∀ (i a : Nat), i < N → a < 40 → Rch sc (-1) i → ¬ Rch sc a i → (D.getD i 0).testBit a = true
  lt : ∀ i : Nat, D.getD i 0 ≤ allBits
  pre : ∀ (i a : Nat), i < N → i ≠ 0 → Rch sc (-1) i → (stepD D (pr i) i).testBit a = true → (D.getD i 0).testBit a = true

theorem getD_set_same {D : List Nat} {i : Nat} (h : i < D.length) (x : Nat) : (D.set i x).getD i 0 = x := by
  rw [List.getD_eq_getElem?_getD, List.getElem?_set_self h]; rfl
theorem getD_set_other {D : List Nat} {i j : Nat} (h : i ≠ j) (x : Nat) : (D.set i x).getD j 0 = D.getD j 0 := by
  rw [List.getD_eq_getElem?_getD, List.getElem?_set_ne h, ← List.getD_eq_getElem?_getD]

def sumD (D : List Nat) : Nat := D.foldr (· + ·) 0
theorem sumD_set : ∀ {D : List Nat} {i : Nat}, i < D.length → ∀ x, sumD (D.set i x) + D.getD i 0 = sumD D + x
  | [], i, h, x => by simp at h
  | d :: D, 0, _, x => by simp [sumD]; omega
  | d :: D, i + 1, h, x => by
    have := sumD_set (D := D) (i := i) (by simpa using h) x
    simp only [sumD, List.set_cons_succ, List.foldr_cons, List.getD_cons_succ] at this ⊢
    omega

section
variable {sc : Int → List Int} {N : Nat} {pr : Nat → List Int} {D : List Nat} (h40 : N ≤ 40) (hpr : IsPreds sc N pr)
include h40 hpr

/-- A block's set is made anew. -/
theorem DInv.step (h : DInv sc N pr D) {b : Nat} (hb : b < N) (hb0 : b ≠ 0) (hr : Rch sc (-1) b) : DInv sc N pr (D.set b (stepD D (pr b) b)) := by
  have hbl : b < D.length := by rw [h.len]; exact hb
  have hsame := getD_set_same hbl (stepD D (pr b) b)
  have hoth := fun (j : Nat) (hj : b ≠ j) => getD_set_other (D := D) hj (stepD D (pr b) b)
  -- all sets are parts of what they were
  have hsub : ∀ j a, ((D.set b (stepD D (pr b) b)).getD j 0).testBit a = true → (D.getD j 0).testBit a = true := fun j a hja => by
    by_cases e : b = j
    · subst e
      rw [hsame] at hja
      exact h.pre b a hb hb0 hr hja
    · rw [hoth j e] at hja; exact hja
  have hnz : ∀ j, j < N → ((D.set b (stepD D (pr b) b)).getD j 0 ≠ 0 ↔ D.getD j 0 ≠ 0) := fun j hj => by
    by_cases e : b = j
    · subst e
      rw [hsame]
      constructor
      · intro _ h0
        have := h.self b hb hr
        rw [h0, bit_zero] at this; cases this
      · intro _ h0
        have : (stepD D (pr b) b).testBit b = true := (stepD_bit _ _ _ _).2 (.inr rfl)
        rw [h0, bit_zero] at this; cases this
    · rw [hoth j e]
  refine ⟨by simp [h.len], ?_, fun i hi hn => ?_, fun i hi hri => ?_, fun i a hi ha hri hna => ?_, fun i => ?_, fun i a hi hi0 hri hst => ?_⟩
  · rw [hoth 0 hb0]; exact h.zer
  · by_cases e : b = i
    · subst e; exact absurd hr hn
    · rw [hoth i e]; exact h.un i hi hn
  · by_cases e : b = i
    · subst e; rw [hsame]; exact (stepD_bit _ _ _ _).2 (.inr rfl)
    · rw [hoth i e]; exact h.self i hi hri
  · by_cases e : b = i
    · subst e
      rw [hsame, stepD_bit]
      by_cases hab : b = a
      · exact .inr hab
      · refine .inl ⟨ha, fun p hp hne => ?_⟩
        obtain ⟨m, rfl, hm, hbm⟩ := (hpr b p hb).1 hp
        rw [Int.toNat_natCast] at hne ⊢
        have hrm : Rch sc (-1) m := Classical.byContradiction fun hnm => hne (h.un m hm hnm)
        refine h.sup m a hm ha hrm fun hram => hna (.step hram hbm (by omega))
    · rw [hoth i e]; exact h.sup i a hi ha hri hna
  · by_cases e : b = i
    · subst e; rw [hsame]; exact stepD_le _ _ (by omega)
    · rw [hoth i e]; exact h.lt i
  · have key : (stepD D (pr i) i).testBit a = true := by
      rw [stepD_bit] at hst ⊢
      rcases hst with ⟨h1, h2⟩ | h1
      · refine .inl ⟨h1, fun p hp hne => ?_⟩
        obtain ⟨m, rfl, hm, _⟩ := (hpr i p hi).1 hp
        rw [Int.toNat_natCast] at hne ⊢
        have h3 := h2 m hp (by rw [Int.toNat_natCast]; exact (hnz m hm).2 hne)
        rw [Int.toNat_natCast] at h3
        exact hsub m a h3
      · exact .inr h1
    by_cases e : b = i
    · subst e; rw [hsame]; exact key
    · rw [hoth i e]; exact h.pre i a hi hi0 hri key
omit h40 hpr in
theorem DInv.sum (h : DInv sc N pr D) {b : Nat} (hb : b < N) (hb0 : b ≠ 0) (hr : Rch sc (-1) b) : sumD (D.set b (stepD D (pr b) b)) ≤ sumD D ∧ (stepD D (pr b) b ≠ D.getD b 0 → sumD (D.set b (stepD D (pr b) b)) < sumD D) := by
  have h1 := sumD_set (show b < D.length by rw [h.len]; exact hb) (stepD D (pr b) b)
  have h2 : stepD D (pr b) b ≤ D.getD b 0 := le_of_sub fun a ha => h.pre b a hb hb0 hr ha
  exact ⟨by omega, fun hne => by omega⟩

/-- Where nothing changes any more, each set holds just those that dominate. -/
theorem DInv.done (h : DInv sc N pr D) (hfix : ∀ b : Nat, b < N → b ≠ 0 → Rch sc (-1) b → stepD D (pr b) b = D.getD b 0) (hsc : ∀ b : Nat, b < N → ∀ t ∈ sc b, 0 ≤ t ∧ t < (N : Int)) {b a : Nat} (hb : b < N) (ha : a < 40) (hr : Rch sc (-1) b) :
    (D.getD b 0).testBit a = true ↔ ¬ Rch sc a b := by
  refine ⟨fun hbit hra => ?_, fun hn => h.sup b a hb ha hr hn⟩
  have key : ∀ x : Int, Rch sc a x → 0 ≤ x ∧ x < (N : Int) ∧ Rch sc (-1) x ∧ (D.getD x.toNat 0).testBit a = false := by
    intro x hx
    induction hx with
    | zero h0 =>
      refine ⟨by omega, by omega, .zero (by omega), ?_⟩
      rw [Int.toNat_zero, h.zer]
      cases hv : (1 : Nat).testBit a
      · rfl
      · rw [show (1 : Nat) = 2 ^ 0 by rfl, bit_pow, decide_eq_true_iff] at hv
        omega
    | @step x y _ hy hya ih =>
      obtain ⟨hx0, hxN, hxr, hxb⟩ := ih
      obtain ⟨k, rfl⟩ : ∃ k : Nat, x = k := ⟨x.toNat, by omega⟩
      have hyr := hsc k (by omega) y hy
      obtain ⟨j, rfl⟩ : ∃ j : Nat, y = j := ⟨y.toNat, by omega⟩
      have hrj : Rch sc (-1) j := .step hxr hy (by omega)
      refine ⟨hyr.1, hyr.2, hrj, ?_⟩
      rw [Int.toNat_natCast] at hxb ⊢
      by_cases hj0 : j = 0
      · subst hj0
        rw [h.zer]
        cases hv : (1 : Nat).testBit a
        · rfl
        · rw [show (1 : Nat) = 2 ^ 0 by rfl, bit_pow, decide_eq_true_iff] at hv
          omega
      · cases hv : (D.getD j 0).testBit a
        · rfl
        · rw [← hfix j (by omega) hj0 hrj, stepD_bit] at hv
          rcases hv with ⟨_, hv⟩ | hv
          · have hk := hv (k : Int) ((hpr j k (by omega)).2 ⟨k, rfl, by omega, hy⟩) (by
              rw [Int.toNat_natCast]
              intro h0
              have := h.self k (by omega) hxr
              rw [h0, bit_zero] at this; cases this)
            rw [Int.toNat_natCast, hxb] at hk
            cases hk
          · omega
  have := (key b hra).2.2.2
  rw [Int.toNat_natCast, hbit] at this
  cases this
end

/-- What the sets are at first. -/
theorem DInv.start {sc : Int → List Int} {N : Nat} {pr : Nat → List Int} {D : List Nat} (h40 : N ≤ 40) (hN : 1 ≤ N) (hl : D.length = N) (h0 : D.getD 0 0 = 1) (hr : ∀ i : Nat, i < N → i ≠ 0 → Rch sc (-1) i → D.getD i 0 = allBits) (hu : ∀ i : Nat, i < N → ¬ Rch sc (-1) i → D.getD i 0 = 0) : DInv sc N pr D := by
  refine ⟨hl, h0, hu, fun i hi hri => ?_, fun i a hi ha hri hna => ?_, fun i => ?_, fun i a hi hi0 hri hst => ?_⟩
  · by_cases e : i = 0
    · subst e; rw [h0]; rfl
    · rw [hr i hi e hri, allBits_bit, decide_eq_true_iff]; omega
  · by_cases e : i = 0
    · subst e
      rw [h0]
      have : a = 0 := Classical.byContradiction fun hne => hna (.zero (by omega))
      subst this; rfl
    · rw [hr i hi e hri, allBits_bit, decide_eq_true_iff]; exact ha
  · by_cases hi : i < N
    · by_cases e : i = 0
      · subst e; rw [h0]; decide
      · by_cases hri : Rch sc (-1) i
        · rw [hr i hi e hri]; exact Nat.le_refl _
        · rw [hu i hi hri]; exact Nat.zero_le _
    · rw [List.getD_eq_getElem?_getD, List.getElem?_eq_none (by omega)]; exact Nat.zero_le _
  · rw [hr i hi hi0 hri, allBits_bit, decide_eq_true_iff]
    rcases (stepD_bit _ _ _ _).1 hst with h | h
    · exact h.1
    · omega
end

/- The common end of a law's proof: a law that answers true and leaves below the old memory all as it was. -/
section
open Go.ChangeShapes Go.WideShapes Go.ChangeAt Go.RowKit Go.Joins

theorem Tryd.own : ownKnob Tryd.prog.godebug = none := by kernel_rfl
theorem Tryd.laidOut : laidOutB Tryd.prog = true := by kernel_rfl

theorem bcell {W w1 : World} (hb : Below W.heap.size W w1) : (∀ b o, b < W.heap.size → w1.cell? ⟨b, o, none⟩ = W.cell? ⟨b, o, none⟩) ∧ (∀ b o, b < W.heap.size → w1.frozen? ⟨b, o, none⟩ = W.frozen? ⟨b, o, none⟩) :=
  ⟨fun b o h => hb.cell (p := ⟨b, o, none⟩) h, fun b o h => hb.frozen (p := ⟨b, o, none⟩) h⟩

theorem bcellB {B : Nat} {W w1 : World} (hb : Below B W w1) : (∀ b o, b < B → w1.cell? ⟨b, o, none⟩ = W.cell? ⟨b, o, none⟩) ∧ (∀ b o, b < B → w1.frozen? ⟨b, o, none⟩ = W.frozen? ⟨b, o, none⟩) :=
  ⟨fun b o h => hb.cell (p := ⟨b, o, none⟩) h, fun b o h => hb.frozen (p := ⟨b, o, none⟩) h⟩

theorem trodAll_behind {H : Type} {enc : TypeId × Value → H} {P : Program} (hl : laidOutB P = true) {W W' : World} (hb : Below W.heap.size W W') : ∀ {ts : List TypeId} {vs : List Value} {ds : List (DataW H)} {ps : List MemPlace},
    (∀ t ∈ ts, P.readableRec t = true ∧ t < P.types.size) → DataW.TrodAll enc P W 0 (fun _ => true) true ts vs ds ps → (∀ x ∈ ps, x.block < W.heap.size) →
    DataW.TrodAll enc P W' 0 (fun b => decide (b < W.heap.size)) true ts vs ds ps
  | [], vs, ds, ps, _, h, _ => by
    obtain ⟨rfl, rfl, rfl⟩ := trodAll_nil h
    exact trodAll_mk0
  | t :: ts, vs, ds, ps, hr, h, hlt => by
    obtain ⟨v, vs', d, ds', p, q, rfl, rfl, rfl, h1, h2⟩ := trodAll_cons h
    obtain ⟨hr1, hr2⟩ := hr t List.mem_cons_self
    exact trodAll_cons_mk (Below.trod hl hr1 hr2 h1 hb fun x hx => hlt x (List.mem_append_left _ hx))
      (trodAll_behind hl hb (fun u hu => hr u (List.mem_cons_of_mem _ hu)) h2 fun x hx => hlt x (List.mem_append_right _ hx))

/-- A law's call that answers true, and behind which all old memory stands as it stood, does what its row asks. -/
theorem law_done {H : Type} {enc : TypeId × Value → H} {P : Program} (hl : laidOutB P = true) {f : Func} {s : ChangeSpec} {W W' : World} {args : Array Value} {ds gs : List (DataW H)} {before : List MemPlace} {t : TypeId}
    (hr : (f.params.toList.all fun t => P.readableRec t && decide (t < P.types.size)) = true) (hres : f.resultTypes = #[t]) (ht : P.underlying t = some .bool) (hvars : s.vars = [])
    (hW : DataW.Whole enc P f.params.toList s.vars false W args.toList ds gs before)
    (hs : (s.fn H (ds ++ gs)).results = [.lit (.bool true)] ∧ (s.fn H (ds ++ gs)).args = ds ∧ (s.fn H (ds ++ gs)).vars = [])
    (hb : Below W.heap.size W W') : s.post enc P f false true false false W args (.bool true) W' := by
  have hlt := hW.lt
  have hW' := hW
  obtain ⟨p, q, hA, hV, rfl, hfz, hnd⟩ := hW
  rw [hvars] at hV
  obtain ⟨rfl, rfl⟩ := trodVars_none hV
  obtain ⟨hs1, hs2, hs3⟩ := hs
  refine ⟨ds, [], p ++ [], [], p, [], hW', ?_, ?_, ?_, ?_, fun h => by cases h⟩
  · rw [hs1, hres]
    exact trodAll_mk1 (shut_bool ht _)
  · rw [hs2]
    exact trodAll_behind hl hb (fun u hu => by simpa using List.all_eq_true.1 hr u hu) hA fun x hx => hlt x (List.mem_append_left _ hx)
  · rw [hs3, hvars]
    rfl
  · refine World.keptBut_mono (fun x hx => ⟨hx, .inr (.inl (by simpa using hx))⟩) (hb.frame _)
end

/- Slices of int64: how they read, whose they are, and what eqInt64S of the laws does. -/
section
open Go.ChangeShapes Go.WideShapes Go.ChangeAt Go.RowKit Go.Joins

theorem maxLen_is : maxLen = 9223372036854775807 := rfl
def iv (n : Int) : Value := .int .i64 n

/-- The slice value v reads as the integers xs. -/
def RI (w : World) (v : Value) (xs : List Int) : Prop :=
  xs.length ≤ 9223372036854775807 ∧ ∃ A c, v = .slice A xs.length c ∧ (xs ≠ [] → ∃ b off, A = some ⟨b, off, none⟩ ∧ ∀ k u, xs[k]? = some u → w.cell? ⟨b, off + k, none⟩ = some (.int .i64 u))

/-- The slice value v is the call's own, from block B on, and reads as xs. -/
def OI (w : World) (B : Nat) (v : Value) (xs : List Int) : Prop := w.ownsRow B 2 1 v xs.length (xs.map iv)

theorem OI.ri {w : World} {B : Nat} {v : Value} {xs : List Int} (h : OI w B v xs) : RI w v xs := by
  have h0 := h
  rcases h.2 with ⟨rfl, hn⟩ | ⟨g, cap, cur, rfl, _, hg, hnc, hcm, hs, ht⟩
  · exact ⟨by omega, none, 0, by rw [hn], fun hne => absurd (List.length_eq_zero_iff.1 hn) hne⟩
  · refine ⟨by rw [maxLen_is] at hcm; omega, _, cap, rfl, fun _ => ⟨g, 0, rfl, fun k u hu => ?_⟩⟩
    have hk : k < xs.length := by
      rcases Nat.lt_or_ge k xs.length with h | h
      · exact h
      · rw [List.getElem?_eq_none h] at hu; cases hu
    have := World.ownsRow.cellAt h0 k (by omega)
    rw [Nat.zero_add, this, List.getElem?_map, hu]; rfl

theorem take_eq_of {xs ys : List Int} {k : Nat} {x : Int} (h : xs.take k = ys.take k) (hx : xs[k]? = some x) (hy : ys[k]? = some x) : xs.take (k + 1) = ys.take (k + 1) := by
  rw [List.take_add_one, List.take_add_one, h, hx, hy]

set_option maxHeartbeats 400000 in
theorem eqInt64S_any (u v : Value) (xs ys : List Int) (w : World) (hu : RI w u xs) (hv : RI w v ys) :
    Calls Tryd.prog 19 #[u, v] w fun e w' => e = .returned (.bool (decide (xs = ys))) ∧ ∃ n, w' = w.drewN n := by
  obtain ⟨lx, A, c, rfl, hx⟩ := hu
  obtain ⟨ly, A', c', rfl, hy⟩ := hv
  by_cases hl : xs.length = ys.length
  · have hb : ((xs.length : Int) != (ys.length : Int)) = false := by simp [hl]
    have HL := Lib.hid hl
    clear hl
    have hle : (xs.length : Int) ≤ 9223372036854775807 := by omega
    go_enter Tryd.func19, Tryd.ntmps19
    go_wp2
    go_loopw [5] (fun i wr => ∃ k : Nat, k ≤ xs.length ∧ i = .int .i64 k ∧ Hid (xs.take k = ys.take k) ∧ ∃ m, wr = w.drewN m) (fun i _ => xs.length - (intOf i).toNat)
    case atStart => exact ⟨0, Nat.zero_le _, rfl, rfl, 0, rfl⟩
    case round =>
      obtain ⟨k, hk, rfl, htk, m, rfl⟩ := hrel
      by_cases hlt : k < xs.length
      · have hxk : xs[k]? = some xs[k] := List.getElem?_eq_getElem hlt
        have hlt' : k < ys.length := by have := HL.out; omega
        have hyk : ys[k]? = some ys[k] := List.getElem?_eq_getElem hlt'
        obtain ⟨b, off, rfl, hx'⟩ := hx (by rintro rfl; simp at hlt)
        obtain ⟨b', off', rfl, hy'⟩ := hy (by rintro rfl; simp at hlt')
        have hcx := hx' k _ hxk
        have hcy := hy' k _ hyk
        have Hxk := Lib.hid hxk
        have Hyk := Lib.hid hyk
        clear hx hy hx' hy' hxk hyk
        generalize hex : xs[k] = x at *
        generalize hey : ys[k] = y at *
        clear hex hey
        by_cases hxy : x = y
        · subst hxy
          go_wp2
          go_quiet (fail)
          go_wp2
          go_roundw
          case rel => exact ⟨k + 1, by omega, by go_num, take_eq_of htk.out Hxk.out Hyk.out, m + nq, by go_simp⟩
          case measure => simp [intOf]; omega
        · have hb' : (x != y) = true := by simpa using hxy
          have HE : Hid (decide (xs = ys) = false) := by
            have h : xs ≠ ys := by
              rintro rfl
              have h1 := Hxk.out
              rw [Hyk.out] at h1
              exact hxy (by injection h1 with h1; exact h1.symm)
            simpa [Hid] using h
          clear hxy
          go_wp2
          go_quiet (fail)
          go_wp2
          go_ret
          exact ⟨by rw [HE.out]; rfl, m + nq, by go_simp⟩
      · have hk' : k = xs.length := by omega
        have HE : Hid (decide (xs = ys) = true) := by
          have h := htk.out
          rw [hk', List.take_length, HL.out, List.take_length] at h
          simpa [Hid] using h
        subst hk'
        go_wp2
        go_ret
        exact ⟨by rw [HE.out]; rfl, m, rfl⟩
  · have hb : ((xs.length : Int) != (ys.length : Int)) = true := by simp; omega
    have hne : xs ≠ ys := fun h => hl (by rw [h])
    have HE : Hid (decide (xs = ys) = false) := by simp [Hid, hne]
    clear hne hl
    go_enter Tryd.func19, Tryd.ntmps19
    go_wp2
    go_ret
    exact ⟨by rw [HE.out]; rfl, 0, rfl⟩

theorem eqInt64S_same (u v : Value) (xs : List Int) (w : World) (hu : RI w u xs) (hv : RI w v xs) :
    Calls Tryd.prog 19 #[u, v] w fun e w' => e = .returned (.bool true) ∧ ∃ n, w' = w.drewN n :=
  (eqInt64S_any u v xs xs w hu hv).mono fun _ _ ⟨he, hw⟩ => ⟨by rw [he]; simp, hw⟩

def markL (k : Int) (n : Nat) : List Int := (List.range n).map fun (i : Nat) => k + (i : Int)
theorem markL_length (k : Int) (n : Nat) : (markL k n).length = n := by simp [markL]
theorem markL_get (k : Int) {n j : Nat} (h : j < n) : (markL k n)[j]? = some (k + j) := by simp [markL, h]
theorem markL_zero (k : Int) : markL k 0 = [] := rfl

theorem set_step (k : Int) (xs : List Int) {j : Nat} (h : j < xs.length) :
    (((markL k j ++ xs.drop j).map iv).set j (iv (k + j))) = (markL k (j + 1) ++ xs.drop (j + 1)).map iv := by
  apply List.ext_getElem?
  intro i
  rw [List.getElem?_set, List.getElem?_map, List.getElem?_map]
  have hl : (List.map iv (markL k j ++ List.drop j xs)).length = xs.length := by simp [markL_length]; omega
  rw [hl]
  by_cases hij : j = i
  · subst hij
    rw [if_pos rfl, if_pos h, List.getElem?_append_left (by rw [markL_length]; omega), markL_get k (by omega)]; rfl
  · rw [if_neg hij]
    by_cases hlt : i < j
    · rw [List.getElem?_append_left (by rw [markL_length]; exact hlt), List.getElem?_append_left (by rw [markL_length]; omega), markL_get k hlt, markL_get k (by omega)]
    · rw [List.getElem?_append_right (by rw [markL_length]; omega), List.getElem?_append_right (by rw [markL_length]; omega), markL_length, markL_length, List.getElem?_drop, List.getElem?_drop]
      congr 2; omega
end

end Go.Proofs.YteikpekffgifoaaDoor
