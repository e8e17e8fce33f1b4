/- A walk through a graph in depth, and what is reached: lists alone. -/
import Derived.WalkKit
namespace Go.Proofs.Ytbghcoihndlihaa

/-- How many are false. -/
def cf (s : List Bool) : Nat := s.count false
theorem cf_le (s : List Bool) : cf s ≤ s.length := List.count_le_length
theorem cf_set : ∀ {s : List Bool} {k : Nat}, s[k]? = some false → cf (s.set k true) + 1 = cf s
  | [], k, h => by simp at h
  | a :: s, 0, h => by
    simp at h
    subst h
    simp [cf]
  | a :: s, k + 1, h => by
    have := cf_set (s := s) (k := k) (by simpa using h)
    unfold cf at this ⊢
    simp only [List.set_cons_succ, List.count_cons]
    omega
theorem cf_pos {s : List Bool} {k : Nat} (h : s[k]? = some false) : 1 ≤ cf s := by
  have := cf_set h
  omega
theorem set_get_self {s : List Bool} {k : Nat} (h : k < s.length) (b : Bool) : (s.set k b)[k]? = some b := by
  rw [List.getElem?_set_self (by simpa using h)]
theorem set_get_other {s : List Bool} {k j : Nat} (h : k ≠ j) (b : Bool) : (s.set k b)[j]? = s[j]? := by
  rw [List.getElem?_set_ne h]

/-- Has t been seen? -/
def seenAt (s : List Bool) (t : Int) : Bool := s.getD t.toNat true
theorem seenAt_of {s : List Bool} {t : Nat} {b : Bool} (h : s[t]? = some b) : seenAt s t = b := by
  unfold seenAt
  rw [Int.toNat_natCast, List.getD_eq_getElem?_getD, h]; rfl

/-- From b on, with fuel: who has been seen, and all that are finished, in order. -/
def dfs (sc : Int → List Int) : Nat → Int → List Bool × List Int → List Bool × List Int
  | 0, _, st => st
  | n + 1, b, st =>
    let r := (sc b).foldl (fun s t => if seenAt s.1 t = true then s else dfs sc n t s) (st.1.set b.toNat true, st.2)
    (r.1, r.2 ++ [b])
def dstep (sc : Int → List Int) (n : Nat) (s : List Bool × List Int) (t : Int) : List Bool × List Int := if seenAt s.1 t = true then s else dfs sc n t s
def dlist (sc : Int → List Int) (n : Nat) (ts : List Int) (s : List Bool × List Int) : List Bool × List Int := ts.foldl (dstep sc n) s
theorem dfs_succ (sc : Int → List Int) (n : Nat) (b : Int) (st : List Bool × List Int) : dfs sc (n + 1) b st = ((dlist sc n (sc b) (st.1.set b.toNat true, st.2)).1, (dlist sc n (sc b) (st.1.set b.toNat true, st.2)).2 ++ [b]) := rfl
theorem dlist_nil (sc : Int → List Int) (n : Nat) (s : List Bool × List Int) : dlist sc n [] s = s := rfl
theorem dlist_cons (sc : Int → List Int) (n : Nat) (t : Int) (ts : List Int) (s : List Bool × List Int) : dlist sc n (t :: ts) s = dlist sc n ts (dstep sc n s t) := rfl
theorem dlist_take (sc : Int → List Int) (n : Nat) {ts : List Int} {k : Nat} {t : Int} (h : ts[k]? = some t) (s : List Bool × List Int) : dlist sc n (ts.take (k + 1)) s = dstep sc n (dlist sc n (ts.take k) s) t := by
  unfold dlist
  rw [List.take_add_one, h, Option.toList_some, List.foldl_append]; rfl

/-- What stays right through the walk. -/
structure Inv (N K : Nat) (st : List Bool × List Int) : Prop where
  len : st.1.length = N
  cap : st.2.length + cf st.1 ≤ K
  mem : ∀ x ∈ st.2, 0 ≤ x ∧ x < (N : Int)

section
variable {sc : Int → List Int} {N : Nat} (hsc : ∀ b : Nat, b < N → ∀ t ∈ sc b, 0 ≤ t ∧ t < (N : Int))
include hsc

theorem dfs_inv {K : Nat} : ∀ (n : Nat) (b : Nat) (st : List Bool × List Int), Inv N K st → st.1[b]? = some false → Inv N K (dfs sc n b st) ∧ cf (dfs sc n b st).1 ≤ cf st.1
  | 0, _, st, h, _ => ⟨h, Nat.le_refl _⟩
  | n + 1, b, st, h, hb => by
    have hbN : b < N := by rw [← h.len]; exact (List.getElem?_eq_some_iff.1 hb).1
    have hl : ∀ (ts : List Int) (s : List Bool × List Int), (∀ t ∈ ts, 0 ≤ t ∧ t < (N : Int)) → ∀ K, Inv N K s → Inv N K (dlist sc n ts s) ∧ cf (dlist sc n ts s).1 ≤ cf s.1 := by
      intro ts
      induction ts with
      | nil => intro s _ K h; exact ⟨h, Nat.le_refl _⟩
      | cons t ts ih =>
        intro s ht K h
        rw [dlist_cons]
        have ht0 := ht t (by simp)
        obtain ⟨k, rfl⟩ : ∃ k : Nat, t = k := ⟨t.toNat, by omega⟩
        have hk : k < s.1.length := by rw [h.len]; omega
        have hs : s.1[k]? = some s.1[k] := List.getElem?_eq_getElem hk
        have hst : Inv N K (dstep sc n s k) ∧ cf (dstep sc n s k).1 ≤ cf s.1 := by
          unfold dstep
          rw [seenAt_of hs]
          by_cases hv : s.1[k] = true
          · rw [if_pos hv]; exact ⟨h, Nat.le_refl _⟩
          · rw [if_neg hv]
            have hv' : s.1[k] = false := by simpa using hv
            rw [hv'] at hs
            exact dfs_inv (K := K) n k s h hs
        obtain ⟨h1, h2⟩ := ih _ (fun u hu => ht u (by simp [hu])) K hst.1
        exact ⟨h1, Nat.le_trans h2 hst.2⟩
    have hcf := cf_set hb
    have hcap := h.cap
    have hK1 : 1 ≤ K := by omega
    have h0 : Inv N (K - 1) (st.1.set b true, st.2) := ⟨by simp [h.len], by show st.2.length + cf (st.1.set b true) ≤ K - 1; omega, h.mem⟩
    obtain ⟨h1, h2⟩ := hl (sc b) (st.1.set b true, st.2) (hsc b hbN) (K - 1) h0
    rw [dfs_succ, Int.toNat_natCast]
    refine ⟨⟨h1.len, ?_, ?_⟩, ?_⟩
    · have := h1.cap
      simp only [List.length_append, List.length_singleton]
      omega
    · intro x hx
      rcases List.mem_append.1 hx with hx | hx
      · exact h1.mem x hx
      · simp at hx; omega
    · have h2' : cf (dlist sc n (sc b) (st.1.set b true, st.2)).1 ≤ cf (st.1.set b true) := h2
      show cf (dlist sc n (sc b) (st.1.set b true, st.2)).1 ≤ _
      omega

/-- What has been seen stays seen. -/
theorem dfs_mono {K : Nat} : ∀ (n : Nat) (b : Nat) (st : List Bool × List Int), Inv N K st → st.1[b]? = some false → ∀ i : Nat, st.1[i]? = some true → (dfs sc n b st).1[i]? = some true
  | 0, _, _, _, _, i, hi => hi
  | n + 1, b, st, h, hb, i, hi => by
    have hbN : b < N := by rw [← h.len]; exact (List.getElem?_eq_some_iff.1 hb).1
    have hl : ∀ (ts : List Int) (s : List Bool × List Int), (∀ t ∈ ts, 0 ≤ t ∧ t < (N : Int)) → ∀ K, Inv N K s → ∀ i : Nat, s.1[i]? = some true → (dlist sc n ts s).1[i]? = some true := by
      intro ts
      induction ts with
      | nil => intro s _ K h i hi; exact hi
      | cons t ts ih =>
        intro s ht K h i hi
        rw [dlist_cons]
        have ht0 := ht t (by simp)
        obtain ⟨k, rfl⟩ : ∃ k : Nat, t = k := ⟨t.toNat, by omega⟩
        have hk : k < s.1.length := by rw [h.len]; omega
        have hs : s.1[k]? = some s.1[k] := List.getElem?_eq_getElem hk
        have hst : Inv N K (dstep sc n s k) ∧ (dstep sc n s k).1[i]? = some true := by
          unfold dstep
          rw [seenAt_of hs]
          by_cases hv : s.1[k] = true
          · rw [if_pos hv]; exact ⟨h, hi⟩
          · rw [if_neg hv]
            have hv' : s.1[k] = false := by simpa using hv
            rw [hv'] at hs
            exact ⟨(dfs_inv hsc n k s h hs).1, dfs_mono (K := K) n k s h hs i hi⟩
        exact ih _ (fun u hu => ht u (by simp [hu])) K hst.1 i hst.2
    have hcf := cf_set hb
    have hcap := h.cap
    have h0 : Inv N K (st.1.set b true, st.2) := ⟨by simp [h.len], by show st.2.length + cf (st.1.set b true) ≤ K; omega, h.mem⟩
    rw [dfs_succ, Int.toNat_natCast]
    refine hl (sc b) (st.1.set b true, st.2) (hsc b hbN) K h0 i ?_
    have hne : b ≠ i := by rintro rfl; rw [hb] at hi; cases hi
    show (st.1.set b true)[i]? = some true
    rw [set_get_other hne]; exact hi

/-- What comes of a list of succs: all that were so far, and they. -/
theorem dlist_inv {K : Nat} (n : Nat) : ∀ (ts : List Int) (s : List Bool × List Int), (∀ t ∈ ts, 0 ≤ t ∧ t < (N : Int)) → Inv N K s → Inv N K (dlist sc n ts s) ∧ cf (dlist sc n ts s).1 ≤ cf s.1 ∧ ∀ i : Nat, s.1[i]? = some true → (dlist sc n ts s).1[i]? = some true
  | [], s, _, h => ⟨h, Nat.le_refl _, fun _ hi => hi⟩
  | t :: ts, s, ht, h => by
    rw [dlist_cons]
    have ht0 := ht t (by simp)
    obtain ⟨k, rfl⟩ : ∃ k : Nat, t = k := ⟨t.toNat, by omega⟩
    have hk : k < s.1.length := by rw [h.len]; omega
    have hs : s.1[k]? = some s.1[k] := List.getElem?_eq_getElem hk
    have hst : Inv N K (dstep sc n s k) ∧ cf (dstep sc n s k).1 ≤ cf s.1 ∧ ∀ i : Nat, s.1[i]? = some true → (dstep sc n s k).1[i]? = some true := by
      unfold dstep
      rw [seenAt_of hs]
      by_cases hv : s.1[k] = true
      · rw [if_pos hv]; exact ⟨h, Nat.le_refl _, fun _ hi => hi⟩
      · rw [if_neg hv]
        have hv' : s.1[k] = false := by simpa using hv
        rw [hv'] at hs
        have := dfs_inv hsc n k s h hs
        exact ⟨this.1, this.2, dfs_mono hsc n k s h hs⟩
    obtain ⟨h1, h2, h3⟩ := dlist_inv n ts _ (fun u hu => ht u (by simp [hu])) hst.1
    exact ⟨h1, Nat.le_trans h2 hst.2.1, fun i hi => h3 i (hst.2.2 i hi)⟩

theorem dfs_seen {K : Nat} {n b : Nat} {st : List Bool × List Int} (h : Inv N K st) (hb : st.1[b]? = some false) : (dfs sc (n + 1) b st).1[b]? = some true := by
  have hbN : b < N := by rw [← h.len]; exact (List.getElem?_eq_some_iff.1 hb).1
  have hcf := cf_set hb
  have hcap := h.cap
  have h0 : Inv N K (st.1.set b true, st.2) := ⟨by simp [h.len], by show st.2.length + cf (st.1.set b true) ≤ K; omega, h.mem⟩
  rw [dfs_succ, Int.toNat_natCast]
  exact (dlist_inv hsc n _ _ (hsc b hbN) h0).2.2 b (set_get_self (by rw [h.len]; exact hbN) true)
end

/-- Come to from the block 0 on, without one. -/
inductive Rch (sc : Int → List Int) (wo : Int) : Int → Prop
  | zero (h : (0 : Int) ≠ wo) : Rch sc wo 0
  | step {a b : Int} (h : Rch sc wo a) (hb : b ∈ sc a) (hw : b ≠ wo) : Rch sc wo b

section
variable {sc : Int → List Int} {N : Nat} (hsc : ∀ b : Nat, b < N → ∀ t ∈ sc b, 0 ≤ t ∧ t < (N : Int))
include hsc

theorem dlist_sound {K : Nat} (n : Nat) (ih : ∀ (b : Nat) (s : List Bool × List Int), Inv N K s → s.1[b]? = some false → Rch sc (-1) b → (∀ i : Nat, s.1[i]? = some true → Rch sc (-1) i) → ∀ i : Nat, (dfs sc n b s).1[i]? = some true → Rch sc (-1) i) :
    ∀ (ts : List Int) (s : List Bool × List Int), (∀ t ∈ ts, 0 ≤ t ∧ t < (N : Int)) → (∀ t ∈ ts, Rch sc (-1) t) → Inv N K s → (∀ i : Nat, s.1[i]? = some true → Rch sc (-1) i) → ∀ i : Nat, (dlist sc n ts s).1[i]? = some true → Rch sc (-1) i
  | [], s, _, _, _, h, i, hi => h i hi
  | t :: ts, s, ht, hr, h, hs, i, hi => by
    rw [dlist_cons] at hi
    have ht0 := ht t (by simp)
    have hrt := hr t (by simp)
    obtain ⟨k, rfl⟩ : ∃ k : Nat, t = k := ⟨t.toNat, by omega⟩
    have hk : k < s.1.length := by rw [h.len]; omega
    have hsk : s.1[k]? = some s.1[k] := List.getElem?_eq_getElem hk
    have hst : Inv N K (dstep sc n s k) ∧ ∀ i : Nat, (dstep sc n s k).1[i]? = some true → Rch sc (-1) i := by
      unfold dstep
      rw [seenAt_of hsk]
      by_cases hv : s.1[k] = true
      · rw [if_pos hv]; exact ⟨h, hs⟩
      · rw [if_neg hv]
        have hv' : s.1[k] = false := by simpa using hv
        rw [hv'] at hsk
        exact ⟨(dfs_inv hsc n k s h hsk).1, ih k s h hsk hrt hs⟩
    exact dlist_sound n ih ts _ (fun u hu => ht u (by simp [hu])) (fun u hu => hr u (by simp [hu])) hst.1 hst.2 i hi

theorem dfs_sound {K : Nat} : ∀ (n : Nat) (b : Nat) (s : List Bool × List Int), Inv N K s → s.1[b]? = some false → Rch sc (-1) b → (∀ i : Nat, s.1[i]? = some true → Rch sc (-1) i) → ∀ i : Nat, (dfs sc n b s).1[i]? = some true → Rch sc (-1) i
  | 0, _, _, _, _, _, hs, i, hi => hs i hi
  | n + 1, b, s, h, hb, hr, hs, i, hi => by
    have hbN : b < N := by rw [← h.len]; exact (List.getElem?_eq_some_iff.1 hb).1
    have hcf := cf_set hb
    have hcap := h.cap
    have h0 : Inv N K (s.1.set b true, s.2) := ⟨by simp [h.len], by show s.2.length + cf (s.1.set b true) ≤ K; omega, h.mem⟩
    rw [dfs_succ, Int.toNat_natCast] at hi
    refine dlist_sound hsc n (fun b' s' => dfs_sound n b' s') (sc b) _ (hsc b hbN) (fun t ht => .step hr ht (by have := hsc b hbN t ht; omega)) h0 (fun j hj => ?_) i hi
    by_cases hjb : b = j
    · subst hjb; exact hr
    · have hj' : (s.1.set b true)[j]? = some true := hj
      rw [set_get_other hjb] at hj'
      exact hs j hj'

/-- Each one that has been seen newly has all its succs seen. -/
def Clo (sc : Int → List Int) (s s' : List Bool) : Prop := ∀ i : Nat, s'[i]? = some true → s[i]? = some true ∨ ∀ t ∈ sc i, s'[t.toNat]? = some true

theorem dlist_clo {K : Nat} (n : Nat) (ih : ∀ (b : Nat) (s : List Bool × List Int), Inv N K s → s.1[b]? = some false → cf s.1 ≤ n → Clo sc s.1 (dfs sc n b s).1 ∧ (dfs sc n b s).1[b]? = some true) :
    ∀ (ts : List Int) (s : List Bool × List Int), (∀ t ∈ ts, 0 ≤ t ∧ t < (N : Int)) → Inv N K s → cf s.1 ≤ n → Clo sc s.1 (dlist sc n ts s).1 ∧ ∀ t ∈ ts, (dlist sc n ts s).1[t.toNat]? = some true
  | [], s, _, _, _ => ⟨fun i hi => .inl hi, fun t ht => by cases ht⟩
  | t :: ts, s, ht, h, hn => by
    rw [dlist_cons]
    have ht0 := ht t (by simp)
    obtain ⟨k, rfl⟩ : ∃ k : Nat, t = k := ⟨t.toNat, by omega⟩
    have hk : k < s.1.length := by rw [h.len]; omega
    have hsk : s.1[k]? = some s.1[k] := List.getElem?_eq_getElem hk
    have hst : Inv N K (dstep sc n s k) ∧ cf (dstep sc n s k).1 ≤ cf s.1 ∧ Clo sc s.1 (dstep sc n s k).1 ∧ (dstep sc n s k).1[k]? = some true := by
      unfold dstep
      rw [seenAt_of hsk]
      by_cases hv : s.1[k] = true
      · rw [if_pos hv]; rw [hv] at hsk; exact ⟨h, Nat.le_refl _, fun i hi => .inl hi, hsk⟩
      · rw [if_neg hv]
        have hv' : s.1[k] = false := by simpa using hv
        rw [hv'] at hsk
        have h1 := dfs_inv hsc n k s h hsk
        have h2 := ih k s h hsk hn
        exact ⟨h1.1, h1.2, h2.1, h2.2⟩
    obtain ⟨g1, g2, g3, g4⟩ := hst
    have htl := fun u (hu : u ∈ ts) => ht u (by simp [hu])
    obtain ⟨e1, e2⟩ := dlist_clo n ih ts _ htl g1 (Nat.le_trans g2 hn)
    have hm := (dlist_inv hsc n ts _ htl g1).2.2
    refine ⟨fun i hi => ?_, fun u hu => ?_⟩
    · rcases e1 i hi with h' | h'
      · rcases g3 i h' with h'' | h''
        · exact .inl h''
        · exact .inr fun t ht => hm _ (h'' t ht)
      · exact .inr h'
    · rcases List.mem_cons.1 hu with rfl | hu
      · exact hm _ (by simpa using g4)
      · exact e2 u hu

theorem dfs_clo {K : Nat} : ∀ (n : Nat) (b : Nat) (s : List Bool × List Int), Inv N K s → s.1[b]? = some false → cf s.1 ≤ n → Clo sc s.1 (dfs sc n b s).1 ∧ (dfs sc n b s).1[b]? = some true
  | 0, _, _, _, hb, hn => by have := cf_pos hb; omega
  | n + 1, b, s, h, hb, hn => by
    have hbN : b < N := by rw [← h.len]; exact (List.getElem?_eq_some_iff.1 hb).1
    have hcf := cf_set hb
    have hcap := h.cap
    have h0 : Inv N K (s.1.set b true, s.2) := ⟨by simp [h.len], by show s.2.length + cf (s.1.set b true) ≤ K; omega, h.mem⟩
    obtain ⟨e1, e2⟩ := dlist_clo hsc n (fun b' s' => dfs_clo n b' s') (sc b) (s.1.set b true, s.2) (hsc b hbN) h0 (by show cf (s.1.set b true) ≤ n; omega)
    refine ⟨fun i hi => ?_, dfs_seen hsc h hb⟩
    rw [dfs_succ, Int.toNat_natCast] at hi ⊢
    rcases e1 i hi with h' | h'
    · by_cases hbi : b = i
      · subst hbi; exact .inr e2
      · have h'' : (s.1.set b true)[i]? = some true := h'
        rw [set_get_other hbi] at h''
        exact .inl h''
    · exact .inr h'
end

/-- The list tells of each block whether it is come to from the block 0 on, without one. -/
def IsReach (sc : Int → List Int) (wo : Int) (n : Nat) (bs : List Bool) : Prop := bs.length = n ∧ ∀ i : Nat, i < n → (bs[i]? = some true ↔ Rch sc wo i)
theorem IsReach.one {sc : Int → List Int} {wo : Int} {n : Nat} {bs cs : List Bool} (h : IsReach sc wo n bs) (k : IsReach sc wo n cs) : bs = cs := by
  refine List.ext_getElem? fun i => ?_
  by_cases hi : i < n
  · have hl1 : i < bs.length := by rw [h.1]; exact hi
    have hl2 : i < cs.length := by rw [k.1]; exact hi
    have h1 : bs[i]? = some bs[i] := List.getElem?_eq_getElem hl1
    have h2 : cs[i]? = some cs[i] := List.getElem?_eq_getElem hl2
    have e : bs[i]? = some true ↔ cs[i]? = some true := (h.2 i hi).trans (k.2 i hi).symm
    rw [h1, h2] at e ⊢
    cases hb : bs[i] <;> cases hc : cs[i] <;> simp_all
  · rw [List.getElem?_eq_none (by rw [h.1]; omega), List.getElem?_eq_none (by rw [k.1]; omega)]

/-- The walk in depth at a function's blocks. -/
def dfs0 (sc : Int → List Int) (N : Nat) : List Bool × List Int := dfs sc N (0 : Nat) (List.replicate N false, [])
theorem cf_replicate (N : Nat) : cf (List.replicate N false) = N := by simp [cf]
theorem inv0 (N : Nat) : Inv N N (List.replicate N false, []) := ⟨by simp, by show 0 + cf (List.replicate N false) ≤ N; rw [cf_replicate]; omega, fun x hx => by cases hx⟩
theorem get_replicate {N k : Nat} (h : k < N) : (List.replicate N false)[k]? = some false := by rw [List.getElem?_replicate, if_pos h]

theorem dfs0_reach {sc : Int → List Int} {N : Nat} (hsc : ∀ b : Nat, b < N → ∀ t ∈ sc b, 0 ≤ t ∧ t < (N : Int)) (hN : 1 ≤ N) : IsReach sc (-1) N (dfs0 sc N).1 := by
  have h0 := get_replicate (N := N) (k := 0) (by omega)
  refine ⟨(dfs_inv hsc N 0 _ (inv0 N) h0).1.len, fun i hi => ⟨fun h => ?_, fun h => ?_⟩⟩
  · refine dfs_sound hsc N 0 _ (inv0 N) h0 (.zero (by omega)) (fun j hj => ?_) i h
    have hj' : (List.replicate N false)[j]? = some true := hj
    rw [List.getElem?_replicate] at hj'
    split at hj' <;> simp at hj'
  · obtain ⟨e1, e2⟩ := dfs_clo hsc N 0 _ (inv0 N) h0 (by show cf (List.replicate N false) ≤ N; rw [cf_replicate]; omega)
    have key : ∀ x : Int, Rch sc (-1) x → 0 ≤ x ∧ x < (N : Int) ∧ (dfs0 sc N).1[x.toNat]? = some true := by
      intro x hx
      induction hx with
      | zero _ => exact ⟨by omega, by omega, e2⟩
      | @step a b _ hb _ ih =>
        obtain ⟨ha0, haN, hat⟩ := ih
        obtain ⟨k, rfl⟩ : ∃ k : Nat, a = k := ⟨a.toNat, by omega⟩
        have hbr := hsc k (by omega) b hb
        refine ⟨hbr.1, hbr.2, ?_⟩
        rw [Int.toNat_natCast] at hat
        rcases e1 k hat with h' | h'
        · have h'' : (List.replicate N false)[k]? = some true := h'
          rw [List.getElem?_replicate] at h''
          split at h'' <;> simp at h''
        · exact h' b hb
    have := (key i h).2.2
    simpa using this

theorem dfs0_len {sc : Int → List Int} {N : Nat} (hsc : ∀ b : Nat, b < N → ∀ t ∈ sc b, 0 ≤ t ∧ t < (N : Int)) (hN : 1 ≤ N) : (dfs0 sc N).2.length ≤ N := by
  have := (dfs_inv hsc N 0 _ (inv0 N) (get_replicate (N := N) (k := 0) (by omega))).1.cap
  unfold dfs0
  omega

end Go.Proofs.Ytbghcoihndlihaa
