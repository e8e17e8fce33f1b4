/- The order of a walk in depth: each one that is reached is once in it, behind (read backwards) one of its preds; lists alone. -/
import Derived.Test.YteikpekffgifoaaDoorDfs
namespace Go.Proofs.YteikpekffgifoaaDoor

/-- From s to s' the ones in ns have been finished newly. -/
structure New (sc : Int → List Int) (s s' : List Bool × List Int) (ns : List Int) (R : Int → Prop) : Prop where
  len : s'.1.length = s.1.length
  mono : ∀ i : Nat, s.1[i]? = some true → s'.1[i]? = some true
  out : s'.2 = s.2 ++ ns
  nd : ns.Pairwise (· ≠ ·)
  mem : ∀ x, x ∈ ns ↔ ∃ i : Nat, x = (i : Int) ∧ s.1[i]? = some false ∧ s'.1[i]? = some true
  prd : ∀ (k : Nat) (x : Int), ns[k]? = some x → R x ∨ ∃ (j : Nat) (y : Int), k < j ∧ ns[j]? = some y ∧ x ∈ sc y

theorem New.refl (sc : Int → List Int) (s : List Bool × List Int) (R : Int → Prop) : New sc s s [] R :=
  ⟨rfl, fun _ h => h, by simp, List.Pairwise.nil, fun x => ⟨fun h => (by cases h), fun ⟨i, _, h1, h2⟩ => by rw [h1] at h2; cases h2⟩, fun k x h => (by simp at h)⟩
theorem New.trans {sc : Int → List Int} {s s1 s2 : List Bool × List Int} {n1 n2 : List Int} {R R1 R2 : Int → Prop} (h : New sc s s1 n1 R1) (k : New sc s1 s2 n2 R2) (h1 : ∀ x, R1 x → R x) (h2 : ∀ x, R2 x → R x) : New sc s s2 (n1 ++ n2) R := by
  refine ⟨k.len.trans h.len, fun i hi => k.mono i (h.mono i hi), by rw [k.out, h.out, List.append_assoc], List.pairwise_append.2 ⟨h.nd, k.nd, fun a ha b hb => ?_⟩, fun x => ?_, fun j x hx => ?_⟩
  · rintro rfl
    obtain ⟨i, rfl, _, hi⟩ := (h.mem _).1 ha
    obtain ⟨i', e, hi', _⟩ := (k.mem _).1 hb
    have : i = i' := by omega
    subst this
    rw [hi] at hi'; cases hi'
  · rw [List.mem_append]
    constructor
    · rintro (hx | hx)
      · obtain ⟨i, rfl, g1, g2⟩ := (h.mem _).1 hx
        exact ⟨i, rfl, g1, k.mono i g2⟩
      · obtain ⟨i, rfl, g1, g2⟩ := (k.mem _).1 hx
        refine ⟨i, rfl, ?_, g2⟩
        have hl : i < s.1.length := by rw [← h.len]; exact (List.getElem?_eq_some_iff.1 g1).1
        have hs : s.1[i]? = some s.1[i] := List.getElem?_eq_getElem hl
        cases hv : s.1[i]
        · rw [hs, hv]
        · rw [hv] at hs
          have := h.mono i hs
          rw [g1] at this; cases this
    · rintro ⟨i, rfl, g1, g2⟩
      have hl : i < s1.1.length := by rw [h.len]; exact (List.getElem?_eq_some_iff.1 g1).1
      have hs : s1.1[i]? = some s1.1[i] := List.getElem?_eq_getElem hl
      cases hv : s1.1[i]
      · rw [hv] at hs; exact .inr ((k.mem _).2 ⟨i, rfl, hs, g2⟩)
      · rw [hv] at hs; exact .inl ((h.mem _).2 ⟨i, rfl, g1, hs⟩)
  · by_cases hj : j < n1.length
    · rw [List.getElem?_append_left hj] at hx
      rcases h.prd j x hx with g | ⟨m, y, g1, g2, g3⟩
      · exact .inl (h1 x g)
      · exact .inr ⟨m, y, g1, by rw [List.getElem?_append_left (List.getElem?_eq_some_iff.1 g2).1]; exact g2, g3⟩
    · rw [List.getElem?_append_right (by omega)] at hx
      rcases k.prd _ x hx with g | ⟨m, y, g1, g2, g3⟩
      · exact .inl (h2 x g)
      · exact .inr ⟨n1.length + m, y, by omega, by rw [List.getElem?_append_right (by omega), show n1.length + m - n1.length = m by omega]; exact g2, g3⟩

section
variable {sc : Int → List Int} {N : Nat} (hsc : ∀ b : Nat, b < N → ∀ t ∈ sc b, 0 ≤ t ∧ t < (N : Int))
include hsc

theorem dlist_new {K : Nat} (n : Nat) (ih : ∀ (b : Nat) (s : List Bool × List Int), Inv N K s → s.1[b]? = some false → ∃ ns, New sc s (dfs sc n b s) ns (· = (b : Int))) :
    ∀ (ts : List Int) (s : List Bool × List Int), (∀ t ∈ ts, 0 ≤ t ∧ t < (N : Int)) → Inv N K s → ∃ ns, New sc s (dlist sc n ts s) ns (· ∈ ts)
  | [], s, _, _ => ⟨[], New.refl _ _ _⟩
  | t :: ts, s, ht, h => by
    rw [dlist_cons]
    have ht0 := ht t (by simp)
    obtain ⟨k, rfl⟩ : ∃ k : Nat, t = k := ⟨t.toNat, by omega⟩
    have hk : k < s.1.length := by rw [h.len]; omega
    have hsk : s.1[k]? = some s.1[k] := List.getElem?_eq_getElem hk
    have hst : Inv N K (dstep sc n s k) ∧ ∃ ns, New sc s (dstep sc n s k) ns (· = (k : Int)) := by
      unfold dstep
      rw [seenAt_of hsk]
      by_cases hv : s.1[k] = true
      · rw [if_pos hv]; exact ⟨h, [], New.refl _ _ _⟩
      · rw [if_neg hv]
        have hv' : s.1[k] = false := by simpa using hv
        rw [hv'] at hsk
        exact ⟨(dfs_inv hsc n k s h hsk).1, ih k s h hsk⟩
    obtain ⟨g1, n1, g2⟩ := hst
    obtain ⟨n2, g3⟩ := dlist_new n ih ts _ (fun u hu => ht u (by simp [hu])) g1
    exact ⟨n1 ++ n2, g2.trans g3 (fun x hx => by rw [hx]; simp) fun x hx => by simp [hx]⟩

theorem dfs_new {K : Nat} : ∀ (n : Nat) (b : Nat) (s : List Bool × List Int), Inv N K s → s.1[b]? = some false → ∃ ns, New sc s (dfs sc n b s) ns (· = (b : Int)) ∧ (n ≠ 0 → ∃ ms, ns = ms ++ [(b : Int)])
  | 0, _, s, _, _ => ⟨[], New.refl _ _ _, fun h => absurd rfl h⟩
  | n + 1, b, s, h, hb => by
    have hbN : b < N := by rw [← h.len]; exact (List.getElem?_eq_some_iff.1 hb).1
    have hcf := cf_set hb
    have hcap := h.cap
    have h0 : Inv N K (s.1.set b true, s.2) := ⟨by simp [h.len], by show s.2.length + cf (s.1.set b true) ≤ K; omega, h.mem⟩
    obtain ⟨ns, g⟩ := dlist_new hsc n (fun b' s' h1 h2 => let ⟨ns, g, _⟩ := dfs_new n b' s' h1 h2; ⟨ns, g⟩) (sc b) (s.1.set b true, s.2) (hsc b hbN) h0
    have hbs : (s.1.set b true)[b]? = some true := set_get_self (by rw [h.len]; exact hbN) true
    have hbt : (dlist sc n (sc b) (s.1.set b true, s.2)).1[b]? = some true := g.mono b hbs
    have hnb : (b : Int) ∉ ns := fun hm => by
      obtain ⟨i, e, g1, _⟩ := (g.mem _).1 hm
      have : b = i := by omega
      subst this
      have g1' : (s.1.set b true)[b]? = some false := g1
      rw [hbs] at g1'; cases g1'
    refine ⟨ns ++ [(b : Int)], ⟨?_, fun i hi => ?_, ?_, ?_, fun x => ?_, fun k x hx => ?_⟩, fun _ => ⟨ns, rfl⟩⟩
    · rw [dfs_succ, Int.toNat_natCast]
      have := g.len
      simpa using this
    · rw [dfs_succ, Int.toNat_natCast]
      refine g.mono i ?_
      show (s.1.set b true)[i]? = some true
      rw [set_get_other (by rintro rfl; rw [hb] at hi; cases hi)]; exact hi
    · rw [dfs_succ, Int.toNat_natCast]
      have := g.out
      show (dlist sc n (sc b) (s.1.set b true, s.2)).2 ++ [(b : Int)] = _
      rw [this, List.append_assoc]
    · refine List.pairwise_append.2 ⟨g.nd, List.pairwise_singleton _ _, fun a ha c hc => ?_⟩
      simp at hc
      subst hc
      rintro rfl
      exact hnb ha
    · rw [dfs_succ, Int.toNat_natCast, List.mem_append]
      constructor
      · rintro (hx | hx)
        · obtain ⟨i, rfl, g1, g2⟩ := (g.mem _).1 hx
          have g1' : (s.1.set b true)[i]? = some false := g1
          have hne : b ≠ i := by rintro rfl; rw [hbs] at g1'; cases g1'
          rw [set_get_other hne] at g1'
          exact ⟨i, rfl, g1', g2⟩
        · simp at hx
          subst hx
          exact ⟨b, rfl, hb, hbt⟩
      · rintro ⟨i, rfl, g1, g2⟩
        by_cases hne : b = i
        · subst hne; exact .inr (by simp)
        · refine .inl ((g.mem _).2 ⟨i, rfl, ?_, g2⟩)
          show (s.1.set b true)[i]? = some false
          rw [set_get_other hne]; exact g1
    · by_cases hk : k < ns.length
      · rw [List.getElem?_append_left hk] at hx
        rcases g.prd k x hx with g1 | ⟨j, y, g1, g2, g3⟩
        · exact .inr ⟨ns.length, b, hk, by simp, g1⟩
        · exact .inr ⟨j, y, g1, by rw [List.getElem?_append_left (List.getElem?_eq_some_iff.1 g2).1]; exact g2, g3⟩
      · rw [List.getElem?_append_right (by omega)] at hx
        have hk0 : k - ns.length = 0 := by
          have := (List.getElem?_eq_some_iff.1 hx).1
          simp at this; omega
        rw [hk0] at hx
        simp at hx
        exact .inl hx.symm

/-- The order of a function's blocks: the first one is 0; all that are reached, once each; behind one of its preds. -/
structure IsOrder (sc : Int → List Int) (N : Nat) (l : List Int) : Prop where
  head : ∃ T, l = 0 :: T
  nd : l.Pairwise (· ≠ ·)
  mem : ∀ x : Int, x ∈ l ↔ 0 ≤ x ∧ x < N ∧ Rch sc (-1) x
  prd : ∀ (k : Nat) (x : Int), l[k + 1]? = some x → ∃ (j : Nat) (y : Int), j < k + 1 ∧ l[j]? = some y ∧ x ∈ sc y

theorem dfs0_order (hN : 1 ≤ N) : IsOrder sc N (dfs0 sc N).2.reverse := by
  have h0 := get_replicate (N := N) (k := 0) (by omega)
  obtain ⟨ns, g, hms⟩ := dfs_new hsc N 0 _ (inv0 N) h0
  obtain ⟨ms, rfl⟩ := hms (by omega)
  have hr := dfs0_reach hsc hN
  have hout : (dfs0 sc N).2 = ms ++ [(0 : Int)] := by
    have := g.out
    show (dfs sc N (0 : Nat) (List.replicate N false, [])).2 = _
    rw [this]; rfl
  have hm : ∀ x : Int, x ∈ ms ++ [(0 : Int)] ↔ 0 ≤ x ∧ x < N ∧ Rch sc (-1) x := fun x => by
    rw [show ((0 : Int)) = (((0 : Nat)) : Int) from rfl, g.mem x]
    constructor
    · rintro ⟨i, rfl, g1, g2⟩
      have hi : i < N := by
        have := (List.getElem?_eq_some_iff.1 g1).1
        simpa using this
      exact ⟨by omega, by omega, (hr.2 i hi).1 g2⟩
    · rintro ⟨hx0, hxN, hx⟩
      obtain ⟨i, rfl⟩ : ∃ i : Nat, x = i := ⟨x.toNat, by omega⟩
      exact ⟨i, rfl, get_replicate (by omega), (hr.2 i (by omega)).2 hx⟩
  rw [hout]
  refine ⟨⟨ms.reverse, by simp⟩, ?_, fun x => by rw [List.mem_reverse]; exact hm x, fun k x hx => ?_⟩
  · rw [List.pairwise_reverse]
    exact g.nd.imp fun h => Ne.symm h
  · have hk : k + 1 < (ms ++ [(0 : Int)]).reverse.length := (List.getElem?_eq_some_iff.1 hx).1
    rw [List.length_reverse] at hk
    have hlen : (ms ++ [(0 : Int)]).length = ms.length + 1 := by simp
    rw [List.getElem?_reverse hk] at hx
    rcases g.prd _ x hx with e | ⟨j, y, g1, g2, g3⟩
    · exfalso
      subst e
      have hz : (ms ++ [(((0 : Nat)) : Int)])[ms.length]? = some (((0 : Nat)) : Int) := by simp
      obtain ⟨i1, e1⟩ := List.getElem?_eq_some_iff.1 hx
      obtain ⟨i2, e2⟩ := List.getElem?_eq_some_iff.1 hz
      have := List.pairwise_iff_getElem.1 g.nd _ _ i1 i2 (by omega)
      exact this (e1.trans e2.symm)
    · have hj := (List.getElem?_eq_some_iff.1 g2).1
      have hj' : j < (ms ++ [(0 : Int)]).length := hj
      refine ⟨(ms ++ [(0 : Int)]).length - 1 - j, y, by omega, ?_, g3⟩
      rw [List.getElem?_reverse (by omega), show (ms ++ [(0 : Int)]).length - 1 - ((ms ++ [(0 : Int)]).length - 1 - j) = j by omega]
      exact g2
end

end Go.Proofs.YteikpekffgifoaaDoor
