/- Like, joined. -/
import Derived.Test.YteikpekffgifoaaGr1
namespace Go.Proofs.Yteikpekffgifoaa

/- likeInts of the laws. -/
section
open Go.ChangeShapes Go.WideShapes Go.ChangeAt Go.RowKit Go.Joins

set_option maxHeartbeats 400000 in
theorem likeInts_any (u v : Value) (xs ys : List Int) (w : World) (hu : RI w u xs) (hv : RI w v ys) :
    Calls Try.prog 14 #[u, v] w fun e w' => e = .returned (.bool (decide (xs = ys))) ∧ ∃ n, w' = w.drewN n := by
  obtain ⟨lx, A, c, rfl, hx⟩ := hu
  obtain ⟨ly, A', c', rfl, hy⟩ := hv
  by_cases hl : xs.length = ys.length
  · have hb : ((xs.length : Int) != (ys.length : Int)) = false := by simp [hl]
    have HL := Lib.hid hl
    clear hl
    have hle : (xs.length : Int) ≤ 9223372036854775807 := by omega
    go_enter Try.func14, Try.ntmps14
    go_wp2
    go_loopw [5] (fun i wr => ∃ k : Nat, k ≤ xs.length ∧ i = .int .i64 k ∧ Hid (xs.take k = ys.take k) ∧ ∃ m, wr = w.drewN m) (fun i _ => xs.length - (intOf i).toNat)
    case atStart => exact ⟨0, Nat.zero_le _, rfl, rfl, 0, rfl⟩
    case round =>
      obtain ⟨k, hk, rfl, htk, m, rfl⟩ := hrel
      by_cases hlt : k < xs.length
      · have hxk : xs[k]? = some xs[k] := List.getElem?_eq_getElem hlt
        have hlt' : k < ys.length := by have := HL.out; omega
        have hyk : ys[k]? = some ys[k] := List.getElem?_eq_getElem hlt'
        obtain ⟨b, off, rfl, hx'⟩ := hx (by rintro rfl; simp at hlt)
        obtain ⟨b', off', rfl, hy'⟩ := hy (by rintro rfl; simp at hlt')
        have hcx := hx' k _ hxk
        have hcy := hy' k _ hyk
        have Hxk := Lib.hid hxk
        have Hyk := Lib.hid hyk
        clear hx hy hx' hy' hxk hyk
        generalize hex : xs[k] = x at *
        generalize hey : ys[k] = y at *
        clear hex hey
        by_cases hxy : x = y
        · subst hxy
          go_wp2
          go_quiet (fail)
          go_wp2
          go_roundw
          case rel => exact ⟨k + 1, by omega, by go_num, take_eq_of htk.out Hxk.out Hyk.out, m + nq, by go_simp⟩
          case measure => simp [intOf]; omega
        · have hb' : (x != y) = true := by simpa using hxy
          have HE : Hid (decide (xs = ys) = false) := by
            have h : xs ≠ ys := by
              rintro rfl
              have h1 := Hxk.out
              rw [Hyk.out] at h1
              exact hxy (by injection h1 with h1; exact h1.symm)
            simpa [Hid] using h
          clear hxy
          go_wp2
          go_quiet (fail)
          go_wp2
          go_ret
          exact ⟨by rw [HE.out]; rfl, m + nq, by go_simp⟩
      · have hk' : k = xs.length := by omega
        have HE : Hid (decide (xs = ys) = true) := by
          have h := htk.out
          rw [hk', List.take_length, HL.out, List.take_length] at h
          simpa [Hid] using h
        subst hk'
        go_wp2
        go_ret
        exact ⟨by rw [HE.out]; rfl, m, rfl⟩
  · have hb : ((xs.length : Int) != (ys.length : Int)) = true := by simp; omega
    have hne : xs ≠ ys := fun h => hl (by rw [h])
    have HE : Hid (decide (xs = ys) = false) := by simp [Hid, hne]
    clear hne hl
    go_enter Try.func14, Try.ntmps14
    go_wp2
    go_ret
    exact ⟨by rw [HE.out]; rfl, 0, rfl⟩

theorem likeInts_same (u v : Value) (xs : List Int) (w : World) (hu : RI w u xs) (hv : RI w v xs) :
    Calls Try.prog 14 #[u, v] w fun e w' => e = .returned (.bool true) ∧ ∃ n, w' = w.drewN n :=
  (likeInts_any u v xs xs w hu hv).mono fun _ _ ⟨he, hw⟩ => ⟨by rw [he]; simp, hw⟩
end

end Go.Proofs.Yteikpekffgifoaa
