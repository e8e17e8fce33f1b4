/- M6, Eq, L2d, joined. -/
import Derived.Test.YteikpekffgifoaaDoorDm2
import Derived.Test.YteikpekffgifoaaDoorDm4
import Derived.Test.YteikpekffgifoaaDoorDm5
import Derived.Deep.RegionHeld3
namespace Go.Proofs.YteikpekffgifoaaDoor

/- sizesOk and predsOfAll of the program. -/
section
open Go.ChangeShapes Go.WideShapes Go.ChangeAt Go.RowKit Go.Joins

set_option maxHeartbeats 1000000 in
theorem sizesOk_any (f : FunD) (A : Option Addr) (c : Nat) (w : World) (hle : f.blocks.length ≤ 9223372036854775807) :
    Calls Tryd.prog 44 #[.agg #[.int .i64 f.params, .int .i64 f.names, .slice A f.blocks.length c]] w (GivesB (FrameHead f) w) := by
  have hB : Below w.heap.size w (w.alloc (.cells #[.int .i64 f.params, .int .i64 f.names, .slice A f.blocks.length c] 26)) := (Below.refl _ _).alloc (Nat.le_refl _) _
  by_cases h : FrameHead f
  · have HY := Lib.hid h
    obtain ⟨⟨h1, h2⟩, ⟨h3, h4⟩, ⟨h5, h6⟩, h7⟩ := h
    have h1' : 1 ≤ (f.blocks.length : Int) := by omega
    have h2' : (f.blocks.length : Int) ≤ 40 := by omega
    go_enter Tryd.func44, Tryd.ntmps44
    go_wp2
    go_ret
    refine ⟨true, ?_, by simpa using HY.out, hB⟩
    simp
    try omega
  · have HN := Lib.hid h
    by_cases h1 : 1 ≤ f.blocks.length
    case neg =>
      have h1' : (f.blocks.length : Int) < 1 := by omega
      clear h1 h
      go_enter Tryd.func44, Tryd.ntmps44
      go_wp2
      go_ret
      exact gives_no HN.out hB
    by_cases h2 : f.blocks.length ≤ 40
    case neg =>
      have h2' : (40 : Int) < (f.blocks.length : Int) := by omega
      clear h2 h
      go_enter Tryd.func44, Tryd.ntmps44
      go_wp2
      go_ret
      exact gives_no HN.out hB
    have h1' : 1 ≤ (f.blocks.length : Int) := by omega
    have h2' : (f.blocks.length : Int) ≤ 40 := by omega
    by_cases h3 : 0 ≤ f.params
    case neg =>
      have h3' : f.params < 0 := by omega
      clear h h3
      go_enter Tryd.func44, Tryd.ntmps44
      go_wp2
      go_ret
      exact gives_no HN.out hB
    by_cases h4 : f.params ≤ 6
    case neg =>
      have h4' : 6 < f.params := by omega
      clear h h4
      go_enter Tryd.func44, Tryd.ntmps44
      go_wp2
      go_ret
      exact gives_no HN.out hB
    by_cases h5 : f.params ≤ f.names
    case neg =>
      have h5' : f.names < f.params := by omega
      clear h h5
      go_enter Tryd.func44, Tryd.ntmps44
      go_wp2
      go_ret
      exact gives_no HN.out hB
    have h6 : 150 < f.names := by
      rcases Int.lt_or_le 150 f.names with h6 | h6
      · exact h6
      · exact absurd ⟨⟨h1, h2⟩, ⟨by omega, h6⟩, ⟨h3, h4⟩, h5⟩ h
    clear h
    go_enter Tryd.func44, Tryd.ntmps44
    go_wp2
    go_ret
    refine ⟨false, ?_, by simpa using HN.out, hB⟩
    simp
    try omega

theorem info_ints : (Tryd.prog.info? 29).map (fun i => (i.zero, i.size, i.bytes)) = some (some (.slice none 0 0), 1, 24) := by kernel_rfl

def GivesPRow (n : Nat) (row : Nat → List Int) (w : World) (e : Ending) (w' : World) : Prop := e = .returned (.slice (some ⟨w.heap.size, 0, none⟩) n n) ∧ PRow w' (w.heap.size + 1) w.heap.size n row ∧ Below w.heap.size w w'

set_option maxRecDepth 10000 in
set_option maxHeartbeats 1000000 in
theorem predsOfAll_any (v : Value) (xs : List BlockD) (w : World) (Z : Zn) (hv : Row w Z 8 (EBlock w Z) v xs) (hD : ∀ b, Z.D b → b < w.heap.size) (hn : xs.length ≤ 1048576) :
    Calls Tryd.prog 45 #[v] w (GivesPRow xs.length (fun j => predsK succsE xs xs.length j) w) := by
  obtain ⟨_, A, c, rfl, hx⟩ := hv
  obtain ⟨i0, hi, hz0, hz1, hz2⟩ := info_parts info_ints
  have hmk := fun W => run_make_rowN (P := Tryd.prog) 72 29 i0 _ Tryd.underlying72 hi hz0 .i64 .i64 xs.length xs.length (Nat.le_refl _) (by rw [hz2]; omega) (by omega) W
  rw [hz1] at hmk
  clear hi hz0 hz1 hz2
  go_enter Tryd.func45, Tryd.ntmps45
  go_wp2
  go_loopw [13] (fun i wr => ∃ k : Nat, k ≤ xs.length ∧ i = .int .i64 k ∧ Hid (Below w.heap.size w wr) ∧ w.heap.size < wr.heap.size ∧ Hid (PRow wr (w.heap.size + 1) w.heap.size xs.length (fun j => predsK succsE xs k j))) (fun i _ => xs.length - (intOf i).toNat)
  case atStart => exact ⟨0, Nat.zero_le _, rfl, (Below.refl _ _).alloc (Nat.le_refl _) _, by simp, PRow.start xs.length⟩
  case round =>
    obtain ⟨k, hk, rfl, HB, hsz, HP⟩ := hrel
    by_cases hlt : k < xs.length
    case neg =>
      obtain rfl : k = xs.length := by omega
      go_wp2
      go_ret
      exact ⟨rfl, HP.out, HB.out⟩
    have hxk : xs[k]? = some xs[k] := List.getElem?_eq_getElem hlt
    generalize xs[k] = x at hxk
    obtain ⟨b, off, rfl, hDb, hrow⟩ := hx (by rintro rfl; simp at hlt)
    obtain ⟨cs, hE, hcs⟩ := hrow k x hxk
    have hbl := hD b hDb
    obtain ⟨v0, v1, v2, v3, rfl, ⟨_, A0, q0, rfl, _⟩, ⟨_, A1, q1, rfl, _⟩, ⟨_, A2, q2, rfl, _⟩, ⟨_, A3, q3, rfl, _⟩⟩ := hE
    have c0 : wr.cell? ⟨b, off + k * 8, none⟩ = some (.slice A0 x.phis.length q0) := (HB.out.cell (p := ⟨b, _, none⟩) hbl).trans (hcs 0 _ rfl).1
    have c1 : wr.cell? ⟨b, off + k * 8 + 1, none⟩ = some (.slice A1 x.head.length q1) := (HB.out.cell (p := ⟨b, _, none⟩) hbl).trans (hcs 1 _ rfl).1
    have c2 : wr.cell? ⟨b, off + k * 8 + 2, none⟩ = some (.slice A2 x.body.length q2) := (HB.out.cell (p := ⟨b, _, none⟩) hbl).trans (hcs 2 _ rfl).1
    have c3 : wr.cell? ⟨b, off + k * 8 + 3, none⟩ = some (.slice A3 x.tail.length q3) := (HB.out.cell (p := ⟨b, _, none⟩) hbl).trans (hcs 3 _ rfl).1
    have c4 : wr.cell? ⟨b, off + k * 8 + 4, none⟩ = some (.int .i64 x.fin.k) := (HB.out.cell (p := ⟨b, _, none⟩) hbl).trans (hcs 4 _ rfl).1
    have c5 : wr.cell? ⟨b, off + k * 8 + 5, none⟩ = some (.int .i64 x.fin.a) := (HB.out.cell (p := ⟨b, _, none⟩) hbl).trans (hcs 5 _ rfl).1
    have c6 : wr.cell? ⟨b, off + k * 8 + 6, none⟩ = some (.int .i64 x.fin.t) := (HB.out.cell (p := ⟨b, _, none⟩) hbl).trans (hcs 6 _ rfl).1
    have c7 : wr.cell? ⟨b, off + k * 8 + 7, none⟩ = some (.int .i64 x.fin.l) := (HB.out.cell (p := ⟨b, _, none⟩) hbl).trans (hcs 7 _ rfl).1
    have Hxk := Lib.hid hxk
    clear hcs hx hxk hrow
    go_wp2_with fail
    refine (SuccsOf_any _ _ _ _ _).mono ?_
    rintro e w1 ⟨r, rfl, hr, hb1⟩
    have hz1 : wr.heap.size + 1 ≤ w1.heap.size := by have := hb1.size; simp at this; omega
    have HB1 := Lib.hid ((HB.out.alloc (Nat.le_of_lt hsz) _).trans (hb1.mono (by simp; omega)))
    have HPa := HP.out.below ((Below.refl _ _).trans (((Below.refl wr.heap.size wr).alloc (Nat.le_refl _) _).trans (hb1.mono (by simp))))
    have hu := hr.ri
    have HW := Lib.hid hr
    have hul := succsL_len x.fin.k x.fin.a x.fin.t x.fin.l
    have HND := Lib.hid (succsL_nodup x.fin.k x.fin.a x.fin.t x.fin.l)
    have HAll : Hid (∀ j, rowM xs (succsL x.fin.k x.fin.a x.fin.t x.fin.l) k (succsL x.fin.k x.fin.a x.fin.t x.fin.l).length j = predsK succsE xs (k + 1) j) := fun j => rowM_all Hxk.out j
    have HP1 : Hid (PRow w1 (w.heap.size + 1) w.heap.size xs.length (rowM xs (succsL x.fin.k x.fin.a x.fin.t x.fin.l) k 0)) := HPa.congr fun j _ => rowM_zero xs _ k j
    have HAV : Hid (PAvoid w1 w.heap.size wr.heap.size w1.heap.size) := (PAvoid.start HP.out _).below (((Below.refl wr.heap.size wr).alloc (Nat.le_refl _) _).trans (hb1.mono (by simp))) hsz
    clear hb1 HPa HB HP hr
    generalize succsL x.fin.k x.fin.a x.fin.t x.fin.l = us at hu hul HND HAll HP1 HW
    obtain ⟨_, A5, q5, rfl, _⟩ := hu
    go_wp2_with fail
    clear c0 c1 c2 c3 c4 c5 c6 c7
    have HW1 : Hid (OI w1 (wr.heap.size + 1) (.slice A5 us.length q5) us) := World.ownsRow.mono HW.out (by simp)
    clear HW
    obtain ⟨lo, hlo⟩ : ∃ lo, lo = wr.heap.size := ⟨_, rfl⟩
    rw [← hlo] at HAV HW1 hz1 hsz
    have hlo' : lo ≤ wr.heap.size := by omega
    clear hlo
    go_loopw [22] (fun q wq => ∃ m : Nat, m ≤ us.length ∧ q = .int .i64 m ∧ Hid (Below w.heap.size w wq) ∧ w1.heap.size ≤ wq.heap.size ∧ Hid (PRow wq (w.heap.size + 1) w.heap.size xs.length (rowM xs us k m)) ∧ Hid (PAvoid wq w.heap.size lo w1.heap.size) ∧ Hid (OI wq (lo + 1) (.slice A5 us.length q5) us)) (fun q _ => us.length - (intOf q).toNat)
    case atStart => exact ⟨0, Nat.zero_le _, rfl, HB1.out, Nat.le_refl _, HP1.out, HAV.out, HW1.out⟩
    case round =>
      obtain ⟨m, hm, rfl, HBq, hsq, HPq, HAq, HOq⟩ := hrel
      by_cases hml : m < us.length
      case neg =>
        obtain rfl : m = us.length := by omega
        go_wp2
        go_roundw
        case rel => exact ⟨k + 1, by omega, by go_num, HBq.out, by omega, HPq.out.congr fun j _ => (HAll.out j).symm⟩
        case measure => simp [intOf]; omega
      have hum : us[m]? = some us[m] := List.getElem?_eq_getElem hml
      generalize us[m] = u at hum
      obtain ⟨_, A6, q6, he6, hux⟩ := HOq.out.ri
      injection he6 with e1 _ e2
      subst e1 e2
      obtain ⟨b', off', rfl, hcell⟩ := hux (by rintro rfl; simp at hml)
      have p0 := hcell m u hum
      have Hum := Lib.hid hum
      clear hcell hux hum
      cases hun : isBelowB u xs.length
      · have hcg : Hid (PRow wr (w.heap.size + 1) w.heap.size xs.length (rowM xs us k (m + 1))) := HPq.out.congr fun j hj => rowM_other Hum.out fun e => by
          subst e
          simp [isBelowB] at hun
          omega
        go_wp2_with (go_at_call 47; refine (isBelow_any _ _ _).mono ?_; rintro e w' ⟨rfl, rfl⟩)
        go_roundw
        case rel => exact ⟨m + 1, by omega, by go_num, HBq.out, hsq, hcg, HAq.out, HOq.out⟩
        case measure => simp [intOf]; omega
      have hul0 : 0 ≤ u ∧ u < xs.length := by simpa [isBelowB] using hun
      obtain ⟨t, rfl⟩ : ∃ t : Nat, u = t := ⟨u.toNat, by omega⟩
      have htn : t < xs.length := by omega
      have htn' : (t : Int) < (xs.length : Int) := by omega
      have ht0 : 0 ≤ (t : Int) := by omega
      obtain ⟨v, hcv, hov⟩ := HPq.out.get htn
      have hfz := HPq.out.frozen t
      have hrl := rowM_len xs us k m t
      have HOV := Lib.hid hov
      obtain ⟨_, A7, q7, rfl, _⟩ := hov.ri
      clear hov hul0
      have hne : some w.heap.size ≠ (Value.slice A7 (rowM xs us k m t).length q7).ownBlock := fun e => by have := (HOV.out.lt _ e.symm).1; omega
      have hGw : w.heap.size < wr.heap.size := by omega
      go_wp2_with (first
        | (go_at_call 47; refine (isBelow_any _ _ _).mono ?_; rintro e w' ⟨rfl, rfl⟩)
        | (at_builtin; go_must (refine wpList_append_int rfl (.tmp 35) (.tmp 37) rfl (w.heap.size + 1) _ (rowM xs us k m t) k wr rfl HOV.out rfl (by omega) (by omega) ?_; intro v' w2 hown2 hg2 hat2; have HO2 := Lib.hid hown2; have HG2 := Lib.hid hg2; have HA2 := Lib.hid hat2; obtain ⟨_, A8, q8, rfl, _⟩ := hown2.ri; have d0 := (World.cell?_of_block (a := ⟨w.heap.size, t, none⟩) (hg2.block _ hGw hne)).trans hcv; have df := (World.frozen?_of_block (a := ⟨w.heap.size, t, none⟩) (hg2.block _ hGw hne)).trans hfz; clear hown2 hg2 hat2)))
      have HPn := Lib.hid (HPq.out.append htn rfl hcv HO2.out HG2.out HA2.out)
      have HAn := Lib.hid (HAq.out.append hGw hne hcv HG2.out HA2.out hsq)
      have hb5 := HW1.out.lt b' rfl
      have hus : (Value.slice (some ⟨b', off', none⟩) us.length q5).ownBlock ≠ (Value.slice A7 (rowM xs us k m t).length q7).ownBlock := fun e => by
        have := HAq.out t _ b' hcv e.symm
        omega
      have HOn := Lib.hid ((HOq.out.grown HG2.out (.inr hus)).grown (set_grown w2 w.heap.size t (.slice A8 (rowM xs us k m t ++ [(k : Int)]).length q8)) (.inr fun e => by injection e with e; simp at e; omega))
      have HBn := Lib.hid ((HBq.out.grown HG2.out (by omega) (fun kk hkk => by have := (HOV.out.lt kk hkk).1; omega)).setCell (p := ⟨w.heap.size, t, none⟩) (Nat.le_refl _) (.slice A8 (rowM xs us k m t ++ [(k : Int)]).length q8))
      have hz2 := HG2.out.size
      have HPn' : Hid (PRow (w2.setCell ⟨w.heap.size, t, none⟩ (.slice A8 (rowM xs us k m t ++ [(k : Int)]).length q8)) (w.heap.size + 1) w.heap.size xs.length (rowM xs us k (m + 1))) := HPn.out.congr fun i _ => by
        by_cases e : i = t
        · subst e
          rw [if_pos rfl, rowM_same HND.out Hum.out]
        · rw [if_neg e]
          exact rowM_other Hum.out fun h => e (by omega)
      have el : (rowM xs us k m t ++ [(k : Int)]).length = (rowM xs us k m t).length + 1 := by simp
      rw [el] at HBn HPn' HAn HOn
      clear el HPn HO2 HG2 HA2 HAq HPq HOq HBq HOV hcv p0 hfz d0 df hb5
      go_wp2_with fail
      go_roundw
      case rel => exact ⟨m + 1, by omega, by go_num, HBn.out, by rw [nblk_set]; omega, HPn'.out, HAn.out, HOn.out⟩
      case measure => simp [intOf]; omega
end

/- eqFun of the laws and what it calls: at two values that read alike it answers true. -/
section
open Go.ChangeShapes Go.WideShapes Go.ChangeAt Go.RowKit Go.Joins

theorem Row.ri {w : World} {Z : Zn} {v : Value} {xs : List Int} (h : Row w Z 1 EInt v xs) : RI w v xs := by
  obtain ⟨h1, A, c, rfl, h2⟩ := h
  refine ⟨h1, A, c, rfl, fun hne => ?_⟩
  obtain ⟨b, off, rfl, _, h3⟩ := h2 hne
  refine ⟨b, off, rfl, fun k u hu => ?_⟩
  obtain ⟨cs, rfl, h4⟩ := h3 k u hu
  have := (h4 0 _ rfl).1
  rwa [Nat.mul_one] at this

/-- The call answers true, and old memory stays. -/
def Says (b : Bool) (w : World) (e : Ending) (w' : World) : Prop := e = .returned (.bool b) ∧ Below w.heap.size w w'
theorem below_drew {w : World} : Below w.heap.size w w.drew := (Below.refl w.heap.size w).drew

set_option maxHeartbeats 400000 in
theorem eqMove_same (a b : Int) (w : World) : Calls Tryd.prog 109 #[.agg #[.int .i64 a, .int .i64 b], .agg #[.int .i64 a, .int .i64 b]] w (Says true w) := by
  go_enter Tryd.func109, Tryd.ntmps109
  go_wp2
  go_ret
  exact ⟨rfl, ((Below.refl _ _).alloc (Nat.le_refl _) _).alloc (by simp) _⟩

set_option maxHeartbeats 400000 in
theorem eqIns_same (a b c d : Int) (w : World) : Calls Tryd.prog 110 #[.agg #[.int .i64 a, .int .i64 b, .int .i64 c, .int .i64 d], .agg #[.int .i64 a, .int .i64 b, .int .i64 c, .int .i64 d]] w (Says true w) := by
  go_enter Tryd.func110, Tryd.ntmps110
  go_wp2
  go_ret
  exact ⟨rfl, ((Below.refl _ _).alloc (Nat.le_refl _) _).alloc (by simp) _⟩

set_option maxHeartbeats 400000 in
theorem eqEnd_same (a b c d : Int) (w : World) : Calls Tryd.prog 94 #[.agg #[.int .i64 a, .int .i64 b, .int .i64 c, .int .i64 d], .agg #[.int .i64 a, .int .i64 b, .int .i64 c, .int .i64 d]] w (Says true w) := by
  go_enter Tryd.func94, Tryd.ntmps94
  go_wp2
  go_ret
  exact ⟨rfl, ((Below.refl _ _).alloc (Nat.le_refl _) _).alloc (by simp) _⟩

set_option maxHeartbeats 400000 in
theorem eqPhi_same (a : Int) (u v : Value) (xs : List Int) (w : World) (Z Z' : Zn) (hu : Row w Z 1 EInt u xs) (hv : Row w Z' 1 EInt v xs) (hD : ∀ b, Z.D b → b < w.heap.size) (hD' : ∀ b, Z'.D b → b < w.heap.size) :
    Calls Tryd.prog 108 #[.agg #[.int .i64 a, u], .agg #[.int .i64 a, v]] w (Says true w) := by
  have HU := Lib.hid hu
  have HV := Lib.hid hv
  obtain ⟨_, A, c, rfl, _⟩ := hu
  obtain ⟨_, A', c', rfl, _⟩ := hv
  go_enter Tryd.func108, Tryd.ntmps108
  go_wp2_with fail
  have hK : ∀ V : World, Below w.heap.size w V → (∀ Z : Zn, (∀ b, Z.D b → b < w.heap.size) → Kept Z Z w V) := fun V hb Z hD => Kept.below hb hD
  refine (eqInt64S_same _ _ xs _ (HU.out.keep (hK _ (((Below.refl _ _).alloc (Nat.le_refl _) _).alloc (by simp) _) _ hD) fun _ _ h => h).ri (HV.out.keep (hK _ (((Below.refl _ _).alloc (Nat.le_refl _) _).alloc (by simp) _) _ hD') fun _ _ h => h).ri).mono ?_
  rintro e w1 ⟨rfl, n, rfl⟩
  go_wp2_with fail
  go_ret
  exact ⟨rfl, below_drewN (((Below.refl _ _).alloc (Nat.le_refl _) _).alloc (by simp) _) n⟩

set_option maxHeartbeats 400000 in
theorem eqMoveS_same (u v : Value) (xs : List MoveD) (w : World) (Z Z' : Zn) (hu : Row w Z 2 EMove u xs) (hv : Row w Z' 2 EMove v xs) (hD : ∀ b, Z.D b → b < w.heap.size) (hD' : ∀ b, Z'.D b → b < w.heap.size) :
    Calls Tryd.prog 92 #[u, v] w (Says true w) := by
  obtain ⟨hle, A, c, rfl, hx⟩ := hu
  obtain ⟨_, A', c', rfl, hy⟩ := hv
  go_enter Tryd.func92, Tryd.ntmps92
  go_wp2
  go_loopw [5] (fun i wr => ∃ k : Nat, k ≤ xs.length ∧ i = .int .i64 k ∧ Hid (Below w.heap.size w wr)) (fun i _ => xs.length - (intOf i).toNat)
  case atStart => exact ⟨0, Nat.zero_le _, rfl, Below.refl _ _⟩
  case round =>
    obtain ⟨k, hk, rfl, HB⟩ := hrel
    by_cases hlt : k < xs.length
    · have hxk : xs[k]? = some xs[k] := List.getElem?_eq_getElem hlt
      generalize xs[k] = x at hxk
      obtain ⟨b, off, rfl, hDb, hrow⟩ := hx (by rintro rfl; simp at hlt)
      obtain ⟨b', off', rfl, hDb', hrow'⟩ := hy (by rintro rfl; simp at hlt)
      obtain ⟨cs, hE, hcs⟩ := hrow k x hxk
      obtain ⟨cs', hE', hcs'⟩ := hrow' k x hxk
      have hbl := hD b hDb
      have hbl' := hD' b' hDb'
      have hz := HB.out.size
      have hbw : b < wr.heap.size := by omega
      have hbw' : b' < wr.heap.size := by omega
      subst hE hE'
      have c0 : wr.cell? ⟨b, off + k * 2, none⟩ = some (.int .i64 x.dst) := (HB.out.cell (p := ⟨b, _, none⟩) hbl).trans (hcs 0 _ rfl).1
      have c1 : wr.cell? ⟨b, off + k * 2 + 1, none⟩ = some (.int .i64 x.src) := (HB.out.cell (p := ⟨b, _, none⟩) hbl).trans (hcs 1 _ rfl).1
      have p0 : wr.cell? ⟨b', off' + k * 2, none⟩ = some (.int .i64 x.dst) := (HB.out.cell (p := ⟨b', _, none⟩) hbl').trans (hcs' 0 _ rfl).1
      have p1 : wr.cell? ⟨b', off' + k * 2 + 1, none⟩ = some (.int .i64 x.src) := (HB.out.cell (p := ⟨b', _, none⟩) hbl').trans (hcs' 1 _ rfl).1
      clear hcs hrow hx hcs' hrow' hy hxk
      have keepS : ∀ w1 : World, Below wr.heap.size wr w1 → (fun w' => Below wr.heap.size wr w' ∧ w'.cell? ⟨b, off + k * 2, none⟩ = some (.int .i64 x.dst) ∧ w'.cell? ⟨b, off + k * 2 + 1, none⟩ = some (.int .i64 x.src) ∧ w'.cell? ⟨b', off' + k * 2, none⟩ = some (.int .i64 x.dst) ∧ w'.cell? ⟨b', off' + k * 2 + 1, none⟩ = some (.int .i64 x.src)) w1 := fun w1 hb => ⟨hb, (hb.cell (p := ⟨b, _, none⟩) hbw).trans c0, (hb.cell (p := ⟨b, _, none⟩) hbw).trans c1, (hb.cell (p := ⟨b', _, none⟩) hbw').trans p0, (hb.cell (p := ⟨b', _, none⟩) hbw').trans p1⟩
      have K := keepS _ (Below.refl _ _)
      have Kd := keepS _ below_drew
      go_wp2_with fail
      go_region_held3 (fun w' => Below wr.heap.size wr w' ∧ w'.cell? ⟨b, off + k * 2, none⟩ = some (.int .i64 x.dst) ∧ w'.cell? ⟨b, off + k * 2 + 1, none⟩ = some (.int .i64 x.src) ∧ w'.cell? ⟨b', off' + k * 2, none⟩ = some (.int .i64 x.dst) ∧ w'.cell? ⟨b', off' + k * 2 + 1, none⟩ = some (.int .i64 x.src)) (first | exact Kd | exact K | exact K5 | fail)
        (first
        | (go_at_call 109; have := (show _ ∧ _ by assumption); refine (eqMove_same _ _ _).mono ?_; rintro e w5 ⟨rfl, hb5⟩; have K5 := keepS _ (this.1.trans (hb5.mono this.1.size))))
      go_wp2_with fail
      have HB5 := Lib.hid (HB.out.trans (K5.1.mono hz))
      clear K Kd K5 keepS
      go_roundw
      case rel => exact ⟨k + 1, by omega, by go_num, HB5.out⟩
      case measure => simp [intOf]; omega
    · obtain rfl : k = xs.length := by omega
      go_wp2
      go_ret
      exact ⟨rfl, HB.out⟩

set_option maxHeartbeats 400000 in
theorem eqInsS_same (u v : Value) (xs : List InsD) (w : World) (Z Z' : Zn) (hu : Row w Z 4 EIns u xs) (hv : Row w Z' 4 EIns v xs) (hD : ∀ b, Z.D b → b < w.heap.size) (hD' : ∀ b, Z'.D b → b < w.heap.size) :
    Calls Tryd.prog 93 #[u, v] w (Says true w) := by
  obtain ⟨hle, A, c, rfl, hx⟩ := hu
  obtain ⟨_, A', c', rfl, hy⟩ := hv
  go_enter Tryd.func93, Tryd.ntmps93
  go_wp2
  go_loopw [5] (fun i wr => ∃ k : Nat, k ≤ xs.length ∧ i = .int .i64 k ∧ Hid (Below w.heap.size w wr)) (fun i _ => xs.length - (intOf i).toNat)
  case atStart => exact ⟨0, Nat.zero_le _, rfl, Below.refl _ _⟩
  case round =>
    obtain ⟨k, hk, rfl, HB⟩ := hrel
    by_cases hlt : k < xs.length
    · have hxk : xs[k]? = some xs[k] := List.getElem?_eq_getElem hlt
      generalize xs[k] = x at hxk
      obtain ⟨b, off, rfl, hDb, hrow⟩ := hx (by rintro rfl; simp at hlt)
      obtain ⟨b', off', rfl, hDb', hrow'⟩ := hy (by rintro rfl; simp at hlt)
      obtain ⟨cs, hE, hcs⟩ := hrow k x hxk
      obtain ⟨cs', hE', hcs'⟩ := hrow' k x hxk
      have hbl := hD b hDb
      have hbl' := hD' b' hDb'
      have hz := HB.out.size
      have hbw : b < wr.heap.size := by omega
      have hbw' : b' < wr.heap.size := by omega
      subst hE hE'
      have c0 : wr.cell? ⟨b, off + k * 4, none⟩ = some (.int .i64 x.op) := (HB.out.cell (p := ⟨b, _, none⟩) hbl).trans (hcs 0 _ rfl).1
      have c1 : wr.cell? ⟨b, off + k * 4 + 1, none⟩ = some (.int .i64 x.v) := (HB.out.cell (p := ⟨b, _, none⟩) hbl).trans (hcs 1 _ rfl).1
      have c2 : wr.cell? ⟨b, off + k * 4 + 2, none⟩ = some (.int .i64 x.a) := (HB.out.cell (p := ⟨b, _, none⟩) hbl).trans (hcs 2 _ rfl).1
      have c3 : wr.cell? ⟨b, off + k * 4 + 3, none⟩ = some (.int .i64 x.b) := (HB.out.cell (p := ⟨b, _, none⟩) hbl).trans (hcs 3 _ rfl).1
      have p0 : wr.cell? ⟨b', off' + k * 4, none⟩ = some (.int .i64 x.op) := (HB.out.cell (p := ⟨b', _, none⟩) hbl').trans (hcs' 0 _ rfl).1
      have p1 : wr.cell? ⟨b', off' + k * 4 + 1, none⟩ = some (.int .i64 x.v) := (HB.out.cell (p := ⟨b', _, none⟩) hbl').trans (hcs' 1 _ rfl).1
      have p2 : wr.cell? ⟨b', off' + k * 4 + 2, none⟩ = some (.int .i64 x.a) := (HB.out.cell (p := ⟨b', _, none⟩) hbl').trans (hcs' 2 _ rfl).1
      have p3 : wr.cell? ⟨b', off' + k * 4 + 3, none⟩ = some (.int .i64 x.b) := (HB.out.cell (p := ⟨b', _, none⟩) hbl').trans (hcs' 3 _ rfl).1
      clear hcs hrow hx hcs' hrow' hy hxk
      have keepS : ∀ w1 : World, Below wr.heap.size wr w1 → (fun w' => Below wr.heap.size wr w' ∧ w'.cell? ⟨b, off + k * 4, none⟩ = some (.int .i64 x.op) ∧ w'.cell? ⟨b, off + k * 4 + 1, none⟩ = some (.int .i64 x.v) ∧ w'.cell? ⟨b, off + k * 4 + 2, none⟩ = some (.int .i64 x.a) ∧ w'.cell? ⟨b, off + k * 4 + 3, none⟩ = some (.int .i64 x.b) ∧ w'.cell? ⟨b', off' + k * 4, none⟩ = some (.int .i64 x.op) ∧ w'.cell? ⟨b', off' + k * 4 + 1, none⟩ = some (.int .i64 x.v) ∧ w'.cell? ⟨b', off' + k * 4 + 2, none⟩ = some (.int .i64 x.a) ∧ w'.cell? ⟨b', off' + k * 4 + 3, none⟩ = some (.int .i64 x.b)) w1 := fun w1 hb => ⟨hb, (hb.cell (p := ⟨b, _, none⟩) hbw).trans c0, (hb.cell (p := ⟨b, _, none⟩) hbw).trans c1, (hb.cell (p := ⟨b, _, none⟩) hbw).trans c2, (hb.cell (p := ⟨b, _, none⟩) hbw).trans c3, (hb.cell (p := ⟨b', _, none⟩) hbw').trans p0, (hb.cell (p := ⟨b', _, none⟩) hbw').trans p1, (hb.cell (p := ⟨b', _, none⟩) hbw').trans p2, (hb.cell (p := ⟨b', _, none⟩) hbw').trans p3⟩
      have K := keepS _ (Below.refl _ _)
      have Kd := keepS _ below_drew
      go_wp2_with fail
      go_region_held3 (fun w' => Below wr.heap.size wr w' ∧ w'.cell? ⟨b, off + k * 4, none⟩ = some (.int .i64 x.op) ∧ w'.cell? ⟨b, off + k * 4 + 1, none⟩ = some (.int .i64 x.v) ∧ w'.cell? ⟨b, off + k * 4 + 2, none⟩ = some (.int .i64 x.a) ∧ w'.cell? ⟨b, off + k * 4 + 3, none⟩ = some (.int .i64 x.b) ∧ w'.cell? ⟨b', off' + k * 4, none⟩ = some (.int .i64 x.op) ∧ w'.cell? ⟨b', off' + k * 4 + 1, none⟩ = some (.int .i64 x.v) ∧ w'.cell? ⟨b', off' + k * 4 + 2, none⟩ = some (.int .i64 x.a) ∧ w'.cell? ⟨b', off' + k * 4 + 3, none⟩ = some (.int .i64 x.b)) (first | exact Kd | exact K | exact K5 | fail)
        (first
        | (go_at_call 110; have := (show _ ∧ _ by assumption); refine (eqIns_same _ _ _ _ _).mono ?_; rintro e w5 ⟨rfl, hb5⟩; have K5 := keepS _ (this.1.trans (hb5.mono this.1.size))))
      go_wp2_with fail
      have HB5 := Lib.hid (HB.out.trans (K5.1.mono hz))
      clear K Kd K5 keepS
      go_roundw
      case rel => exact ⟨k + 1, by omega, by go_num, HB5.out⟩
      case measure => simp [intOf]; omega
    · obtain rfl : k = xs.length := by omega
      go_wp2
      go_ret
      exact ⟨rfl, HB.out⟩

set_option maxHeartbeats 400000 in
theorem eqPhiS_same (u v : Value) (xs : List PhiD) (w : World) (Z Z' : Zn) (hu : Row w Z 2 (EPhi w Z) u xs) (hv : Row w Z' 2 (EPhi w Z') v xs) (hD : ∀ b, Z.D b → b < w.heap.size) (hD' : ∀ b, Z'.D b → b < w.heap.size) :
    Calls Tryd.prog 91 #[u, v] w (Says true w) := by
  obtain ⟨hle, A, c, rfl, hx⟩ := hu
  obtain ⟨_, A', c', rfl, hy⟩ := hv
  go_enter Tryd.func91, Tryd.ntmps91
  go_wp2
  go_loopw [5] (fun i wr => ∃ k : Nat, k ≤ xs.length ∧ i = .int .i64 k ∧ Hid (Below w.heap.size w wr)) (fun i _ => xs.length - (intOf i).toNat)
  case atStart => exact ⟨0, Nat.zero_le _, rfl, Below.refl _ _⟩
  case round =>
    obtain ⟨k, hk, rfl, HB⟩ := hrel
    by_cases hlt : k < xs.length
    · have hxk : xs[k]? = some xs[k] := List.getElem?_eq_getElem hlt
      generalize xs[k] = x at hxk
      obtain ⟨b, off, rfl, hDb, hrow⟩ := hx (by rintro rfl; simp at hlt)
      obtain ⟨b', off', rfl, hDb', hrow'⟩ := hy (by rintro rfl; simp at hlt)
      obtain ⟨cs, hE, hcs⟩ := hrow k x hxk
      obtain ⟨cs', hE', hcs'⟩ := hrow' k x hxk
      have hbl := hD b hDb
      have hbl' := hD' b' hDb'
      have hz := HB.out.size
      have hbw : b < wr.heap.size := by omega
      have hbw' : b' < wr.heap.size := by omega
      obtain ⟨q, rfl, hq⟩ := hE
      obtain ⟨q', rfl, hq'⟩ := hE'
      have HQ := Lib.hid (hq.keep (Kept.below HB.out hD) fun _ _ h => h)
      have HQ' := Lib.hid (hq'.keep (Kept.below HB.out hD') fun _ _ h => h)
      clear hq hq'

      have c0 : wr.cell? ⟨b, off + k * 2, none⟩ = some (.int .i64 x.v) := (HB.out.cell (p := ⟨b, _, none⟩) hbl).trans (hcs 0 _ rfl).1
      have c1 : wr.cell? ⟨b, off + k * 2 + 1, none⟩ = some q := (HB.out.cell (p := ⟨b, _, none⟩) hbl).trans (hcs 1 _ rfl).1
      have p0 : wr.cell? ⟨b', off' + k * 2, none⟩ = some (.int .i64 x.v) := (HB.out.cell (p := ⟨b', _, none⟩) hbl').trans (hcs' 0 _ rfl).1
      have p1 : wr.cell? ⟨b', off' + k * 2 + 1, none⟩ = some q' := (HB.out.cell (p := ⟨b', _, none⟩) hbl').trans (hcs' 1 _ rfl).1
      clear hcs hrow hx hcs' hrow' hy hxk
      have keepS : ∀ w1 : World, Below wr.heap.size wr w1 → (fun w' => Below wr.heap.size wr w' ∧ w'.cell? ⟨b, off + k * 2, none⟩ = some (.int .i64 x.v) ∧ w'.cell? ⟨b, off + k * 2 + 1, none⟩ = some q ∧ w'.cell? ⟨b', off' + k * 2, none⟩ = some (.int .i64 x.v) ∧ w'.cell? ⟨b', off' + k * 2 + 1, none⟩ = some q') w1 := fun w1 hb => ⟨hb, (hb.cell (p := ⟨b, _, none⟩) hbw).trans c0, (hb.cell (p := ⟨b, _, none⟩) hbw).trans c1, (hb.cell (p := ⟨b', _, none⟩) hbw').trans p0, (hb.cell (p := ⟨b', _, none⟩) hbw').trans p1⟩
      have K := keepS _ (Below.refl _ _)
      have Kd := keepS _ below_drew
      go_wp2_with fail
      go_region_held3 (fun w' => Below wr.heap.size wr w' ∧ w'.cell? ⟨b, off + k * 2, none⟩ = some (.int .i64 x.v) ∧ w'.cell? ⟨b, off + k * 2 + 1, none⟩ = some q ∧ w'.cell? ⟨b', off' + k * 2, none⟩ = some (.int .i64 x.v) ∧ w'.cell? ⟨b', off' + k * 2 + 1, none⟩ = some q') (first | exact Kd | exact K | exact K5 | fail)
        (first
        | (go_at_call 108; have := (show _ ∧ _ by assumption); refine (eqPhi_same _ _ _ _ _ Z Z' (HQ.out.keep (Kept.below this.1 fun b hb => by have h1 := hD b hb; omega) fun _ _ h => h) (HQ'.out.keep (Kept.below this.1 fun b hb => by have h1 := hD' b hb; omega) fun _ _ h => h) (fun b hb => by have h1 := hD b hb; have h2 := this.1.size; omega) (fun b hb => by have h1 := hD' b hb; have h2 := this.1.size; omega)).mono ?_; rintro e w5 ⟨rfl, hb5⟩; have K5 := keepS _ (this.1.trans (hb5.mono this.1.size))))
      go_wp2_with fail
      have HB5 := Lib.hid (HB.out.trans (K5.1.mono hz))
      clear K Kd K5 keepS
      go_roundw
      case rel => exact ⟨k + 1, by omega, by go_num, HB5.out⟩
      case measure => simp [intOf]; omega
    · obtain rfl : k = xs.length := by omega
      go_wp2
      go_ret
      exact ⟨rfl, HB.out⟩

theorem EBlock.rows {w : World} {Z : Zn} {x : BlockD} {v0 v1 v2 v3 a b c d : Value} (h : EBlock w Z x [v0, v1, v2, v3, a, b, c, d]) : a = .int .i64 x.fin.k ∧ b = .int .i64 x.fin.a ∧ c = .int .i64 x.fin.t ∧ d = .int .i64 x.fin.l ∧ Row w Z 2 (EPhi w Z) v0 x.phis ∧ Row w Z 2 EMove v1 x.head ∧ Row w Z 4 EIns v2 x.body ∧ Row w Z 2 EMove v3 x.tail := by
  obtain ⟨_, _, _, _, he, h0, h1, h2, h3⟩ := h
  simp only [List.cons.injEq, and_true] at he
  obtain ⟨rfl, rfl, rfl, rfl, rfl, rfl, rfl, rfl⟩ := he
  exact ⟨rfl, rfl, rfl, rfl, h0, h1, h2, h3⟩

set_option maxHeartbeats 1000000 in
theorem eqBlock_same (x : BlockD) (cs cs' : List Value) (w : World) (Z Z' : Zn) (hu : EBlock w Z x cs) (hv : EBlock w Z' x cs') (hD : ∀ b, Z.D b → b < w.heap.size) (hD' : ∀ b, Z'.D b → b < w.heap.size) :
    Calls Tryd.prog 64 #[.agg cs.toArray, .agg cs'.toArray] w (Says true w) := by
  obtain ⟨v0, v1, v2, v3, rfl, hv0, hv1, hv2, hv3⟩ := hu
  obtain ⟨u0, u1, u2, u3, rfl, hu0, hu1, hu2, hu3⟩ := hv
  have HV0 := Lib.hid hv0
  have HV1 := Lib.hid hv1
  have HV2 := Lib.hid hv2
  have HV3 := Lib.hid hv3
  have HU0 := Lib.hid hu0
  have HU1 := Lib.hid hu1
  have HU2 := Lib.hid hu2
  have HU3 := Lib.hid hu3
  obtain ⟨_, A0, c0, rfl, _⟩ := hv0
  obtain ⟨_, A1, c1, rfl, _⟩ := hv1
  obtain ⟨_, A2, c2, rfl, _⟩ := hv2
  obtain ⟨_, A3, c3, rfl, _⟩ := hv3
  obtain ⟨_, B0, d0, rfl, _⟩ := hu0
  obtain ⟨_, B1, d1, rfl, _⟩ := hu1
  obtain ⟨_, B2, d2, rfl, _⟩ := hu2
  obtain ⟨_, B3, d3, rfl, _⟩ := hu3
  go_enter Tryd.func64, Tryd.ntmps64
  go_wp2_with fail
  have hK : ∀ V : World, Below w.heap.size w V → Kept Z Z w V := fun V hb => Kept.below hb hD
  have hK' : ∀ V : World, Below w.heap.size w V → Kept Z' Z' w V := fun V hb => Kept.below hb hD'
  refine (eqPhiS_same _ _ _ _ Z Z' (HV0.out.keep (hK _ (((Below.refl _ _).alloc (Nat.le_refl _) _).alloc (by simp) _)) fun _ _ h => h.keep (hK _ (((Below.refl _ _).alloc (Nat.le_refl _) _).alloc (by simp) _))) (HU0.out.keep (hK' _ (((Below.refl _ _).alloc (Nat.le_refl _) _).alloc (by simp) _)) fun _ _ h => h.keep (hK' _ (((Below.refl _ _).alloc (Nat.le_refl _) _).alloc (by simp) _))) (fun b hb => by have := hD b hb; simp; omega) (fun b hb => by have := hD' b hb; simp; omega)).mono ?_
  rintro e w1 ⟨rfl, hb1⟩
  have HB1 : Hid (Below w.heap.size w w1) := (((Below.refl _ _).alloc (Nat.le_refl _) _).alloc (by simp) _).trans (hb1.mono (by simp; omega))
  obtain ⟨hc1, hf1⟩ := bcellB (hb1.mono (B' := w.heap.size + 2) (by simp))
  have hz1 : w.heap.size + 2 ≤ w1.heap.size := by have := hb1.size; simp at this; omega
  clear hb1 hf1
  go_wp2_with fail
  refine (eqMoveS_same _ _ _ _ Z Z' (HV1.out.keep (hK _ HB1.out) fun _ _ h => h) (HU1.out.keep (hK' _ HB1.out) fun _ _ h => h) (fun b hb => by have := hD b hb; omega) (fun b hb => by have := hD' b hb; omega)).mono ?_
  rintro e w2 ⟨rfl, hb2⟩
  have HB2 : Hid (Below w.heap.size w w2) := HB1.out.trans (hb2.mono (by omega))
  obtain ⟨hc2, hf2⟩ := bcellB (hb2.mono (B' := w.heap.size + 2) (by omega))
  have hz2 : w.heap.size + 2 ≤ w2.heap.size := by have := hb2.size; omega
  clear hb2 hf2
  go_wp2_with fail
  refine (eqInsS_same _ _ _ _ Z Z' (HV2.out.keep (hK _ HB2.out) fun _ _ h => h) (HU2.out.keep (hK' _ HB2.out) fun _ _ h => h) (fun b hb => by have := hD b hb; omega) (fun b hb => by have := hD' b hb; omega)).mono ?_
  rintro e w3 ⟨rfl, hb3⟩
  have HB3 : Hid (Below w.heap.size w w3) := HB2.out.trans (hb3.mono (by omega))
  obtain ⟨hc3, hf3⟩ := bcellB (hb3.mono (B' := w.heap.size + 2) (by omega))
  have hz3 : w.heap.size + 2 ≤ w3.heap.size := by have := hb3.size; omega
  clear hb3 hf3
  go_wp2_with fail
  refine (eqMoveS_same _ _ _ _ Z Z' (HV3.out.keep (hK _ HB3.out) fun _ _ h => h) (HU3.out.keep (hK' _ HB3.out) fun _ _ h => h) (fun b hb => by have := hD b hb; omega) (fun b hb => by have := hD' b hb; omega)).mono ?_
  rintro e w4 ⟨rfl, hb4⟩
  have HB4 : Hid (Below w.heap.size w w4) := HB3.out.trans (hb4.mono (by omega))
  obtain ⟨hc4, hf4⟩ := bcellB (hb4.mono (B' := w.heap.size + 2) (by omega))
  have hz4 : w.heap.size + 2 ≤ w4.heap.size := by have := hb4.size; omega
  clear hb4 hf4
  go_wp2_with fail
  refine (eqEnd_same _ _ _ _ _).mono ?_
  rintro e w5 ⟨rfl, hb5⟩
  have HB5 : Hid (Below w.heap.size w w5) := HB4.out.trans (hb5.mono (by omega))
  go_wp2_with fail
  go_ret
  exact ⟨rfl, HB5.out⟩

set_option maxHeartbeats 1000000 in
theorem eqBlockS_same (u v : Value) (xs : List BlockD) (w : World) (Z Z' : Zn) (hu : Row w Z 8 (EBlock w Z) u xs) (hv : Row w Z' 8 (EBlock w Z') v xs) (hD : ∀ b, Z.D b → b < w.heap.size) (hD' : ∀ b, Z'.D b → b < w.heap.size) :
    Calls Tryd.prog 41 #[u, v] w (Says true w) := by
  obtain ⟨hle, A, c, rfl, hx⟩ := hu
  obtain ⟨_, A', c', rfl, hy⟩ := hv
  go_enter Tryd.func41, Tryd.ntmps41
  go_wp2
  go_loopw [5] (fun i wr => ∃ k : Nat, k ≤ xs.length ∧ i = .int .i64 k ∧ Hid (Below w.heap.size w wr)) (fun i _ => xs.length - (intOf i).toNat)
  case atStart => exact ⟨0, Nat.zero_le _, rfl, Below.refl _ _⟩
  case round =>
    obtain ⟨k, hk, rfl, HB⟩ := hrel
    by_cases hlt : k < xs.length
    · have hxk : xs[k]? = some xs[k] := List.getElem?_eq_getElem hlt
      generalize xs[k] = x at hxk
      obtain ⟨b, off, rfl, hDb, hrow⟩ := hx (by rintro rfl; simp at hlt)
      obtain ⟨b', off', rfl, hDb', hrow'⟩ := hy (by rintro rfl; simp at hlt)
      obtain ⟨cs, hE, hcs⟩ := hrow k x hxk
      obtain ⟨cs', hE', hcs'⟩ := hrow' k x hxk
      have hbl := hD b hDb
      have hbl' := hD' b' hDb'
      have hz := HB.out.size
      have hbw : b < wr.heap.size := by omega
      have hbw' : b' < wr.heap.size := by omega
      have HQ := Lib.hid (hE.keep (Kept.below HB.out hD))
      have HQ' := Lib.hid (hE'.keep (Kept.below HB.out hD'))
      obtain ⟨a0, a1, a2, a3, rfl, _⟩ := hE
      obtain ⟨a0', a1', a2', a3', rfl, _⟩ := hE'

      have c0 : wr.cell? ⟨b, off + k * 8, none⟩ = some a0 := (HB.out.cell (p := ⟨b, _, none⟩) hbl).trans (hcs 0 _ rfl).1
      have c1 : wr.cell? ⟨b, off + k * 8 + 1, none⟩ = some a1 := (HB.out.cell (p := ⟨b, _, none⟩) hbl).trans (hcs 1 _ rfl).1
      have c2 : wr.cell? ⟨b, off + k * 8 + 2, none⟩ = some a2 := (HB.out.cell (p := ⟨b, _, none⟩) hbl).trans (hcs 2 _ rfl).1
      have c3 : wr.cell? ⟨b, off + k * 8 + 3, none⟩ = some a3 := (HB.out.cell (p := ⟨b, _, none⟩) hbl).trans (hcs 3 _ rfl).1
      have c4 : wr.cell? ⟨b, off + k * 8 + 4, none⟩ = some (.int .i64 x.fin.k) := (HB.out.cell (p := ⟨b, _, none⟩) hbl).trans (hcs 4 _ rfl).1
      have c5 : wr.cell? ⟨b, off + k * 8 + 5, none⟩ = some (.int .i64 x.fin.a) := (HB.out.cell (p := ⟨b, _, none⟩) hbl).trans (hcs 5 _ rfl).1
      have c6 : wr.cell? ⟨b, off + k * 8 + 6, none⟩ = some (.int .i64 x.fin.t) := (HB.out.cell (p := ⟨b, _, none⟩) hbl).trans (hcs 6 _ rfl).1
      have c7 : wr.cell? ⟨b, off + k * 8 + 7, none⟩ = some (.int .i64 x.fin.l) := (HB.out.cell (p := ⟨b, _, none⟩) hbl).trans (hcs 7 _ rfl).1
      have p0 : wr.cell? ⟨b', off' + k * 8, none⟩ = some a0' := (HB.out.cell (p := ⟨b', _, none⟩) hbl').trans (hcs' 0 _ rfl).1
      have p1 : wr.cell? ⟨b', off' + k * 8 + 1, none⟩ = some a1' := (HB.out.cell (p := ⟨b', _, none⟩) hbl').trans (hcs' 1 _ rfl).1
      have p2 : wr.cell? ⟨b', off' + k * 8 + 2, none⟩ = some a2' := (HB.out.cell (p := ⟨b', _, none⟩) hbl').trans (hcs' 2 _ rfl).1
      have p3 : wr.cell? ⟨b', off' + k * 8 + 3, none⟩ = some a3' := (HB.out.cell (p := ⟨b', _, none⟩) hbl').trans (hcs' 3 _ rfl).1
      have p4 : wr.cell? ⟨b', off' + k * 8 + 4, none⟩ = some (.int .i64 x.fin.k) := (HB.out.cell (p := ⟨b', _, none⟩) hbl').trans (hcs' 4 _ rfl).1
      have p5 : wr.cell? ⟨b', off' + k * 8 + 5, none⟩ = some (.int .i64 x.fin.a) := (HB.out.cell (p := ⟨b', _, none⟩) hbl').trans (hcs' 5 _ rfl).1
      have p6 : wr.cell? ⟨b', off' + k * 8 + 6, none⟩ = some (.int .i64 x.fin.t) := (HB.out.cell (p := ⟨b', _, none⟩) hbl').trans (hcs' 6 _ rfl).1
      have p7 : wr.cell? ⟨b', off' + k * 8 + 7, none⟩ = some (.int .i64 x.fin.l) := (HB.out.cell (p := ⟨b', _, none⟩) hbl').trans (hcs' 7 _ rfl).1
      clear hcs hrow hx hcs' hrow' hy hxk
      have keepS : ∀ w1 : World, Below wr.heap.size wr w1 → (fun w' => Below wr.heap.size wr w' ∧ w'.cell? ⟨b, off + k * 8, none⟩ = some a0 ∧ w'.cell? ⟨b, off + k * 8 + 1, none⟩ = some a1 ∧ w'.cell? ⟨b, off + k * 8 + 2, none⟩ = some a2 ∧ w'.cell? ⟨b, off + k * 8 + 3, none⟩ = some a3 ∧ w'.cell? ⟨b, off + k * 8 + 4, none⟩ = some (.int .i64 x.fin.k) ∧ w'.cell? ⟨b, off + k * 8 + 5, none⟩ = some (.int .i64 x.fin.a) ∧ w'.cell? ⟨b, off + k * 8 + 6, none⟩ = some (.int .i64 x.fin.t) ∧ w'.cell? ⟨b, off + k * 8 + 7, none⟩ = some (.int .i64 x.fin.l) ∧ w'.cell? ⟨b', off' + k * 8, none⟩ = some a0' ∧ w'.cell? ⟨b', off' + k * 8 + 1, none⟩ = some a1' ∧ w'.cell? ⟨b', off' + k * 8 + 2, none⟩ = some a2' ∧ w'.cell? ⟨b', off' + k * 8 + 3, none⟩ = some a3' ∧ w'.cell? ⟨b', off' + k * 8 + 4, none⟩ = some (.int .i64 x.fin.k) ∧ w'.cell? ⟨b', off' + k * 8 + 5, none⟩ = some (.int .i64 x.fin.a) ∧ w'.cell? ⟨b', off' + k * 8 + 6, none⟩ = some (.int .i64 x.fin.t) ∧ w'.cell? ⟨b', off' + k * 8 + 7, none⟩ = some (.int .i64 x.fin.l)) w1 := fun w1 hb => ⟨hb, (hb.cell (p := ⟨b, _, none⟩) hbw).trans c0, (hb.cell (p := ⟨b, _, none⟩) hbw).trans c1, (hb.cell (p := ⟨b, _, none⟩) hbw).trans c2, (hb.cell (p := ⟨b, _, none⟩) hbw).trans c3, (hb.cell (p := ⟨b, _, none⟩) hbw).trans c4, (hb.cell (p := ⟨b, _, none⟩) hbw).trans c5, (hb.cell (p := ⟨b, _, none⟩) hbw).trans c6, (hb.cell (p := ⟨b, _, none⟩) hbw).trans c7, (hb.cell (p := ⟨b', _, none⟩) hbw').trans p0, (hb.cell (p := ⟨b', _, none⟩) hbw').trans p1, (hb.cell (p := ⟨b', _, none⟩) hbw').trans p2, (hb.cell (p := ⟨b', _, none⟩) hbw').trans p3, (hb.cell (p := ⟨b', _, none⟩) hbw').trans p4, (hb.cell (p := ⟨b', _, none⟩) hbw').trans p5, (hb.cell (p := ⟨b', _, none⟩) hbw').trans p6, (hb.cell (p := ⟨b', _, none⟩) hbw').trans p7⟩
      have K := keepS _ (Below.refl _ _)
      have Kd := keepS _ below_drew
      go_wp2_with fail
      go_region_held3 (fun w' => Below wr.heap.size wr w' ∧ w'.cell? ⟨b, off + k * 8, none⟩ = some a0 ∧ w'.cell? ⟨b, off + k * 8 + 1, none⟩ = some a1 ∧ w'.cell? ⟨b, off + k * 8 + 2, none⟩ = some a2 ∧ w'.cell? ⟨b, off + k * 8 + 3, none⟩ = some a3 ∧ w'.cell? ⟨b, off + k * 8 + 4, none⟩ = some (.int .i64 x.fin.k) ∧ w'.cell? ⟨b, off + k * 8 + 5, none⟩ = some (.int .i64 x.fin.a) ∧ w'.cell? ⟨b, off + k * 8 + 6, none⟩ = some (.int .i64 x.fin.t) ∧ w'.cell? ⟨b, off + k * 8 + 7, none⟩ = some (.int .i64 x.fin.l) ∧ w'.cell? ⟨b', off' + k * 8, none⟩ = some a0' ∧ w'.cell? ⟨b', off' + k * 8 + 1, none⟩ = some a1' ∧ w'.cell? ⟨b', off' + k * 8 + 2, none⟩ = some a2' ∧ w'.cell? ⟨b', off' + k * 8 + 3, none⟩ = some a3' ∧ w'.cell? ⟨b', off' + k * 8 + 4, none⟩ = some (.int .i64 x.fin.k) ∧ w'.cell? ⟨b', off' + k * 8 + 5, none⟩ = some (.int .i64 x.fin.a) ∧ w'.cell? ⟨b', off' + k * 8 + 6, none⟩ = some (.int .i64 x.fin.t) ∧ w'.cell? ⟨b', off' + k * 8 + 7, none⟩ = some (.int .i64 x.fin.l)) (first | exact Kd | exact K | exact K5 | fail)
        (first
        | (go_at_call 64; have := (show _ ∧ _ by assumption); refine (eqBlock_same _ _ _ _ Z Z' (HQ.out.keep (Kept.below this.1 fun b hb => by have h1 := hD b hb; omega)) (HQ'.out.keep (Kept.below this.1 fun b hb => by have h1 := hD' b hb; omega)) (fun b hb => by have h1 := hD b hb; have h2 := this.1.size; omega) (fun b hb => by have h1 := hD' b hb; have h2 := this.1.size; omega)).mono ?_; rintro e w5 ⟨rfl, hb5⟩; have K5 := keepS _ (this.1.trans (hb5.mono this.1.size))))
      go_wp2_with fail
      have HB5 := Lib.hid (HB.out.trans (K5.1.mono hz))
      clear K Kd K5 keepS
      go_roundw
      case rel => exact ⟨k + 1, by omega, by go_num, HB5.out⟩
      case measure => simp [intOf]; omega
    · obtain rfl : k = xs.length := by omega
      go_wp2
      go_ret
      exact ⟨rfl, HB.out⟩

set_option maxHeartbeats 400000 in
theorem eqFun_same (f : FunD) (u v : Value) (w : World) (Z Z' : Zn) (hu : EFun w Z f u) (hv : EFun w Z' f v) (hD : ∀ b, Z.D b → b < w.heap.size) (hD' : ∀ b, Z'.D b → b < w.heap.size) :
    Calls Tryd.prog 20 #[u, v] w (Says true w) := by
  obtain ⟨r, rfl, hr⟩ := hu
  obtain ⟨r', rfl, hr'⟩ := hv
  have HV0 := Lib.hid hr
  have HU0 := Lib.hid hr'
  obtain ⟨_, A0, c0, rfl, _⟩ := hr
  obtain ⟨_, B0, d0, rfl, _⟩ := hr'
  go_enter Tryd.func20, Tryd.ntmps20
  go_wp2_with fail
  have hK : ∀ V : World, Below w.heap.size w V → Kept Z Z w V := fun V hb => Kept.below hb hD
  have hK' : ∀ V : World, Below w.heap.size w V → Kept Z' Z' w V := fun V hb => Kept.below hb hD'
  refine (eqBlockS_same _ _ _ _ Z Z' (HV0.out.keep (hK _ (((Below.refl _ _).alloc (Nat.le_refl _) _).alloc (by simp) _)) fun _ _ h => h.keep (hK _ (((Below.refl _ _).alloc (Nat.le_refl _) _).alloc (by simp) _))) (HU0.out.keep (hK' _ (((Below.refl _ _).alloc (Nat.le_refl _) _).alloc (by simp) _)) fun _ _ h => h.keep (hK' _ (((Below.refl _ _).alloc (Nat.le_refl _) _).alloc (by simp) _))) (fun b hb => by have := hD b hb; simp; omega) (fun b hb => by have := hD' b hb; simp; omega)).mono ?_
  rintro e w1 ⟨rfl, hb1⟩
  have HB1 : Hid (Below w.heap.size w w1) := (((Below.refl _ _).alloc (Nat.le_refl _) _).alloc (by simp) _).trans (hb1.mono (by simp; omega))
  clear hb1
  go_wp2_with fail
  go_ret
  exact ⟨rfl, HB1.out⟩
end

/- The model's FunOk and PredsOf. -/
section
open Go.ChangeShapes Go.WideShapes Go.ChangeAt Go.RowKit Go.Joins

theorem EFun.row {w : World} {Z : Zn} {f : FunD} {a b u : Value} (h : EFun w Z f (.agg #[a, b, u])) : Row w Z 8 (EBlock w Z) u f.blocks := by
  obtain ⟨u', he, hr⟩ := h
  injection he with he
  have : u = u' := by
    have := congrArg (fun l : Array Value => l[2]?) he
    simpa using this
  rw [this]; exact hr

theorem l2Frame_any (f : FunD) (v : Value) (w : World) (Z : Zn) (hv : EFun w Z f v) (hD : ∀ b, Z.D b → b < w.heap.size) : Calls Tryd.prog 56 #[v] w (GivesB (FrameP f) w) := by
  obtain ⟨u, rfl, hu⟩ := hv
  by_cases h : FrameHead f
  · exact l2Frame_yes f u w Z h hu hD
  · obtain ⟨hle, A, c, rfl, _⟩ := hu
    exact l2Frame_no f _ w h ⟨_, _, rfl⟩ hle

theorem FrameP.head {f : FunD} (h : FrameP f) : FrameHead f := ⟨h.1, h.2.1, h.2.2.1, h.2.2.2.1⟩
theorem predsF_len (f : FunD) (j : Int) : (predsF f j).length ≤ f.blocks.length := predsK_len _ _ _ _

set_option maxRecDepth 10000 in
set_option maxHeartbeats 2000000 in
theorem sFunOk_any (f : FunD) (v : Value) (w : World) (Z : Zn) (hv : EFun w Z f v) (hD : ∀ b, Z.D b → b < w.heap.size) (hn : f.blocks.length ≤ 1048576) : Calls Tryd.prog 34 #[v] w (GivesB (FunP f) w) := by
  have HF := Lib.hid hv
  obtain ⟨u, rfl, hu⟩ := hv
  obtain ⟨_, A, c, rfl, hx⟩ := hu
  go_enter Tryd.func34, Tryd.ntmps34
  go_wp2_with fail
  refine (l2Frame_any f _ _ Z (HF.out.keep (Kept.below ((Below.refl _ _).alloc (Nat.le_refl _) _) hD)) (fun b hb => by have := hD b hb; simp; omega)).mono ?_
  rintro e w1 ⟨r, rfl, hr, hb1⟩
  have HR := Lib.hid hr
  have HB1 := Lib.hid (hb1.mono (B' := w.heap.size + 1) (by simp))
  have HB01 : Hid (Below w.heap.size w w1) := ((Below.refl _ _).alloc (Nat.le_refl _) _).trans (HB1.out.mono (by omega))
  have hz1 : w.heap.size + 1 ≤ w1.heap.size := by have := hb1.size; simp at this; omega
  obtain ⟨hc1, hf1⟩ := bcellB HB1.out
  clear hb1 hf1 hr
  cases r
  · have HN : Hid (¬ FunP f) := fun h => by have := HR.out.2 h.1; cases this
    go_wp2_with fail
    go_ret
    exact gives_no HN.out HB01.out
  have HP := Lib.hid (HR.out.1 rfl)
  clear HR
  go_wp2_with fail
  refine (l2Preds_any f _ 0 _ Z (HF.out.keep (Kept.below HB01.out hD)) (fun b hb => by have := hD b hb; omega) hn).mono ?_
  rintro e w2 ⟨r, rfl, hr, hb2⟩
  have HB2 := Lib.hid (HB1.out.trans (hb2.mono hz1))
  have HB02 : Hid (Below w.heap.size w w2) := ((Below.refl _ _).alloc (Nat.le_refl _) _).trans (HB2.out.mono (by omega))
  obtain ⟨hle2, A2, c2, rfl, _⟩ := hr.ri
  have hz2 : w.heap.size + 1 ≤ w2.heap.size := by have := hb2.size; omega
  obtain ⟨hc2, hf2⟩ := bcellB (hb2.mono hz1)
  clear hb2 hf2 hr
  by_cases hp0 : predsF f 0 = []
  case neg =>
    have HN : Hid (¬ FunP f) := fun h => hp0 h.2.1
    have hp0' : decide (0 < (predsF f 0).length) = true := by simpa using List.length_pos_iff.2 hp0
    clear hp0
    go_wp2_with fail
    go_ret
    exact gives_no HN.out HB02.out
  have hp0' : decide (0 < (predsF f 0).length) = false := by rw [hp0]; simp
  have HP0 := Lib.hid hp0
  clear hp0
  have h1n := HP.out.1.1
  have h40 := HP.out.1.2
  have hxk : f.blocks[0]? = some f.blocks[0] := List.getElem?_eq_getElem h1n
  generalize f.blocks[0] = x at hxk
  have HX := Lib.hid hx
  obtain ⟨b, off, rfl, hDb, hrow⟩ := hx (by intro h; rw [h] at h1n; simp at h1n)
  obtain ⟨cs, hE, hcs⟩ := hrow 0 x hxk
  have hbl := hD b hDb
  obtain ⟨_, _, _, _, rfl, ⟨_, A0, c0, rfl, _⟩, _⟩ := hE
  have c0 : w.cell? ⟨b, off, none⟩ = some (.slice A0 x.phis.length c0) := by have := (hcs 0 _ rfl).1; simpa using this
  have Hxk := Lib.hid hxk
  have h1n' : 0 < (f.blocks.length : Int) := by omega
  clear hcs hrow hxk
  by_cases hph : x.phis = []
  case neg =>
    have HN : Hid (¬ FunP f) := fun h => hph (h.2.2.1 x Hxk.out)
    have hp0' : decide (0 < x.phis.length) = true := by simpa using List.length_pos_iff.2 hph
    clear hph
    go_wp2_with fail
    go_ret
    exact gives_no HN.out HB02.out
  have hph' : decide (0 < x.phis.length) = false := by rw [hph]; simp
  have HPH : Hid (∀ y, f.blocks[0]? = some y → y.phis = []) := fun y hy => by
    rw [Hxk.out] at hy
    injection hy with hy
    subst hy
    exact hph
  clear hph
  go_wp2_with fail
  clear hc1 hc2 c0
  go_loopw [3] (fun i wr => ∃ k : Nat, k ≤ f.blocks.length ∧ i = .int .i64 k ∧ Hid (Below (w.heap.size + 1) (w.alloc (.cells #[.int .i64 f.params, .int .i64 f.names, .slice (some ⟨b, off, none⟩) f.blocks.length c] 26)) wr) ∧ Hid (∀ (j : Nat) y, j < k → f.blocks[j]? = some y → PhisP f.names (predsF f j).length y.phis)) (fun i _ => f.blocks.length - (intOf i).toNat)
  case atStart => exact ⟨0, Nat.zero_le _, rfl, HB2.out, fun _ _ h => absurd h (by omega)⟩
  case round =>
    obtain ⟨k, hk, rfl, HB, H1⟩ := hrel
    have HB0 : Hid (Below w.heap.size w wr) := ((Below.refl _ _).alloc (Nat.le_refl _) _).trans (HB.out.mono (by omega))
    have hzw : w.heap.size + 1 ≤ wr.heap.size := by have := HB.out.size; simp at this; omega
    have f0 : wr.cell? ⟨w.heap.size, 0, none⟩ = some (.int .i64 f.params) := (HB.out.cell (p := ⟨w.heap.size, 0, none⟩) (by simp)).trans (by go_simp)
    have f1 : wr.cell? ⟨w.heap.size, 1, none⟩ = some (.int .i64 f.names) := (HB.out.cell (p := ⟨w.heap.size, 1, none⟩) (by simp)).trans (by go_simp)
    have f2 : wr.cell? ⟨w.heap.size, 2, none⟩ = some (.slice (some ⟨b, off, none⟩) f.blocks.length c) := (HB.out.cell (p := ⟨w.heap.size, 2, none⟩) (by simp)).trans (by go_simp)
    by_cases hlt : k < f.blocks.length
    case neg =>
      obtain rfl : k = f.blocks.length := by omega
      go_wp2
      go_ret
      exact gives_yes ⟨HP.out, HP0.out, HPH.out, fun j y hy => H1.out j y (List.getElem?_eq_some_iff.1 hy).1 hy⟩ HB0.out
    have hyk : f.blocks[k]? = some f.blocks[k] := List.getElem?_eq_getElem hlt
    generalize f.blocks[k] = y at hyk
    obtain ⟨b', off', he, hDb', hrow⟩ := HX.out (by intro h; rw [h] at hlt; simp at hlt)
    injection he with he
    injection he with hb' ho'
    subst hb' ho'
    obtain ⟨cs, hE, hcs⟩ := hrow k y hyk
    obtain ⟨_, _, _, _, rfl, hv0, _⟩ := hE
    have HV0 := Lib.hid (hv0.keep (Kept.below HB0.out hD) fun _ _ h => h.keep (Kept.below HB0.out hD))
    obtain ⟨_, A0, cy, rfl, _⟩ := hv0
    have c0 : wr.cell? ⟨b, off + k * 8, none⟩ = some (.slice A0 y.phis.length cy) := (HB0.out.cell (p := ⟨b, _, none⟩) hbl).trans (hcs 0 _ rfl).1
    have Hyk := Lib.hid hyk
    have hbw : b < wr.heap.size := by omega
    have hfw : w.heap.size < wr.heap.size := by omega
    have h3a := HP.out.2.1.1
    have h3b := HP.out.2.1.2
    clear hcs hyk hrow
    have keepS : ∀ w1 : World, Below wr.heap.size wr w1 → (fun w' => Below wr.heap.size wr w' ∧ w'.cell? ⟨w.heap.size, 0, none⟩ = some (.int .i64 f.params) ∧ w'.cell? ⟨w.heap.size, 1, none⟩ = some (.int .i64 f.names) ∧ w'.cell? ⟨w.heap.size, 2, none⟩ = some (.slice (some ⟨b, off, none⟩) f.blocks.length c) ∧ w'.cell? ⟨b, off + k * 8, none⟩ = some (.slice A0 y.phis.length cy)) w1 :=
      fun w1 hb => ⟨hb, (hb.cell (p := ⟨w.heap.size, 0, none⟩) hfw).trans f0, (hb.cell (p := ⟨w.heap.size, 1, none⟩) hfw).trans f1, (hb.cell (p := ⟨w.heap.size, 2, none⟩) hfw).trans f2, (hb.cell (p := ⟨b, _, none⟩) hbw).trans c0⟩
    have K := keepS _ (Below.refl _ _)
    have Kd := keepS _ below_drew
    go_wp2_with fail
    go_region_held3 (fun w' => Below wr.heap.size wr w' ∧ w'.cell? ⟨w.heap.size, 0, none⟩ = some (.int .i64 f.params) ∧ w'.cell? ⟨w.heap.size, 1, none⟩ = some (.int .i64 f.names) ∧ w'.cell? ⟨w.heap.size, 2, none⟩ = some (.slice (some ⟨b, off, none⟩) f.blocks.length c) ∧ w'.cell? ⟨b, off + k * 8, none⟩ = some (.slice A0 y.phis.length cy)) (first | exact Kd | exact K | exact K5 | exact K6 | fail)
      (first
      | (go_at_call 57; have := (show _ ∧ _ by assumption); refine (l2Preds_any f _ k _ Z (HF.out.keep ((Kept.below HB0.out hD).trans (Kept.below this.1 fun b hb => by have h1 := hD b hb; omega))) (fun b hb => by have h1 := hD b hb; have h2 := this.1.size; omega) hn).mono ?_; rintro e w5 ⟨r, rfl, hr, hb5⟩; obtain ⟨hle5, A5, c5, rfl, _⟩ := hr.ri; have K5 := keepS _ (this.1.trans (hb5.mono this.1.size)); clear hr hb5 this)
      | (go_at_call 58; have := (show _ ∧ _ by assumption); refine (l2Phis_any _ y.phis f.names (predsF f k).length _ Z (HV0.out.keep (Kept.below this.1 fun b hb => by have h1 := hD b hb; omega) fun _ _ h => h.keep (Kept.below this.1 fun b hb => by have h1 := hD b hb; omega)) h3a h3b).mono ?_; rintro e w6 ⟨r6, rfl, hr6, hb6⟩; have HR6 := Lib.hid hr6; have K6 := keepS _ (this.1.trans (hb6.mono this.1.size)); clear hr6 hb6 this))
    have HB6 := Lib.hid (HB.out.trans (K6.1.mono hzw))
    have HB06 : Hid (Below w.heap.size w w6) := ((Below.refl _ _).alloc (Nat.le_refl _) _).trans (HB6.out.mono (by omega))
    clear K Kd K5 K6 keepS
    cases r6
    · have HN : Hid (¬ FunP f) := fun h => by have := HR6.out.2 (h.2.2.2 k y Hyk.out); cases this
      go_wp2_with fail
      go_ret
      exact gives_no HN.out HB06.out
    · have HP6 := Lib.hid (HR6.out.1 rfl)
      have H1' : Hid (∀ (j : Nat) z, j < k + 1 → f.blocks[j]? = some z → PhisP f.names (predsF f j).length z.phis) := fun j z hj hz => by
        by_cases hjk : j = k
        · subst hjk
          rw [Hyk.out] at hz
          injection hz with hz
          subst hz
          exact HP6.out
        · exact H1.out j z (by omega) hz
      clear HR6
      go_wp2_with fail
      go_roundw
      case rel => exact ⟨k + 1, by omega, by go_num, HB6, H1'⟩
      case measure => simp [intOf]; omega

/-- What PredsOf answers. -/
def PredsRes (f : FunD) (j : Int) (xs : List Int) : Prop := (FunP f ∧ isBelowB j f.blocks.length = true ∧ xs = predsF f j) ∨ (¬ (FunP f ∧ isBelowB j f.blocks.length = true) ∧ xs = [])
theorem PredsRes.one {f : FunD} {j : Int} {xs ys : List Int} (h : PredsRes f j xs) (k : PredsRes f j ys) : xs = ys := by
  rcases h with ⟨h1, h2, rfl⟩ | ⟨h1, rfl⟩ <;> rcases k with ⟨k1, k2, rfl⟩ | ⟨k1, rfl⟩
  · rfl
  · exact absurd ⟨h1, h2⟩ k1
  · exact absurd ⟨k1, k2⟩ h1
  · rfl
theorem PredsRes.len {f : FunD} {j : Int} {xs : List Int} (h : PredsRes f j xs) : xs.length ≤ f.blocks.length := by
  rcases h with ⟨_, _, rfl⟩ | ⟨_, rfl⟩
  · exact predsF_len f j
  · simp
def GivesPreds (f : FunD) (j : Int) (w : World) (e : Ending) (w' : World) : Prop := ∃ xs r, e = .returned r ∧ PredsRes f j xs ∧ OI w' w.heap.size r xs ∧ Below w.heap.size w w'

set_option maxHeartbeats 400000 in
theorem l2Has_any (a b : Int) (A : Option Addr) (n c : Nat) (j : Int) (w : World) (hn : n ≤ 1048576) :
    Calls Tryd.prog 35 #[.agg #[.int .i64 a, .int .i64 b, .slice A n c], .int .i64 j] w fun e w' => e = .returned (.bool (isBelowB j n)) ∧ Below w.heap.size w w' := by
  go_enter Tryd.func35, Tryd.ntmps35
  go_wp2_with (go_at_call 59; refine (l1In_below _ _ _).mono ?_; rintro e w' ⟨rfl, rfl⟩)
  go_ret
  exact ⟨rfl, (Below.refl _ _).alloc (Nat.le_refl _) _⟩
end

end Go.Proofs.YteikpekffgifoaaDoor
