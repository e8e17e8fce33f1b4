/- Defs, joined. -/
import Derived.Test.YtnjmlhokkhkaaaaGreatDoorQ6
import Derived.Test.YtnjmlhokkhkaaaaGreatDoorQ9
namespace Go.Proofs.YtnjmlhokkhkaaaaGreatDoor

/- defsOfAll of the program: where each name is given. -/
section
open Go.ChangeShapes Go.WideShapes Go.ChangeAt Go.RowKit Go.Joins

theorem pick_add (evs : List EvD) (t : Nat) (p : MoveD) (j : Nat) : pick (evs ++ [⟨(t : Int), p⟩]) (j : Int) = if j = t then pick evs (t : Int) ++ [p] else pick evs (j : Int) := by
  rw [pick_snoc]
  by_cases e : j = t
  · subst e; rw [if_pos rfl, if_pos rfl]
  · rw [if_neg (by show ¬ (t : Int) = (j : Int); omega), if_neg e]
theorem pickO_add (evs : List EvD) (t : Nat) (p : MoveD) (j : Nat) : pickO (evs ++ [⟨(t : Int), p⟩]) (j : Int) = if j = t then once (pickO evs (t : Int)) p else pickO evs (j : Int) := by
  rw [pickO_snoc]
  by_cases e : j = t
  · subst e; rw [if_pos rfl, if_pos rfl]
  · rw [if_neg (by show ¬ (t : Int) = (j : Int); omega), if_neg e]
/-- The rows by name of what has been told so far. -/
def EvR (pk : List EvD → Int → List MoveD) (w : World) (G n : Nat) (evs : List EvD) : Prop := QRow w (G + 1) G n fun j => pk evs (j : Int)
theorem EvR.add {w : World} {G n t : Nat} {evs evs' : List EvD} {p : MoveD} (h : QRow w (G + 1) G n fun i => if i = t then pick evs (t : Int) ++ [p] else pick evs (i : Int)) (he : evs' = evs ++ [⟨(t : Int), p⟩]) : EvR pick w G n evs' :=
  QRow.congr h fun j _ => by rw [he, pick_add]
theorem EvR.once {w : World} {G n t : Nat} {evs evs' : List EvD} {p : MoveD} (h : QRow w (G + 1) G n fun i => if i = t then once (pickO evs (t : Int)) p else pickO evs (i : Int)) (he : evs' = evs ++ [⟨(t : Int), p⟩]) : EvR pickO w G n evs' :=
  QRow.congr h fun j _ => by rw [he, pickO_add]
theorem EvR.to {pk : List EvD → Int → List MoveD} {w : World} {G n : Nat} {evs evs' : List EvD} (h : EvR pk w G n evs) (he : evs' = evs) : EvR pk w G n evs' := by rw [he]; exact h
theorem EvR.below {pk : List EvD → Int → List MoveD} {w w' : World} {G n : Nat} {evs : List EvD} (h : EvR pk w G n evs) (hb : Below w.heap.size w w') : EvR pk w' G n evs := QRow.below h hb
theorem not_owned {w w' : World} {G n : Nat} {row : Nat → List MoveD} (h : QRow w (G + 1) G n row) (hb : Below w.heap.size w w') {q : Nat} (hq : w.heap.size ≤ q) : ¬ Owns w' G q := fun ho => by
  have hG := h.lt
  rcases h.owns (ho.below hb hG) with e | e <;> omega
theorem Adds.cellA {w w' : World} {G q : Nat} (h : Adds w w' G) (hq : q < w.heap.size) (hn : ¬ Owns w G q) (o : Nat) : w'.cell? ⟨q, o, none⟩ = w.cell? ⟨q, o, none⟩ := World.cell?_of_block (a := ⟨q, o, none⟩) (h.fw.block q hq hn)

theorem info_places : (Tryz.prog.info? 29).map (fun i => (i.zero, i.size, i.bytes)) = some (some (.slice none 0 0), 1, 24) := by kernel_rfl

def GivesQ (n : Nat) (row : Nat → List MoveD) (w : World) (e : Ending) (w' : World) : Prop := ∃ G, e = .returned (.slice (some ⟨G, 0, none⟩) n n) ∧ w.heap.size < G ∧ QRow w' (G + 1) G n row ∧ Below w.heap.size w w'

set_option maxHeartbeats 400000 in
theorem tailTime_any (v0 v1 v3 : Value) (A : Option Addr) (n c : Nat) (a b d e : Int) (w : World) (hn : n ≤ 1000) :
    Calls Tryz.prog 49 #[.agg #[v0, v1, .slice A n c, v3, .int .i64 a, .int .i64 b, .int .i64 d, .int .i64 e]] w fun r w' => r = .returned (.int .i64 (2 + (n : Int))) ∧ Below w.heap.size w w' := by
  go_enter Tryz.func49, Tryz.ntmps49
  go_wp2
  go_ret
  exact ⟨by go_num, (Below.refl _ _).alloc (Nat.le_refl _) _⟩

/-- A name of a right function. -/
theorem name_nat {a : Int} {n : Nat} (h : isBelowB a (n : Int) = true) : ∃ t : Nat, a = t ∧ t < n := ⟨a.toNat, by simp [isBelowB] at h; omega, by simp [isBelowB] at h; omega⟩
theorem insP_v {names : Int} {x : InsD} (h : InsP names x) : x.v = -1 ∨ 0 ≤ x.v := by
  have h1 := h.1
  unfold insOkB at h1
  by_cases h0 : 0 ≤ x.v
  · exact .inr h0
  · have hn : isNameB x.v = false := by unfold isNameB; simp; omega
    rw [hn] at h1
    simp only [Bool.false_and] at h1
    split at h1
    · cases h1
    · split at h1
      · cases h1
      · split at h1
        · cases h1
        · split at h1
          · left; simp at h1; exact h1.1.1
          · cases h1

theorem pick_le {evs : List EvD} (j : Int) (h : evs.length ≤ 1000000) : (pick evs j).length ≤ 1000000 := Nat.le_trans (pick_len evs j) h
theorem pickO_le {evs : List EvD} (j : Int) (h : evs.length ≤ 1000000) : (pickO evs j).length ≤ 1000000 := Nat.le_trans (pickO_len evs j) h
theorem phG_le (k : Int) (l : List PhiD) (m : Nat) : (phG k l m).length ≤ m := by have := upTo_len (g := fun (_ : Nat) (p : PhiD) => [(⟨p.v, ⟨k, 0⟩⟩ : EvD)]) (l := l) (c := 1) (fun _ _ _ => by simp) m; unfold phG; omega
theorem mvG_le (k t : Int) (l : List MoveD) (m : Nat) : (mvG k t l m).length ≤ m := by have := upTo_len (g := fun (_ : Nat) (p : MoveD) => [(⟨p.dst, ⟨k, t⟩⟩ : EvD)]) (l := l) (c := 1) (fun _ _ _ => by simp) m; unfold mvG; omega
theorem mvT_le (k t : Int) (l : List MoveD) (m : Nat) : (mvT k t l m).length ≤ m := by have := upTo_len (g := fun (_ : Nat) (p : MoveD) => [(⟨p.src, ⟨k, t⟩⟩ : EvD)]) (l := l) (c := 1) (fun _ _ _ => by simp) m; unfold mvT; omega
theorem insG_le (k : Int) (l : List InsD) (m : Nat) : (insG k l m).length ≤ m := by have := upTo_len (g := fun (i : Nat) (x : InsD) => if x.v = -1 then [] else [(⟨x.v, ⟨k, 2 + (i : Int)⟩⟩ : EvD)]) (l := l) (c := 1) (fun _ _ _ => by split <;> simp) m; unfold insG; omega
theorem insT_le (k : Int) (l : List InsD) (m : Nat) : (insT k l m).length ≤ 2 * m := by have := upTo_len (g := fun (i : Nat) (x : InsD) => (usesL x.op x.v x.a x.b).map fun u => (⟨u, ⟨k, 2 + (i : Int)⟩⟩ : EvD)) (l := l) (c := 2) (fun _ x _ => by rw [List.length_map]; exact usesL_len _ _ _ _) m; unfold insT; omega
theorem phG_succ {k : Int} {l : List PhiD} {m : Nat} {y : PhiD} (h : l[m]? = some y) : phG k l (m + 1) = phG k l m ++ [⟨y.v, ⟨k, 0⟩⟩] := upTo_succ h
theorem mvG_succ {k t : Int} {l : List MoveD} {m : Nat} {y : MoveD} (h : l[m]? = some y) : mvG k t l (m + 1) = mvG k t l m ++ [⟨y.dst, ⟨k, t⟩⟩] := upTo_succ h
theorem mvT_succ {k t : Int} {l : List MoveD} {m : Nat} {y : MoveD} (h : l[m]? = some y) : mvT k t l (m + 1) = mvT k t l m ++ [⟨y.src, ⟨k, t⟩⟩] := upTo_succ h
theorem insG_skip {k : Int} {l : List InsD} {m : Nat} {y : InsD} (h : l[m]? = some y) (hv : y.v = -1) : insG k l (m + 1) = insG k l m := by
  refine (upTo_succ h).trans ?_
  rw [if_pos hv, List.append_nil]; rfl
theorem insG_succ {k : Int} {l : List InsD} {m : Nat} {y : InsD} (h : l[m]? = some y) (hv : y.v ≠ -1) : insG k l (m + 1) = insG k l m ++ [⟨y.v, ⟨k, 2 + (m : Int)⟩⟩] := by
  refine (upTo_succ h).trans ?_
  rw [if_neg hv]; rfl

set_option maxRecDepth 10000 in
set_option maxHeartbeats 1000000 in
theorem defsOfAll_any (f : FunD) (v : Value) (w : World) (Z : Zn) (hp : FunP f) (hv : EFun w Z f v) (hD : ∀ b, Z.D b → b < w.heap.size) :
    Calls Tryz.prog 25 #[v] w (GivesQ f.names.toNat (fun j => pick (defsK f f.blocks.length) (j : Int)) w) := by
  obtain ⟨u, rfl, hle, A, c, rfl, hx⟩ := hv
  obtain ⟨n, hn⟩ : ∃ n : Nat, f.names = n := ⟨f.names.toNat, by have := hp.1.2.1.1; omega⟩
  obtain ⟨pn, hpn⟩ : ∃ n : Nat, f.params = n := ⟨f.params.toNat, by have := hp.1.2.2.1.1; omega⟩
  have hn150 : n ≤ 150 := by have := hp.1.2.1.2; omega
  have hpn6 : pn ≤ 6 := by have := hp.1.2.2.1.2; omega
  have hpnn : pn ≤ n := by have := hp.1.2.2.2.1; omega
  have hb40 := hp.1.1.2
  have HN := Lib.hid hn
  have HPN := Lib.hid hpn
  have HP := Lib.hid hp
  have HX := Lib.hid hx
  rw [hn, hpn, show ((n : Int)).toNat = n by omega]
  have HLEN : Hid (∀ k, k ≤ f.blocks.length → (defsK f k).length ≤ 7000) := fun k hk => defsK_len hp k hk
  obtain ⟨i0, hi, hz0, hz1, hz2⟩ := info_parts info_places
  have hmk := fun W => run_make_rowN (P := Tryz.prog) 47 29 i0 _ Tryz.underlying47 hi hz0 .i64 .i64 n n (Nat.le_refl _) (by rw [hz2]; omega) (by omega) W
  rw [hz1] at hmk
  clear hi hz0 hz1 hz2 hp hn hpn hx
  go_enter Tryz.func25, Tryz.ntmps25
  go_wp2_with fail
  obtain ⟨G, hG⟩ : ∃ G, G = w.heap.size + 1 := ⟨_, rfl⟩
  rw [← hG]
  have hB2 : Below w.heap.size w ((w.alloc (.cells #[.int .i64 pn, .int .i64 n, .slice A f.blocks.length c] 26)).alloc (.cells (madeCells #[.slice none 0 0] n) 29)) := ((Below.refl _ _).alloc (Nat.le_refl _) _).alloc (by simp) _
  have hQ2 : EvR pick ((w.alloc (.cells #[.int .i64 pn, .int .i64 n, .slice A f.blocks.length c] 26)).alloc (.cells (madeCells #[.slice none 0 0] n) 29)) G n [] := by
    have h := QRow.start (w := (w.alloc (.cells #[.int .i64 pn, .int .i64 n, .slice A f.blocks.length c] 26))) n
    simp only [World.size_alloc] at h
    rw [← hG] at h
    exact h
  have f2 : (((w.alloc (.cells #[.int .i64 pn, .int .i64 n, .slice A f.blocks.length c] 26)).alloc (.cells (madeCells #[.slice none 0 0] n) 29))).cell? ⟨w.heap.size, 2, none⟩ = some (.slice A f.blocks.length c) := by go_simp
  generalize ((w.alloc (.cells #[.int .i64 pn, .int .i64 n, .slice A f.blocks.length c] 26)).alloc (.cells (madeCells #[.slice none 0 0] n) 29)) = w2 at *
  have HB2 := Lib.hid hB2
  have HQ2 := Lib.hid hQ2
  have HF2 := Lib.hid f2
  have hGw : w.heap.size < G := by omega
  clear hG
  clear hB2 hQ2 f2 hmk
  have HBel : Hid (∀ wr, Adds w2 wr G → Below w.heap.size w wr ∧ wr.cell? ⟨w.heap.size, 2, none⟩ = some (.slice A f.blocks.length c)) := fun wr ha =>
    have hb := ha.toBelow HQ2.out rfl
    ⟨HB2.out.trans (hb.mono (by omega)), (hb.cell (p := ⟨w.heap.size, 2, none⟩) hGw).trans HF2.out⟩
  go_loopw [21] (fun i wr => ∃ k : Nat, k ≤ pn ∧ i = .int .i64 k ∧ Hid (EvR pick wr G n (parG k)) ∧ Hid (Adds w2 wr G)) (fun i _ => pn - (intOf i).toNat)
  case atStart => exact ⟨0, Nat.zero_le _, rfl, HQ2.out, Adds.refl _ _⟩
  case round =>
    obtain ⟨k, hk, rfl, HQ, HA⟩ := hrel
    by_cases hlt : k < pn
    case pos =>
      have hlt' : (k : Int) < (pn : Int) := by omega
      have HL := Lib.hid (pick_le (evs := parG k) k (by rw [parG_len]; omega))
      go_wp2_with fail
      refine (add_any G n (fun j => pick (parG k) (j : Int)) k ⟨0, 0⟩ _ HQ.out (by omega) HL.out).mono ?_
      rintro e w3 ⟨_, rfl, hq3, ha3⟩
      have HQ3 := Lib.hid (EvR.add hq3 (parG_succ k))
      have HA3 := Lib.hid (HA.out.trans ha3)
      clear hq3 ha3
      go_wp2_with fail
      go_roundw
      case rel => exact ⟨k + 1, by omega, by go_num, HQ3.out, HA3.out⟩
      case measure => simp [intOf]; omega
    obtain rfl : k = pn := by omega
    obtain ⟨hbw, g2⟩ := HBel.out wr HA.out
    have HQ1 : Hid (EvR pick wr G n (defsK f 0)) := HQ.out.to (by unfold defsK; rw [HPN.out, upTo_zero, List.append_nil]; rfl)
    clear HQ hbw
    go_wp2_with fail
    clear g2
    go_loopw [32] (fun i wr => ∃ m : Nat, m ≤ f.blocks.length ∧ i = .int .i64 m ∧ Hid (EvR pick wr G n (defsK f m)) ∧ Hid (Adds w2 wr G)) (fun i _ => f.blocks.length - (intOf i).toNat)
    case atStart => exact ⟨0, Nat.zero_le _, rfl, HQ1.out, HA.out⟩
    clear HQ1 HA
    case round =>
      obtain ⟨m, hm, rfl, HQ, HA⟩ := hrel
      obtain ⟨hbw, g2⟩ := HBel.out wr HA.out
      have HBw := Lib.hid hbw
      clear hbw
      by_cases hlt : m < f.blocks.length
      case neg =>
        obtain rfl : m = f.blocks.length := by omega
        go_wp2_with fail
        go_ret
        exact ⟨G, rfl, hGw, HQ.out, HBw.out⟩
      have hxk : f.blocks[m]? = some f.blocks[m] := List.getElem?_eq_getElem hlt
      generalize f.blocks[m] = x at hxk
      obtain ⟨b, off, rfl, hDb, hrow⟩ := HX.out (by intro h; rw [h] at hlt; simp at hlt)
      obtain ⟨cs, hE, hcs⟩ := hrow m x hxk
      have hbl := hD b hDb
      obtain ⟨v0, v1, v2, v3, rfl, r0, r1, r2, r3⟩ := hE
      obtain ⟨_, A0, q0, rfl, h0⟩ := r0
      obtain ⟨_, A1, q1, rfl, h1⟩ := r1
      obtain ⟨_, A2, q2, rfl, h2⟩ := r2
      obtain ⟨_, A3, q3, rfl, h3⟩ := r3
      have c0 : wr.cell? ⟨b, off + m * 8, none⟩ = some (.slice A0 x.phis.length q0) := (HBw.out.cell (p := ⟨b, _, none⟩) hbl).trans (hcs 0 _ rfl).1
      have c1 : wr.cell? ⟨b, off + m * 8 + 1, none⟩ = some (.slice A1 x.head.length q1) := (HBw.out.cell (p := ⟨b, _, none⟩) hbl).trans (hcs 1 _ rfl).1
      have c2 : wr.cell? ⟨b, off + m * 8 + 2, none⟩ = some (.slice A2 x.body.length q2) := (HBw.out.cell (p := ⟨b, _, none⟩) hbl).trans (hcs 2 _ rfl).1
      have c3 : wr.cell? ⟨b, off + m * 8 + 3, none⟩ = some (.slice A3 x.tail.length q3) := (HBw.out.cell (p := ⟨b, _, none⟩) hbl).trans (hcs 3 _ rfl).1
      have c4 : wr.cell? ⟨b, off + m * 8 + 4, none⟩ = some (.int .i64 x.fin.k) := (HBw.out.cell (p := ⟨b, _, none⟩) hbl).trans (hcs 4 _ rfl).1
      have c5 : wr.cell? ⟨b, off + m * 8 + 5, none⟩ = some (.int .i64 x.fin.a) := (HBw.out.cell (p := ⟨b, _, none⟩) hbl).trans (hcs 5 _ rfl).1
      have c6 : wr.cell? ⟨b, off + m * 8 + 6, none⟩ = some (.int .i64 x.fin.t) := (HBw.out.cell (p := ⟨b, _, none⟩) hbl).trans (hcs 6 _ rfl).1
      have c7 : wr.cell? ⟨b, off + m * 8 + 7, none⟩ = some (.int .i64 x.fin.l) := (HBw.out.cell (p := ⟨b, _, none⟩) hbl).trans (hcs 7 _ rfl).1
      have Hxk := Lib.hid hxk
      have H0 := Lib.hid h0
      have H1 := Lib.hid h1
      have H2 := Lib.hid h2
      have H3 := Lib.hid h3
      have hbP := HP.out.1.2.2.2.2 m x hxk
      have HPh := Lib.hid (HP.out.2.2.2 m x hxk).2
      have HHd := Lib.hid hbP.2.1.2.1
      have HTl := Lib.hid hbP.2.2.1.2.1
      have HBd := Lib.hid hbP.2.2.2.2
      have hl0 := (HP.out.2.2.2 m x hxk).1
      have hl1 := hbP.2.1.1
      have hl3 := hbP.2.2.1.1
      have hl2 := hbP.2.2.2.1
      have HEL := Lib.hid (HLEN.out m hm)
      obtain ⟨E0, hE0⟩ : ∃ E, E = defsK f m := ⟨_, rfl⟩
      rw [← hE0] at HQ HEL
      have HE0 := Lib.hid hE0
      clear hcs hrow hxk h0 h1 h2 h3 hbP hE0
      have hlt' : (m : Int) < (f.blocks.length : Int) := by omega
      go_wp2_with fail
      clear c0 c1 c2 c3 c4 c5 c6 c7 g2
      have hkh : ((wr.alloc (.cells #[(.slice A0 x.phis.length q0), (.slice A1 x.head.length q1), (.slice A2 x.body.length q2), (.slice A3 x.tail.length q3), (.int .i64 x.fin.k), (.int .i64 x.fin.a), (.int .i64 x.fin.t), (.int .i64 x.fin.l)] 60))).heap[wr.heap.size]? = some (.cells #[(.slice A0 x.phis.length q0), (.slice A1 x.head.length q1), (.slice A2 x.body.length q2), (.slice A3 x.tail.length q3), (.int .i64 x.fin.k), (.int .i64 x.fin.a), (.int .i64 x.fin.t), (.int .i64 x.fin.l)] 60 (0, 0)) := heap_alloc_new _ _
      have hBk : Below wr.heap.size wr (wr.alloc (.cells #[(.slice A0 x.phis.length q0), (.slice A1 x.head.length q1), (.slice A2 x.body.length q2), (.slice A3 x.tail.length q3), (.int .i64 x.fin.k), (.int .i64 x.fin.a), (.int .i64 x.fin.t), (.int .i64 x.fin.l)] 60)) := (Below.refl _ _).alloc (Nat.le_refl _) _
      have hno : ¬ Owns (wr.alloc (.cells #[(.slice A0 x.phis.length q0), (.slice A1 x.head.length q1), (.slice A2 x.body.length q2), (.slice A3 x.tail.length q3), (.int .i64 x.fin.k), (.int .i64 x.fin.a), (.int .i64 x.fin.t), (.int .i64 x.fin.l)] 60)) G wr.heap.size := not_owned HQ.out hBk (Nat.le_refl _)
      have HQk := Lib.hid (HQ.out.below hBk)
      have HAk := Lib.hid (HA.out.trans (Adds.below hBk HQ.out.lt))
      have hqk : wr.heap.size < ((wr.alloc (.cells #[(.slice A0 x.phis.length q0), (.slice A1 x.head.length q1), (.slice A2 x.body.length q2), (.slice A3 x.tail.length q3), (.int .i64 x.fin.k), (.int .i64 x.fin.a), (.int .i64 x.fin.t), (.int .i64 x.fin.l)] 60))).heap.size := by simp
      obtain ⟨q, hq⟩ : ∃ q, q = wr.heap.size := ⟨_, rfl⟩
      rw [← hq] at hkh hno hqk ⊢
      generalize (wr.alloc (.cells #[(.slice A0 x.phis.length q0), (.slice A1 x.head.length q1), (.slice A2 x.body.length q2), (.slice A3 x.tail.length q3), (.int .i64 x.fin.k), (.int .i64 x.fin.a), (.int .i64 x.fin.t), (.int .i64 x.fin.l)] 60)) = wk at *
      have HKH := Lib.hid hkh
      have HNO := Lib.hid hno
      have HQC : Hid (∀ wr, Adds wk wr G → (∀ (o : Nat) u, (#[(.slice A0 x.phis.length q0), (.slice A1 x.head.length q1), (.slice A2 x.body.length q2), (.slice A3 x.tail.length q3), (.int .i64 x.fin.k), (.int .i64 x.fin.a), (.int .i64 x.fin.t), (.int .i64 x.fin.l)] : Array Value)[o]? = some u → wr.cell? ⟨q, o, none⟩ = some u) ∧ Below w.heap.size w wr) := fun wr ha =>
        ⟨fun o u hu => (ha.cellA hqk HNO.out o).trans ((cell_of_row wk q o _ _ (0, 0) HKH.out).trans hu), (HBel.out wr (HAk.out.trans ha)).1⟩
      clear hkh hno hBk HQ HA HBw hq
      have HQ0 := HQk
      have HEL0 := HEL
      have HA0 : Hid (Adds wk wk G) := Adds.refl _ _
      go_loopw [41] (fun i wr => ∃ j : Nat, j ≤ x.phis.length ∧ i = .int .i64 j ∧ Hid (EvR pick wr G n (E0 ++ phG (m : Int) x.phis j)) ∧ Hid (Adds wk wr G)) (fun i _ => x.phis.length - (intOf i).toNat)
      case atStart => exact ⟨0, Nat.zero_le _, rfl, HQ0.out.to (List.append_nil _), HA0.out⟩
      clear HQ0 HA0
      case round =>
        obtain ⟨j, hj, rfl, HQ, HA⟩ := hrel
        obtain ⟨hqc, hbw⟩ := HQC.out wr HA.out
        have HBw := Lib.hid hbw
        clear hbw
        by_cases hjl : j < x.phis.length
        case neg =>
          obtain rfl : j = x.phis.length := by omega
          obtain ⟨E1, hE1⟩ : ∃ E, E = E0 ++ phG (m : Int) x.phis x.phis.length := ⟨_, rfl⟩
          rw [← hE1] at HQ
          have HE1 := Lib.hid hE1
          have HEL1 : Hid (E1.length ≤ 7004) := by
            have h1 := HEL0.out
            have h2 := phG_le (m : Int) x.phis x.phis.length
            rw [Hid, hE1, List.length_append]
            exact Nat.le_trans (Nat.add_le_add h1 h2) (by omega)
          have HQ1 := HQ
          have HA1 := HA
          clear HQ HA hE1
          have e1 := hqc 1 _ rfl
          clear hqc
          go_wp2_with fail
          clear e1
          go_loopw [55] (fun i wr => ∃ j : Nat, j ≤ x.head.length ∧ i = .int .i64 j ∧ Hid (EvR pick wr G n (E1 ++ mvG (m : Int) 1 x.head j)) ∧ Hid (Adds wk wr G)) (fun i _ => x.head.length - (intOf i).toNat)
          case atStart => exact ⟨0, Nat.zero_le _, rfl, HQ1.out.to (List.append_nil _), HA1.out⟩
          clear HQ1 HA1
          case round =>
            obtain ⟨j, hj, rfl, HQ, HA⟩ := hrel
            obtain ⟨hqc, hbw⟩ := HQC.out wr HA.out
            have HBw := Lib.hid hbw
            clear hbw
            by_cases hjl : j < x.head.length
            case neg =>
              obtain rfl : j = x.head.length := by omega
              obtain ⟨E2, hE2⟩ : ∃ E, E = E1 ++ mvG (m : Int) 1 x.head x.head.length := ⟨_, rfl⟩
              rw [← hE2] at HQ
              have HE2 := Lib.hid hE2
              have HEL2 : Hid (E2.length ≤ 7044) := by
                have h1 := HEL1.out
                have h2 := mvG_le (m : Int) 1 x.head x.head.length
                rw [Hid, hE2, List.length_append]
                exact Nat.le_trans (Nat.add_le_add h1 h2) (by omega)
              have HQ2 := HQ
              have HA2 := HA
              clear HQ HA hE2
              have e2 := hqc 2 _ rfl
              clear hqc
              go_wp2_with fail
              clear e2
              go_loopw [69] (fun i wr => ∃ j : Nat, j ≤ x.body.length ∧ i = .int .i64 j ∧ Hid (EvR pick wr G n (E2 ++ insG (m : Int) x.body j)) ∧ Hid (Adds wk wr G)) (fun i _ => x.body.length - (intOf i).toNat)
              case atStart => exact ⟨0, Nat.zero_le _, rfl, HQ2.out.to (List.append_nil _), HA2.out⟩
              clear HQ2 HA2
              case round =>
                obtain ⟨j, hj, rfl, HQ, HA⟩ := hrel
                obtain ⟨hqc, hbw⟩ := HQC.out wr HA.out
                have HBw := Lib.hid hbw
                clear hbw
                by_cases hjl : j < x.body.length
                case neg =>
                  obtain rfl : j = x.body.length := by omega
                  obtain ⟨E3, hE3⟩ : ∃ E, E = E2 ++ insG (m : Int) x.body x.body.length := ⟨_, rfl⟩
                  rw [← hE3] at HQ
                  have HE3 := Lib.hid hE3
                  have HEL3 : Hid (E3.length ≤ 7124) := by
                    have h1 := HEL2.out
                    have h2 := insG_le (m : Int) x.body x.body.length
                    rw [Hid, hE3, List.length_append]
                    exact Nat.le_trans (Nat.add_le_add h1 h2) (by omega)
                  have HQ3 := HQ
                  have HA3 := HA
                  clear HQ HA hE3
                  have e3 := hqc 3 _ rfl
                  clear hqc
                  go_wp2_with fail
                  clear e3
                  go_loopw [89] (fun i wr => ∃ j : Nat, j ≤ x.tail.length ∧ i = .int .i64 j ∧ Hid (EvR pick wr G n (E3 ++ mvG (m : Int) (2 + (x.body.length : Int)) x.tail j)) ∧ Hid (Adds wk wr G)) (fun i _ => x.tail.length - (intOf i).toNat)
                  case atStart => exact ⟨0, Nat.zero_le _, rfl, HQ3.out.to (List.append_nil _), HA3.out⟩
                  clear HQ3 HA3
                  case round =>
                    obtain ⟨j, hj, rfl, HQ, HA⟩ := hrel
                    obtain ⟨hqc, hbw⟩ := HQC.out wr HA.out
                    have HBw := Lib.hid hbw
                    clear hbw
                    by_cases hjl : j < x.tail.length
                    case neg =>
                      obtain rfl : j = x.tail.length := by omega
                      obtain ⟨E4, hE4⟩ : ∃ E, E = E3 ++ mvG (m : Int) (2 + (x.body.length : Int)) x.tail x.tail.length := ⟨_, rfl⟩
                      rw [← hE4] at HQ
                      have HE4 := Lib.hid hE4
                      have HEL4 : Hid (E4.length ≤ 7164) := by
                        have h1 := HEL3.out
                        have h2 := mvG_le (m : Int) (2 + (x.body.length : Int)) x.tail x.tail.length
                        rw [Hid, hE4, List.length_append]
                        exact Nat.le_trans (Nat.add_le_add h1 h2) (by omega)
                      have HQ4 := HQ
                      have HA4 := HA
                      clear HQ HA hE4
                      have HQ9 : Hid (EvR pick wr G n (defsK f (m + 1))) := HQ4.out.to (by
                        rw [HE4.out, HE3.out, HE2.out, HE1.out, HE0.out]
                        unfold defsK
                        rw [upTo_succ Hxk.out]
                        unfold blkG
                        simp only [List.append_assoc])
                      have HA9 := Lib.hid (HAk.out.trans HA4.out)
                      clear HQ4 HA4 hqc
                      go_wp2_with fail
                      go_roundw
                      case rel => exact ⟨m + 1, by omega, by go_num, HQ9.out, HA9.out⟩
                      case measure => simp [intOf]; omega
                    have hxj : x.tail[j]? = some x.tail[j] := List.getElem?_eq_getElem hjl
                    generalize x.tail[j] = y at hxj
                    obtain ⟨b', off', rfl, hDb', hrow'⟩ := H3.out (by intro h; rw [h] at hjl; simp at hjl)
                    obtain ⟨ds, hE, hds⟩ := hrow' j y hxj
                    have hbl' := hD b' hDb'
                    have hjl' : (j : Int) < (x.tail.length : Int) := by omega
                    have Hxj := Lib.hid hxj
                    obtain rfl := hE
                    have d0 : wr.cell? ⟨b', off' + j * 2, none⟩ = some (.int .i64 y.dst) := (HBw.out.cell (p := ⟨b', _, none⟩) hbl').trans (hds 0 _ rfl).1
                    have d1 : wr.cell? ⟨b', off' + j * 2 + 1, none⟩ = some (.int .i64 y.src) := (HBw.out.cell (p := ⟨b', _, none⟩) hbl').trans (hds 1 _ rfl).1
                    have hnb := (HTl.out j y hxj).1
                    rw [HN.out] at hnb
                    obtain ⟨t, ht, htn⟩ := name_nat hnb
                    rw [ht] at d0
                    clear hnb
                    clear hds hrow' hxj hqc
                    have HL := Lib.hid (pick_le (evs := E3 ++ mvG (m : Int) (2 + (x.body.length : Int)) x.tail j) t (by have h1 := HEL3.out; have h2 := mvG_le (m : Int) (2 + (x.body.length : Int)) x.tail j; rw [List.length_append]; omega))
                    have hn2 : x.body.length ≤ 1000 := by omega
                    go_upto_region 30 with fail
                    have hBm : Below wr.heap.size wr (wr.alloc (.cells #[.int .i64 t, .int .i64 y.src] 90)) := (Below.refl _ _).alloc (Nat.le_refl _) _
                    have hkm : (wr.alloc (.cells #[.int .i64 t, .int .i64 y.src] 90)).cell? ⟨wr.heap.size, 0, none⟩ = some (.int .i64 t) := by go_simp
                    have hnom : ¬ Owns (wr.alloc (.cells #[.int .i64 t, .int .i64 y.src] 90)) G wr.heap.size := not_owned HQ.out hBm (Nat.le_refl _)
                    have HQm := Lib.hid (HQ.out.below hBm)
                    have HAm := Lib.hid (HA.out.trans (Adds.below hBm (QRow.lt HQ.out)))
                    have hqm : wr.heap.size < (wr.alloc (.cells #[.int .i64 t, .int .i64 y.src] 90)).heap.size := by simp
                    obtain ⟨q9, hq9⟩ : ∃ q, q = wr.heap.size := ⟨_, rfl⟩
                    rw [← hq9] at hkm hnom hqm ⊢
                    generalize wr.alloc (.cells #[.int .i64 t, .int .i64 y.src] 90) = wm at *
                    obtain ⟨hqm', _⟩ := HQC.out wm HAm.out
                    have hS : ∀ w', Adds wm w' G → (fun w' => w'.cell? ⟨q, 0, none⟩ = some (.slice A0 x.phis.length q0) ∧ w'.cell? ⟨q, 1, none⟩ = some (.slice A1 x.head.length q1) ∧ w'.cell? ⟨q, 2, none⟩ = some (.slice A2 x.body.length q2) ∧ w'.cell? ⟨q, 3, none⟩ = some (.slice (some ⟨b', off', none⟩) x.tail.length q3) ∧ w'.cell? ⟨q, 4, none⟩ = some (.int .i64 x.fin.k) ∧ w'.cell? ⟨q, 5, none⟩ = some (.int .i64 x.fin.a) ∧ w'.cell? ⟨q, 6, none⟩ = some (.int .i64 x.fin.t) ∧ w'.cell? ⟨q, 7, none⟩ = some (.int .i64 x.fin.l) ∧ w'.cell? ⟨q9, 0, none⟩ = some (.int .i64 t)) w' := fun w' ha => by
                      obtain ⟨h, _⟩ := HQC.out w' (HAm.out.trans ha)
                      exact ⟨h 0 _ rfl, h 1 _ rfl, h 2 _ rfl, h 3 _ rfl, h 4 _ rfl, h 5 _ rfl, h 6 _ rfl, h 7 _ rfl, (ha.cellA hqm hnom 0).trans hkm⟩
                    have HSS := Lib.hid hS
                    have HLT := Lib.hid (QRow.lt HQm.out)
                    have Kd : (fun w' => w'.cell? ⟨q, 0, none⟩ = some (.slice A0 x.phis.length q0) ∧ w'.cell? ⟨q, 1, none⟩ = some (.slice A1 x.head.length q1) ∧ w'.cell? ⟨q, 2, none⟩ = some (.slice A2 x.body.length q2) ∧ w'.cell? ⟨q, 3, none⟩ = some (.slice (some ⟨b', off', none⟩) x.tail.length q3) ∧ w'.cell? ⟨q, 4, none⟩ = some (.int .i64 x.fin.k) ∧ w'.cell? ⟨q, 5, none⟩ = some (.int .i64 x.fin.a) ∧ w'.cell? ⟨q, 6, none⟩ = some (.int .i64 x.fin.t) ∧ w'.cell? ⟨q, 7, none⟩ = some (.int .i64 x.fin.l) ∧ w'.cell? ⟨q9, 0, none⟩ = some (.int .i64 t)) wm.drew := hS _ (Adds.below ((Below.refl _ _).drew) HLT.out)
                    clear hqm' hS hBm hkm hnom hqm HQ HA hq9 d0 d1
                    refine wp_region_held_drew (S := ((fun w' => w'.cell? ⟨q, 0, none⟩ = some (.slice A0 x.phis.length q0) ∧ w'.cell? ⟨q, 1, none⟩ = some (.slice A1 x.head.length q1) ∧ w'.cell? ⟨q, 2, none⟩ = some (.slice A2 x.body.length q2) ∧ w'.cell? ⟨q, 3, none⟩ = some (.slice (some ⟨b', off', none⟩) x.tail.length q3) ∧ w'.cell? ⟨q, 4, none⟩ = some (.int .i64 x.fin.k) ∧ w'.cell? ⟨q, 5, none⟩ = some (.int .i64 x.fin.a) ∧ w'.cell? ⟨q, 6, none⟩ = some (.int .i64 x.fin.t) ∧ w'.cell? ⟨q, 7, none⟩ = some (.int .i64 x.fin.l) ∧ w'.cell? ⟨q9, 0, none⟩ = some (.int .i64 t)))) (by kernel_rfl) ?_ (fun hHeld => ?_)
                    · (try dsimp only)
                      (first | exact Kd | exact HK7.out | exact HK8.out | fail)
                    refine wpAnyH_take (i := 0) (v := ?_) rfl (by kernel_rfl) (by kernel_rfl) (by kernel_rfl) (fun _ _ _ h => h) (Or.inl ⟨by rfl, ?_⟩) (by assumption) ?_
                    rotate_left
                    · intro w hSw
                      simp only [List.getElem_toArray, List.getElem_cons_zero]
                      (try dsimp only at hSw)
                      go_simp
                      first | done | (with_reducible rfl)
                    simp only [List.getElem_toArray, List.getElem_cons_zero, Act.put, List.setIfInBounds_toArray, List.set_cons_zero, List.set_cons_succ]
                    refine wpAnyH_take (i := 1) (v := ?_) rfl (by kernel_rfl) (by kernel_rfl) (by kernel_rfl) (fun _ _ _ h => h) (Or.inl ⟨by rfl, ?_⟩) (by assumption) ?_
                    rotate_left
                    · intro w hSw
                      simp only [List.getElem_toArray, List.getElem_cons_succ, List.getElem_cons_zero]
                      (try dsimp only at hSw)
                      go_simp
                      first | done | (with_reducible rfl)
                    simp only [List.getElem_toArray, List.getElem_cons_succ, List.getElem_cons_zero, Act.put, List.setIfInBounds_toArray, List.set_cons_zero, List.set_cons_succ]
                    refine wpAnyH_take (i := 2) (v := ?_) rfl (by kernel_rfl) (by kernel_rfl) (by kernel_rfl) (fun _ _ _ h => h) (Or.inl ⟨by rfl, ?_⟩) (by assumption) ?_
                    rotate_left
                    · intro w hSw
                      simp only [List.getElem_toArray, List.getElem_cons_succ, List.getElem_cons_zero]
                      (try dsimp only at hSw)
                      go_simp
                      first | done | (with_reducible rfl)
                    simp only [List.getElem_toArray, List.getElem_cons_succ, List.getElem_cons_zero, Act.put, List.setIfInBounds_toArray, List.set_cons_zero, List.set_cons_succ]
                    refine wpAnyH_take (i := 3) (v := ?_) rfl (by kernel_rfl) (by kernel_rfl) (by kernel_rfl) (fun _ _ _ h => h) (Or.inl ⟨by rfl, ?_⟩) (by assumption) ?_
                    rotate_left
                    · intro w hSw
                      simp only [List.getElem_toArray, List.getElem_cons_succ, List.getElem_cons_zero]
                      (try dsimp only at hSw)
                      go_simp
                      first | done | (with_reducible rfl)
                    simp only [List.getElem_toArray, List.getElem_cons_succ, List.getElem_cons_zero, Act.put, List.setIfInBounds_toArray, List.set_cons_zero, List.set_cons_succ]
                    refine wpAnyH_take (i := 4) (v := ?_) rfl (by kernel_rfl) (by kernel_rfl) (by kernel_rfl) (fun _ _ _ h => h) (Or.inl ⟨by rfl, ?_⟩) (by assumption) ?_
                    rotate_left
                    · intro w hSw
                      simp only [List.getElem_toArray, List.getElem_cons_succ, List.getElem_cons_zero]
                      (try dsimp only at hSw)
                      go_simp
                      first | done | (with_reducible rfl)
                    simp only [List.getElem_toArray, List.getElem_cons_succ, List.getElem_cons_zero, Act.put, List.setIfInBounds_toArray, List.set_cons_zero, List.set_cons_succ]
                    refine wpAnyH_ready (rs := [5]) (by kernel_rfl) (by simp) ?_
                    refine AllReadyH.cons rfl (fun K hK => ?_) AllReadyH.nil
                    simp only [List.getElem_toArray, List.getElem_cons_succ, List.getElem_cons_zero]
                    go_simp
                    (first | (go_at_call 49; refine (tailTime_any _ _ _ _ _ _ _ _ _ _ _ hn2).mono ?_; rintro e w7 ⟨rfl, hb7⟩; have HB7 := Lib.hid ((Below.refl _ _).drew.trans hb7); have HK7 := Lib.hid (HSS.out _ (Adds.below HB7.out HLT.out)); clear hb7) | (go_at_call 48; refine (add_any G n (fun i => pick (E3 ++ mvG (m : Int) (2 + (x.body.length : Int)) x.tail j) (i : Int)) t ⟨(m : Int), 2 + (x.body.length : Int)⟩ _ (HQm.out.below HB7.out) htn HL.out).mono ?_; rintro e w8 ⟨_, rfl, hq8, ha8⟩; have HQ8 := Lib.hid hq8; have HA8 := Lib.hid ((Adds.below HB7.out HLT.out).trans ha8); have HK8 := Lib.hid (HSS.out _ HA8.out); clear hq8 ha8) | fail)
                    go_wp2_with fail
                    refine hK.out _ _ ?_ (fun hHeld => ?_)
                    · (try dsimp only)
                      (first | exact Kd | exact HK7.out | exact HK8.out | fail)
                    clear hK K
                    (try simp only [List.getElem_toArray, List.getElem_cons_succ, List.getElem_cons_zero, Act.put, List.setIfInBounds_toArray, List.set_cons_zero, List.set_cons_succ])
                    refine wpAnyH_take (i := 6) (v := ?_) rfl (by kernel_rfl) (by kernel_rfl) (by kernel_rfl) (fun _ _ _ h => h) (Or.inl ⟨by rfl, ?_⟩) (by assumption) ?_
                    rotate_left
                    · intro w hSw
                      simp only [List.getElem_toArray, List.getElem_cons_succ, List.getElem_cons_zero]
                      (try dsimp only at hSw)
                      go_simp
                      first | done | (with_reducible rfl)
                    simp only [List.getElem_toArray, List.getElem_cons_succ, List.getElem_cons_zero, Act.put, List.setIfInBounds_toArray, List.set_cons_zero, List.set_cons_succ]
                    refine wpAnyH_ready (rs := [7]) (by kernel_rfl) (by simp) ?_
                    refine AllReadyH.cons rfl (fun K hK => ?_) AllReadyH.nil
                    simp only [List.getElem_toArray, List.getElem_cons_succ, List.getElem_cons_zero]
                    go_simp
                    (first | (go_at_call 49; refine (tailTime_any _ _ _ _ _ _ _ _ _ _ _ hn2).mono ?_; rintro e w7 ⟨rfl, hb7⟩; have HB7 := Lib.hid ((Below.refl _ _).drew.trans hb7); have HK7 := Lib.hid (HSS.out _ (Adds.below HB7.out HLT.out)); clear hb7) | (go_at_call 48; refine (add_any G n (fun i => pick (E3 ++ mvG (m : Int) (2 + (x.body.length : Int)) x.tail j) (i : Int)) t ⟨(m : Int), 2 + (x.body.length : Int)⟩ _ (HQm.out.below HB7.out) htn HL.out).mono ?_; rintro e w8 ⟨_, rfl, hq8, ha8⟩; have HQ8 := Lib.hid hq8; have HA8 := Lib.hid ((Adds.below HB7.out HLT.out).trans ha8); have HK8 := Lib.hid (HSS.out _ HA8.out); clear hq8 ha8) | fail)
                    go_wp2_with fail
                    refine hK.out _ _ ?_ (fun hHeld => ?_)
                    · (try dsimp only)
                      (first | exact Kd | exact HK7.out | exact HK8.out | fail)
                    clear hK K
                    (try simp only [List.getElem_toArray, List.getElem_cons_succ, List.getElem_cons_zero, Act.put, List.setIfInBounds_toArray, List.set_cons_zero, List.set_cons_succ])
                    refine wpAnyH_done (by kernel_rfl) ?_ _
                    have HQ3 : Hid (EvR pick w8 G n (E3 ++ mvG (m : Int) (2 + (x.body.length : Int)) x.tail (j + 1))) := EvR.add HQ8.out (by rw [mvG_succ Hxj.out, ht, List.append_assoc])
                    have HA3 := Lib.hid (HAm.out.trans HA8.out)
                    clear HQ8 HA8 HK8 HK7 Kd
                    go_wp2_with fail
                    go_roundw
                    case rel => exact ⟨j + 1, by omega, by go_num, HQ3.out, HA3.out⟩
                    case measure => simp [intOf]; omega
                have hxj : x.body[j]? = some x.body[j] := List.getElem?_eq_getElem hjl
                generalize x.body[j] = y at hxj
                obtain ⟨b', off', rfl, hDb', hrow'⟩ := H2.out (by intro h; rw [h] at hjl; simp at hjl)
                obtain ⟨ds, hE, hds⟩ := hrow' j y hxj
                have hbl' := hD b' hDb'
                have hjl' : (j : Int) < (x.body.length : Int) := by omega
                have Hxj := Lib.hid hxj
                obtain rfl := hE
                have d0 : wr.cell? ⟨b', off' + j * 4, none⟩ = some (.int .i64 y.op) := (HBw.out.cell (p := ⟨b', _, none⟩) hbl').trans (hds 0 _ rfl).1
                have d1 : wr.cell? ⟨b', off' + j * 4 + 1, none⟩ = some (.int .i64 y.v) := (HBw.out.cell (p := ⟨b', _, none⟩) hbl').trans (hds 1 _ rfl).1
                have d2 : wr.cell? ⟨b', off' + j * 4 + 2, none⟩ = some (.int .i64 y.a) := (HBw.out.cell (p := ⟨b', _, none⟩) hbl').trans (hds 2 _ rfl).1
                have d3 : wr.cell? ⟨b', off' + j * 4 + 3, none⟩ = some (.int .i64 y.b) := (HBw.out.cell (p := ⟨b', _, none⟩) hbl').trans (hds 3 _ rfl).1
                clear hds hrow' hxj hqc
                by_cases hyv : y.v = -1
                case pos =>
                  have hyb : (y.v != -1) = false := by simpa using hyv
                  have HQ3 : Hid (EvR pick (wr.alloc (.cells #[.int .i64 y.op, .int .i64 y.v, .int .i64 y.a, .int .i64 y.b] 62)) G n (E2 ++ insG (m : Int) x.body (j + 1))) := (HQ.out.below ((Below.refl _ _).alloc (Nat.le_refl _) _)).to (by rw [insG_skip Hxj.out hyv])
                  have HA3 := Lib.hid (HA.out.trans (Adds.below ((Below.refl wr.heap.size wr).alloc (Nat.le_refl _) (.cells #[.int .i64 y.op, .int .i64 y.v, .int .i64 y.a, .int .i64 y.b] 62)) (QRow.lt HQ.out)))
                  clear HQ HA hyv
                  go_wp2_with fail
                  go_roundw
                  case rel => exact ⟨j + 1, by omega, by go_num, HQ3.out, HA3.out⟩
                  case measure => simp [intOf]; omega
                have hyb : (y.v != -1) = true := by simpa using hyv
                obtain ⟨t, ht⟩ : ∃ t : Nat, y.v = t := ⟨y.v.toNat, by have := insP_v (HBd.out j y Hxj.out); omega⟩
                have htn : t < n := by have := (HBd.out j y Hxj.out).2.1; rw [HN.out] at this; omega
                have HYV := Lib.hid hyv
                rw [ht] at d1 hyb
                clear hyv
                have HL := Lib.hid (pick_le (evs := E2 ++ insG (m : Int) x.body j) t (by have h1 := HEL2.out; have h2 := insG_le (m : Int) x.body j; rw [List.length_append]; omega))
                go_wp2_with fail
                refine (add_any G n (fun i => pick (E2 ++ insG (m : Int) x.body j) (i : Int)) t ⟨(m : Int), 2 + (j : Int)⟩ _ (HQ.out.below ((Below.refl _ _).alloc (Nat.le_refl _) _)) htn HL.out).mono ?_
                rintro e w3 ⟨_, rfl, hq3, ha3⟩
                have HQ3 : Hid (EvR pick w3 G n (E2 ++ insG (m : Int) x.body (j + 1))) := EvR.add hq3 (by rw [insG_succ Hxj.out HYV.out, ht, List.append_assoc])
                have HA3 := Lib.hid ((HA.out.trans (Adds.below ((Below.refl wr.heap.size wr).alloc (Nat.le_refl _) (.cells #[.int .i64 y.op, .int .i64 t, .int .i64 y.a, .int .i64 y.b] 62)) (QRow.lt HQ.out))).trans ha3)
                clear hq3 ha3 HQ HA d0 d1 d2 d3
                go_wp2_with fail
                go_roundw
                case rel => exact ⟨j + 1, by omega, by go_num, HQ3.out, HA3.out⟩
                case measure => simp [intOf]; omega
            have hxj : x.head[j]? = some x.head[j] := List.getElem?_eq_getElem hjl
            generalize x.head[j] = y at hxj
            obtain ⟨b', off', rfl, hDb', hrow'⟩ := H1.out (by intro h; rw [h] at hjl; simp at hjl)
            obtain ⟨ds, hE, hds⟩ := hrow' j y hxj
            have hbl' := hD b' hDb'
            have hjl' : (j : Int) < (x.head.length : Int) := by omega
            have Hxj := Lib.hid hxj
            obtain rfl := hE
            have d0 : wr.cell? ⟨b', off' + j * 2, none⟩ = some (.int .i64 y.dst) := (HBw.out.cell (p := ⟨b', _, none⟩) hbl').trans (hds 0 _ rfl).1
            have d1 : wr.cell? ⟨b', off' + j * 2 + 1, none⟩ = some (.int .i64 y.src) := (HBw.out.cell (p := ⟨b', _, none⟩) hbl').trans (hds 1 _ rfl).1
            have hnb := (HHd.out j y hxj).1
            rw [HN.out] at hnb
            obtain ⟨t, ht, htn⟩ := name_nat hnb
            rw [ht] at d0
            clear hnb
            clear hds hrow' hxj hqc
            have HL := Lib.hid (pick_le (evs := E1 ++ mvG (m : Int) 1 x.head j) t (by have h1 := HEL1.out; have h2 := mvG_le (m : Int) 1 x.head j; rw [List.length_append]; omega))
            go_wp2_with fail
            refine (add_any G n (fun i => pick (E1 ++ mvG (m : Int) 1 x.head j) (i : Int)) t ⟨(m : Int), 1⟩ _ (HQ.out.below ((Below.refl _ _).alloc (Nat.le_refl _) _)) htn HL.out).mono ?_
            rintro e w3 ⟨_, rfl, hq3, ha3⟩
            have HQ3 : Hid (EvR pick w3 G n (E1 ++ mvG (m : Int) 1 x.head (j + 1))) := EvR.add hq3 (by rw [mvG_succ Hxj.out, ht, List.append_assoc])
            have HA3 := Lib.hid ((HA.out.trans (Adds.below ((Below.refl wr.heap.size wr).alloc (Nat.le_refl _) (.cells #[.int .i64 t, .int .i64 y.src] 90)) (QRow.lt HQ.out))).trans ha3)
            clear hq3 ha3 HQ HA d0 d1
            go_wp2_with fail
            go_roundw
            case rel => exact ⟨j + 1, by omega, by go_num, HQ3.out, HA3.out⟩
            case measure => simp [intOf]; omega
        have hxj : x.phis[j]? = some x.phis[j] := List.getElem?_eq_getElem hjl
        generalize x.phis[j] = y at hxj
        obtain ⟨b', off', rfl, hDb', hrow'⟩ := H0.out (by intro h; rw [h] at hjl; simp at hjl)
        obtain ⟨ds, hE, hds⟩ := hrow' j y hxj
        have hbl' := hD b' hDb'
        have hjl' : (j : Int) < (x.phis.length : Int) := by omega
        have Hxj := Lib.hid hxj
        obtain ⟨u', rfl, _, A5, q5, rfl, _⟩ := hE
        have d0 : wr.cell? ⟨b', off' + j * 2, none⟩ = some (.int .i64 y.v) := (HBw.out.cell (p := ⟨b', _, none⟩) hbl').trans (hds 0 _ rfl).1
        have d1 : wr.cell? ⟨b', off' + j * 2 + 1, none⟩ = some (.slice A5 y.args.length q5) := (HBw.out.cell (p := ⟨b', _, none⟩) hbl').trans (hds 1 _ rfl).1
        have hnb := (HPh.out j y hxj).1
        rw [HN.out] at hnb
        obtain ⟨t, ht, htn⟩ := name_nat hnb
        rw [ht] at d0
        clear hnb
        clear hds hrow' hxj hqc
        have HL := Lib.hid (pick_le (evs := E0 ++ phG (m : Int) x.phis j) t (by have h1 := HEL0.out; have h2 := phG_le (m : Int) x.phis j; rw [List.length_append]; omega))
        go_wp2_with fail
        refine (add_any G n (fun i => pick (E0 ++ phG (m : Int) x.phis j) (i : Int)) t ⟨(m : Int), 0⟩ _ (HQ.out.below ((Below.refl _ _).alloc (Nat.le_refl _) _)) htn HL.out).mono ?_
        rintro e w3 ⟨_, rfl, hq3, ha3⟩
        have HQ3 : Hid (EvR pick w3 G n (E0 ++ phG (m : Int) x.phis (j + 1))) := EvR.add hq3 (by rw [phG_succ Hxj.out, ht, List.append_assoc])
        have HA3 := Lib.hid ((HA.out.trans (Adds.below ((Below.refl wr.heap.size wr).alloc (Nat.le_refl _) (.cells #[.int .i64 t, .slice A5 y.args.length q5] 88)) (QRow.lt HQ.out))).trans ha3)
        clear hq3 ha3 HQ HA d0 d1
        go_wp2_with fail
        go_roundw
        case rel => exact ⟨j + 1, by omega, by go_num, HQ3.out, HA3.out⟩
        case measure => simp [intOf]; omega
end

end Go.Proofs.YtnjmlhokkhkaaaaGreatDoor
