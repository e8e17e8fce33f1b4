/- comeTo: the walk in depth of the program. -/
import Derived.Test.YteikpekffgifoaaDoorFr
namespace Go.Proofs.YteikpekffgifoaaDoor
open Go.ChangeShapes Go.WideShapes Go.ChangeAt Go.RowKit Go.Joins

theorem targets_of {f : FunD} (h : FunP f) : TargetsOk f.blocks := fun k x hx => by
  have he := (h.1.2.2.2.2 k x hx).1
  refine ⟨he.1, fun t ht => ?_⟩
  have hr := endOk_range he.1
  have h1 := he.1
  have h2 := he.2.2
  unfold toL at ht
  rcases hr with e | e | e
  · rw [e] at ht; simp at ht
  · rw [e] at ht h1
    simp at ht
    subst ht
    simp [endOkB, isBelowB] at h1
    omega
  · rw [e] at ht h1
    simp at ht
    simp [endOkB, isBelowB] at h1
    omega

/-- The walk's record W, its row q of those seen, its row of those finished. -/
structure CSt (w : World) (W q B N : Nat) (A : Option Addr) (c : Nat) (fin : Value) (st : List Bool × List Int) : Prop where
  hw : w.heap[W]? = some (.cells #[.slice A N c, .slice (some ⟨q, 0, none⟩) N N, fin] 80 (0, 0))
  hb : BL w q N st.1
  hf : OI w B fin st.2

/-- What the walk may turn. -/
def CP (W q : Nat) (fin : Value) (k : Nat) : Prop := k = W ∨ k = q ∨ fin.ownBlock = some k

theorem CSt.cells {w : World} {W q B N : Nat} {A : Option Addr} {c : Nat} {fin : Value} {st : List Bool × List Int} (h : CSt w W q B N A c fin st) :
    w.cell? ⟨W, 0, none⟩ = some (.slice A N c) ∧ w.cell? ⟨W, 1, none⟩ = some (.slice (some ⟨q, 0, none⟩) N N) ∧ w.cell? ⟨W, 2, none⟩ = some fin ∧ ∀ j, w.frozen? ⟨W, j, none⟩ = false :=
  ⟨cell_of_row w W 0 _ _ (0, 0) h.hw, cell_of_row w W 1 _ _ (0, 0) h.hw, cell_of_row w W 2 _ _ (0, 0) h.hw, fun j => by simp [World.frozen?, h.hw]⟩

theorem CSt.fw {w w' : World} {W q B N : Nat} {A : Option Addr} {c : Nat} {fin : Value} {st : List Bool × List Int} {P : Nat → Prop} (h : CSt w W q B N A c fin st) (hf : Fw P w w') (hn : ∀ k, CP W q fin k → ¬ P k) : CSt w' W q B N A c fin st :=
  ⟨(hf.block W (Array.getElem?_eq_some_iff.1 h.hw).1 (hn W (.inl rfl))).trans h.hw, h.hb.fw hf (hn q (.inr (.inl rfl))), h.hf.fw hf fun k hk => hn k (.inr (.inr hk))⟩

theorem CSt.seen {w : World} {W q B N : Nat} {A : Option Addr} {c : Nat} {fin : Value} {s : List Bool} {o : List Int} (h : CSt w W q B N A c fin (s, o)) (hq : q < B) (hWq : W ≠ q) (k : Nat) : CSt (w.setCell ⟨q, k, none⟩ (.bool true)) W q B N A c fin (s.set k true, o) :=
  ⟨(Below.heap_setCell w ⟨q, k, none⟩ _ W hWq).trans h.hw, h.hb.set k true, h.hf.grown (set_grown w q k _) (by
    rcases hob : fin.ownBlock with _ | kk
    · exact .inl rfl
    · refine .inr fun e => ?_
      injection e with e
      have := (h.hf.lt kk hob).1
      omega)⟩

theorem CSt.done {w w' : World} {W q B N : Nat} {A : Option Addr} {c : Nat} {fin fin' : Value} {s : List Bool} {o o' : List Int} (h : CSt w W q B N A c fin (s, o)) (hg : w.grownBy w' fin.ownBlock) (ho : OI w' B fin' o') (hqB : q < B) (hW : W < B) (hWq : W ≠ q) : CSt (w'.setCell ⟨W, 2, none⟩ fin') W q B N A c fin' (s, o') := by
  have hne : ∀ k, k < B → some k ≠ fin.ownBlock := fun k hk e => by have := (h.hf.lt k e.symm).1; omega
  have h1 := (hg.block W (Array.getElem?_eq_some_iff.1 h.hw).1 (hne W hW)).trans h.hw
  refine ⟨heap_setCell_same w' W 2 _ _ _ h1, ?_, ?_⟩
  · have hb1 : BL w' q N s := h.hb.fw (Fw.grown (P := fun k => fin.ownBlock = some k) hg fun g e _ => e) fun e => hne q hqB e.symm
    exact hb1.fw (Fw.set (P := fun k => k = W) w' rfl 2 fin') fun e => hWq e.symm
  · exact ho.grown (set_grown w' W 2 _) (by
      rcases hob : fin'.ownBlock with _ | kk
      · exact .inl rfl
      · refine .inr fun e => ?_
        injection e with e
        have := (ho.lt kk hob).1
        omega)

def ComeTo (w : World) (W q B N : Nat) (A : Option Addr) (c : Nat) (fin : Value) (st : List Bool × List Int) (e : Ending) (w' : World) : Prop :=
  ∃ v fin', e = .returned v ∧ CSt w' W q B N A c fin' st ∧ Fw (CP W q fin) w w' ∧ (fin'.ownBlock = fin.ownBlock ∨ ∃ k, fin'.ownBlock = some k ∧ w.heap.size ≤ k)

set_option maxRecDepth 10000 in
set_option maxHeartbeats 2000000 in
theorem comeTo_any (bs : List BlockD) (b0 off : Nat) (c : Nat) (Z : Zn) (W q B K : Nat) (ht : TargetsOk bs) (hn : bs.length ≤ 1000) (hK : K ≤ 1000000) (hD : ∀ b, Z.D b → b < B ∧ b ≠ W ∧ b ≠ q) (hW : W < B) (hq : q < B) (hWq : W ≠ q) :
    ∀ (n b : Nat) (w : World) (fin : Value) (st : List Bool × List Int), CSt w W q B bs.length (some ⟨b0, off, none⟩) c fin st → Row w Z 8 (EBlock w Z) (.slice (some ⟨b0, off, none⟩) bs.length c) bs → B ≤ w.heap.size → Inv bs.length K st → cf st.1 ≤ n → st.1[b]? = some false →
    Calls Tryd.prog 74 #[.pointer (some ⟨W, 0, none⟩), .int .i64 b] w (ComeTo w W q B bs.length (some ⟨b0, off, none⟩) c fin (dfs (scF bs) n b st)) := by
  intro n
  induction n with
  | zero => intro b w fin st _ _ _ _ hcf hb; have := cf_pos hb; omega
  | succ n ih =>
    intro b w fin st hst hrow hBw hinv hcf hb
    obtain ⟨s, o⟩ := st
    have hsc := Lib.hid ht.sc
    have hbN : b < bs.length := by rw [← hinv.len]; exact (List.getElem?_eq_some_iff.1 hb).1
    have hbN' : (b : Int) < (bs.length : Int) := by omega
    have hb0 : 0 ≤ (b : Int) := by omega
    have h1000 : (bs.length : Int) ≤ 1000 := by omega
    obtain ⟨c0, c1, c2, cz⟩ := hst.cells
    have q0 := hst.hb.cell hb
    have qz := hst.hb.frozen b
    have HS1 := Lib.hid (hst.seen hq hWq b)
    obtain ⟨e0, e1, e2, ez⟩ := HS1.out.cells
    have HINV1 : Hid (Inv bs.length K (s.set b true, o)) := ⟨by have := hinv.len; simpa using this, by have h1 := hinv.cap; have h2 := cf_set hb; show o.length + cf (s.set b true) ≤ K; simp only at h1 h2; omega, hinv.mem⟩
    have HCF1 : Hid (cf (s.set b true) ≤ n) := by have h2 := cf_set hb; simp only at h2 hcf; show _ ≤ _; omega
    have hxk : bs[b]? = some bs[b] := List.getElem?_eq_getElem hbN
    generalize bs[b] = x at hxk
    have HROW := Lib.hid hrow
    obtain ⟨_, A', c', he, hx⟩ := hrow
    obtain ⟨b', off', eA, hDb, hrow'⟩ := hx (by intro h; rw [h] at hbN; simp at hbN)
    injection he with he _ hcc
    subst hcc
    subst eA
    injection he with he
    injection he with he1 he2 _
    subst he1 he2
    obtain ⟨cs, hE, hcs⟩ := hrow' b x hxk
    obtain ⟨_, _, _, _, rfl, _⟩ := hE
    have hDb' := hD b0 hDb
    have c4 : (w.setCell ⟨q, b, none⟩ (.bool true)).cell? ⟨b0, off + b * 8 + 4, none⟩ = some (.int .i64 x.fin.k) := (World.cell?_setCell_other _ _ _ _ (by intro e; injection e with e1 e2; omega)).trans (hcs 4 _ rfl).1
    have c5 : (w.setCell ⟨q, b, none⟩ (.bool true)).cell? ⟨b0, off + b * 8 + 4 + 1, none⟩ = some (.int .i64 x.fin.a) := (World.cell?_setCell_other _ _ _ _ (by intro e; injection e with e1 e2; omega)).trans (hcs 5 _ rfl).1
    have c6 : (w.setCell ⟨q, b, none⟩ (.bool true)).cell? ⟨b0, off + b * 8 + 4 + 2, none⟩ = some (.int .i64 x.fin.t) := (World.cell?_setCell_other _ _ _ _ (by intro e; injection e with e1 e2; omega)).trans (hcs 6 _ rfl).1
    have c7 : (w.setCell ⟨q, b, none⟩ (.bool true)).cell? ⟨b0, off + b * 8 + 4 + 3, none⟩ = some (.int .i64 x.fin.l) := (World.cell?_setCell_other _ _ _ _ (by intro e; injection e with e1 e2; omega)).trans (hcs 7 _ rfl).1
    have HSU := Lib.hid (ht.succs hxk)
    have HST := Lib.hid hst
    have HRNG := Lib.hid (ht.sc b hbN)
    have hs1 : (w.setCell ⟨q, b, none⟩ (.bool true)).heap.size = w.heap.size := nblk_set _ _ _
    have HF1 := Lib.hid (Fw.set (P := CP W q fin) w (.inr (.inl rfl)) b (.bool true))
    clear hst hcs hx hrow' hxk hb hcf hinv c2 e2
    go_enter Tryd.func74, Tryd.ntmps74
    go_wp2_with fail
    refine (SuccsOf_any _ _ _ _ _).mono ?_
    rintro e w2 ⟨r, rfl, hr, hb2⟩
    have HS2 : Hid (CSt w2 W q B bs.length (some ⟨b0, off, none⟩) c fin (s.set b true, o)) := HS1.out.fw (Fw.below (P := fun _ => False) hb2) (fun _ _ h => h)
    have HF2 : Hid (Fw (CP W q fin) w w2) := HF1.out.trans (Fw.below (P := fun _ => False) hb2) (fun _ _ h => h.elim)
    rw [HSU.out, hs1] at hr
    obtain ⟨us, hus⟩ : ∃ us, us = scF bs b := ⟨_, rfl⟩
    rw [← hus] at hr HRNG
    have HUS := Lib.hid hus
    have hul := hr.ri.1
    have hz2 := HF2.out.size
    have HU2 := Lib.hid hr
    obtain ⟨_, A5, c5', rfl, _⟩ := hr.ri
    clear hb2 hr hus e0 e1 ez c4 c5 c6 c7 c0 c1 q0 qz cz hs1 HS1 HF1
    go_wp2_with fail
    go_loopw [22] (fun i wr => ∃ (m : Nat) (fin' : Value), m ≤ us.length ∧ i = .int .i64 m ∧ Hid (CSt wr W q B bs.length (some ⟨b0, off, none⟩) c fin' (dlist (scF bs) n (us.take m) (s.set b true, o))) ∧ Hid (Fw (CP W q fin) w wr) ∧ Hid (OI wr w.heap.size (.slice A5 us.length c5') us) ∧ Hid (fin'.ownBlock = fin.ownBlock ∨ ∃ k, fin'.ownBlock = some k ∧ w2.heap.size ≤ k) ∧ w2.heap.size ≤ wr.heap.size) (fun i _ => us.length - (intOf i).toNat)
    case atStart => exact ⟨0, fin, Nat.zero_le _, rfl, HS2.out, HF2.out, HU2.out, .inl rfl, Nat.le_refl _⟩
    case round =>
      obtain ⟨m, fin', hm, rfl, HS, HF, HU, HA, hsz⟩ := hrel
      have HINV : Hid (Inv bs.length K (dlist (scF bs) n (us.take m) (s.set b true, o)) ∧ cf (dlist (scF bs) n (us.take m) (s.set b true, o)).1 ≤ n) := by
        have h := dlist_inv hsc.out n (us.take m) (s.set b true, o) (fun t ht => HRNG.out t (List.mem_of_mem_take ht)) HINV1.out
        exact ⟨h.1, Nat.le_trans h.2.1 HCF1.out⟩
      by_cases hml : m < us.length
      case neg =>
        obtain rfl : m = us.length := by omega
        have HDF : Hid (dfs (scF bs) (n + 1) b (s, o) = ((dlist (scF bs) n (us.take us.length) (s.set b true, o)).1, (dlist (scF bs) n (us.take us.length) (s.set b true, o)).2 ++ [(b : Int)])) := by
          rw [Hid, List.take_length, HUS.out, dfs_succ, Int.toNat_natCast]
        generalize dlist (scF bs) n (us.take us.length) (s.set b true, o) = st' at HS HINV HDF
        obtain ⟨s', o'⟩ := st'
        obtain ⟨d0, d1, d2, dz⟩ := HS.out.cells
        have hol : o'.length ≤ 1000000 := by have := HINV.out.1.cap; simp only at this; omega
        have HO := Lib.hid HS.out.hf
        have hWr : W < wr.heap.size := by omega
        have hneW : some W ≠ fin'.ownBlock := fun e => by have := (HO.out.lt W e.symm).1; omega
        have hlt' := HO.out.lt
        have HLT := Lib.hid hlt'
        clear hlt'
        have hBr : B ≤ wr.heap.size := by omega
        obtain ⟨_, A6, c6, rfl, _⟩ := HS.out.hf.ri
        clear d0 d1
        go_wp2_with (at_builtin; go_must (refine wpList_append_int rfl (.tmp 42) (.tmp 44) rfl B _ o' b wr rfl HO.out rfl (by omega) (by omega) ?_; intro v' w9 hown9 hg9 hat9; have HO9 := Lib.hid hown9; have HG9 := Lib.hid hg9; have HA9 := Lib.hid hat9; obtain ⟨_, A8, q8, rfl, _⟩ := hown9.ri; have x2 := (World.cell?_of_block (a := ⟨W, 2, none⟩) (hg9.block _ hWr hneW)).trans d2; have xf := (World.frozen?_of_block (a := ⟨W, 2, none⟩) (hg9.block _ hWr hneW)).trans (dz 2); clear hown9 hg9 hat9))
        go_end0
        have el : (o' ++ [(b : Int)]).length = o'.length + 1 := by simp
        have HA9' := HA9.out
        have HS9 := HS.out.done HG9.out HO9.out hq hW hWq
        rw [el] at HS9 HA9'
        refine ⟨_, .slice A8 (o'.length + 1) q8, rfl, ?_, ?_, ?_⟩
        · rw [HDF.out]
          exact HS9
        · refine (HF.out.trans (Fw.grown (P := CP W q (.slice A6 o'.length c6)) HG9.out fun g e _ => .inr (.inr e)) ?_).trans (Fw.set (P := fun k => k = W) w9 rfl 2 _) fun i _ e => .inl e
          intro i hi hP
          rcases hP with e | e | e
          · exact .inl e
          · exact .inr (.inl e)
          · rcases HA.out with h | ⟨k, h, hk⟩
            · exact .inr (.inr (h ▸ e))
            · rw [h] at e
              injection e with e
              omega
        · rcases HA9' with h | ⟨k, h, hk⟩
          · rcases HA.out with h' | ⟨k, h', hk⟩
            · exact .inl (h.trans h')
            · exact .inr ⟨k, h.trans h', by omega⟩
          · exact .inr ⟨k, h, by omega⟩
      have hum : us[m]? = some us[m] := List.getElem?_eq_getElem hml
      have hur := HRNG.out us[m] (List.getElem_mem hml)
      generalize us[m] = u at hum hur
      obtain ⟨k2, rfl⟩ : ∃ k2 : Nat, u = k2 := ⟨u.toNat, by omega⟩
      have hk2 : k2 < bs.length := by omega
      have hk2' : (k2 : Int) < (bs.length : Int) := by omega
      have hk20 : 0 ≤ (k2 : Int) := by omega
      obtain ⟨_, A5', c5'', he5, hux⟩ := HU.out.ri
      injection he5 with q1 _ q2
      subst q1 q2
      obtain ⟨b', off', rfl, hcell⟩ := hux (by rintro rfl; simp at hml)
      have p0 := hcell m _ hum
      have HDT : Hid (dlist (scF bs) n (us.take (m + 1)) (s.set b true, o) = dstep (scF bs) n (dlist (scF bs) n (us.take m) (s.set b true, o)) k2) := dlist_take _ _ hum _
      generalize dlist (scF bs) n (us.take m) (s.set b true, o) = st' at HS HINV HDT
      obtain ⟨s', o'⟩ := st'
      have hk2l : k2 < s'.length := by have := HINV.out.1.len; simp only at this; omega
      have hs' : s'[k2]? = some s'[k2] := List.getElem?_eq_getElem hk2l
      generalize s'[k2] = bb at hs'
      obtain ⟨d0, d1, d2, dz⟩ := HS.out.cells
      have g0 := HS.out.hb.cell hs'
      have Hs' := Lib.hid hs'
      have hsa := seenAt_of hs'
      clear hcell hux hum hur d0 d2 dz hs'
      cases bb
      case true =>
        have HDE : Hid (dlist (scF bs) n (us.take (m + 1)) (s.set b true, o) = (s', o')) := by rw [Hid, HDT.out, dstep, hsa, if_pos rfl]
        clear hsa
        go_wp2_with fail
        go_roundw
        case rel => exact ⟨m + 1, fin', by omega, by go_num, by rw [HDE.out]; exact HS.out, HF.out, HU.out, HA.out, hsz⟩
        case measure => simp [intOf]; omega
      have HDE : Hid (dlist (scF bs) n (us.take (m + 1)) (s.set b true, o) = dfs (scF bs) n k2 (s', o')) := by rw [Hid, HDT.out, dstep, hsa, if_neg (by decide)]
      have HR := Lib.hid (HROW.out.keep (Z' := Z) ⟨fun _ h => h, fun h => h, fun b1 hb1 => HF.out.block b1 (by have := (hD b1 hb1).1; omega) (by
        have h1 := hD b1 hb1
        rintro (e | e | e)
        · exact h1.2.1 e
        · exact h1.2.2 e
        · have := (HST.out.hf.lt b1 e).1; omega)⟩ fun _ _ h => h.keep ⟨fun _ h => h, fun h => h, fun b1 hb1 => HF.out.block b1 (by have := (hD b1 hb1).1; omega) (by
        have h1 := hD b1 hb1
        rintro (e | e | e)
        · exact h1.2.1 e
        · exact h1.2.2 e
        · have := (HST.out.hf.lt b1 e).1; omega)⟩)
      clear hsa
      go_wp2_with fail
      refine (ih k2 _ fin' (s', o') HS.out HR.out (by omega) HINV.out.1 HINV.out.2 Hs'.out).mono ?_
      rintro e w3 ⟨_, fin3, rfl, hS3, hF3, hA3⟩
      have hz3 := hF3.size
      have HS3 := Lib.hid hS3
      have HF3 : Hid (Fw (CP W q fin) w w3) := HF.out.trans hF3 (by
        rintro i hi (e | e | e)
        · exact .inl e
        · exact .inr (.inl e)
        · rcases HA.out with h | ⟨k, h, hk⟩
          · exact .inr (.inr (h ▸ e))
          · rw [h] at e
            injection e with e
            omega)
      have HU3 : Hid (OI w3 w.heap.size (.slice (some ⟨b', off', none⟩) us.length c5') us) := HU.out.fw hF3 (by
        intro k hk
        have h1 := HU.out.lt k hk
        have h2 := (HU2.out.lt k hk).2
        rintro (e | e | e)
        · omega
        · omega
        · rcases HA.out with h | ⟨k', h, hk'⟩
          · have := (HST.out.hf.lt k (h ▸ e)).2
            omega
          · rw [h] at e
            injection e with e
            omega)
      have HA3 : Hid (fin3.ownBlock = fin.ownBlock ∨ ∃ k, fin3.ownBlock = some k ∧ w2.heap.size ≤ k) := by
        rcases hA3 with h | ⟨k, h, hk⟩
        · rcases HA.out with h' | ⟨k, h', hk⟩
          · exact .inl (h.trans h')
          · exact .inr ⟨k, h.trans h', hk⟩
        · exact .inr ⟨k, h, by omega⟩
      clear hS3 hF3 hA3 p0 g0 d1
      go_wp2_with fail
      go_roundw
      case rel => exact ⟨m + 1, fin3, by omega, by go_num, by rw [HDE.out]; exact HS3.out, HF3.out, HU3.out, HA3.out, by omega⟩
      case measure => simp [intOf]; omega

end Go.Proofs.YteikpekffgifoaaDoor
