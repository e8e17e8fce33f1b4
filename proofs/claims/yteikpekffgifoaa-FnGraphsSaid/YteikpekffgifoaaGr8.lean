/- ReachM, Fin, Rev, Reached, joined. -/
import Derived.Test.YteikpekffgifoaaGr1
import Derived.Test.YteikpekffgifoaaGr7
import Derived.Deep.RegionHeld3
import Derived.RegionTactic
namespace Go.Proofs.Yteikpekffgifoaa

/- l3Reach of the model: what it answers, wherever all targets are there. -/
section
open Go.ChangeShapes Go.WideShapes Go.ChangeAt Go.RowKit Go.Joins

theorem wpList_append_intr {ops : Array Oper} {rest : List Oper} {o : Oper} {a : Act} {Q : Exit → Act → World → Prop} (hgd : o.guard = none) (s x : Operand)
    (ho : o.op = .call { callee := .builtin .append, args := #[s, x], argTypes := #[36, 36] })
    (B : Nat) (v : Value) (xs : List Int) (y : Int) (w : World) (q : Nat) (hq : w.heap.size = q) (hs : a.eval s = v) (hown : OI w B v xs) (hx : a.eval x = .slice (some ⟨q, 0, none⟩) 1 1) (hb : B ≤ w.heap.size) (hlen : xs.length ≤ 1048576)
    (h : ∀ v' w', OI w' B v' (xs ++ [y]) → w.grownBy w' v.ownBlock → (v'.ownBlock = v.ownBlock ∨ ∃ k, v'.ownBlock = some k ∧ w.heap.size ≤ k) → wpList Try.prog ops Q rest (a.put o.dst v') w') :
    wpList Try.prog ops Q (o :: rest) a (w.alloc (.cells #[.int .i64 y] 2)) := by
  subst hq
  exact wpList_append_int hgd s x ho B v xs y w hs hown hx hb hlen h

def TargetsR (bs : List BlockD) : Prop := ∀ (k : Nat) x, bs[k]? = some x → ∀ t ∈ toL x.fin.k x.fin.t x.fin.l, 0 ≤ t ∧ t < (bs.length : Int)
theorem targetsR_sc {bs : List BlockD} (h : TargetsR bs) : ∀ b : Nat, b < bs.length → ∀ t ∈ scF bs b, 0 ≤ t ∧ t < (bs.length : Int) := fun b hb t ht => by
  have hx : bs[b]? = some bs[b] := List.getElem?_eq_getElem hb
  rw [scF_at hx] at ht
  exact h b _ hx t ht
theorem TargetsOk.r {bs : List BlockD} (h : TargetsOk bs) : TargetsR bs := fun k x hx => (h k x hx).2
theorem take_mem {ls : List Int} {m : Nat} {u : Int} (h : ls[m]? = some u) : ∀ t ∈ ls.take (m + 1), t ∈ ls.take m ∨ t = u := fun t ht => by
  rw [List.take_add_one, h, Option.toList_some] at ht
  rcases List.mem_append.1 ht with h1 | h1
  · exact .inl h1
  · exact .inr (by simpa using h1)
/-- How many of the n cells of block q are false. -/
def unsR (w : World) (q n : Nat) : Nat := cf ((List.range n).map fun k => match w.cell? ⟨q, k, none⟩ with
  | some (.bool b) => b
  | _ => true)
theorem unsR_cf {w : World} {q n : Nat} {bs : List Bool} (h : BL w q n bs) : unsR w q n = cf bs := by
  unfold unsR
  congr 1
  apply List.ext_getElem?
  intro i
  rw [List.getElem?_map]
  by_cases hi : i < n
  · have hl : i < bs.length := by rw [h.1]; exact hi
    have hb : bs[i]? = some bs[i] := List.getElem?_eq_getElem hl
    rw [List.getElem?_range hi, hb, Option.map_some, h.cell hb]
  · rw [List.getElem?_eq_none (by simp; omega), List.getElem?_eq_none (by rw [h.1]; omega)]; rfl
def lenR : Value → Nat
  | .slice _ n _ => n
  | _ => 0
theorem BL.start1 (w : World) (n : Nat) (hm : n ≤ maxLen) : BL (w.alloc (.cells ((madeCells #[.bool false] n).setIfInBounds 0 (.bool true)) 4)) w.heap.size n ((List.replicate n false).set 0 true) := by
  have h := (BL.start w n hm).set 0 true
  rwa [World.setCell_alloc_at _ _ _ _ _ rfl] at h
def GivesReach (bs : List BlockD) (wo : Int) (w : World) (e : Ending) (w' : World) : Prop := ∃ q rs, e = .returned (.slice (some ⟨q, 0, none⟩) bs.length bs.length) ∧ BL w' q bs.length rs ∧ IsReach (scF bs) wo bs.length rs ∧ w.heap.size ≤ q ∧ Below w.heap.size w w'

set_option maxRecDepth 10000 in
set_option maxHeartbeats 2000000 in
theorem l3Reach_ex (f : FunD) (v : Value) (j : Int) (w : World) (Z : Zn) (hv : EFun w Z f v) (hD : ∀ b, Z.D b → b < w.heap.size) (ht : TargetsR f.blocks) (h1 : 1 ≤ f.blocks.length) (hn : f.blocks.length ≤ 1000) :
    Calls Try.prog 58 #[v, .int .i64 j] w (GivesReach f.blocks j w) := by
  obtain ⟨u, rfl, hle, A, c, rfl, hx⟩ := hv
  have HT := Lib.hid ht
  have HSC := Lib.hid (targetsR_sc ht)
  clear ht
  obtain ⟨i0, hi, hz0, hz1, hz2⟩ := info_parts info_boolr
  have hmk := fun W => run_make_rowN (P := Try.prog) 46 4 i0 _ Try.underlying46 hi hz0 .i64 .i64 f.blocks.length f.blocks.length (Nat.le_refl _) (by rw [hz2]; omega) (by omega) W
  rw [hz1] at hmk
  clear hi hz0 hz1 hz2
  have h1' : 0 < f.blocks.length := by omega
  have h1'' : 0 < (f.blocks.length : Int) := by omega
  have hB1 := Lib.hid (((Below.refl w.heap.size w).alloc (Nat.le_refl _) (.cells #[.int .i64 f.params, .int .i64 f.names, .slice A f.blocks.length c] 26)).alloc (by simp) (.cells (madeCells #[.bool false] f.blocks.length) 4))
  have hst := BL.start (w.alloc (.cells #[.int .i64 f.params, .int .i64 f.names, .slice A f.blocks.length c] 26)) f.blocks.length (by rw [maxLen_is]; omega)
  have hs1 : (w.alloc (.cells #[.int .i64 f.params, .int .i64 f.names, .slice A f.blocks.length c] 26)).heap.size = w.heap.size + 1 := by simp
  rw [hs1] at hst
  have HST := Lib.hid hst
  clear hst hs1
  by_cases hj : j = 0
  · subst hj
    go_enter Try.func58, Try.ntmps58
    go_wp2
    go_ret
    exact ⟨w.heap.size + 1, _, rfl, HST.out, reach_none rfl, by omega, hB1.out⟩
  have hb : (j == 0) = false := by simpa using hj
  have HJ0 : Hid ((0 : Int) ≠ j) := fun e => hj e.symm
  clear hj
  have hcell := HST.out.cell (get_replicate h1')
  have hfz := HST.out.frozen 0
  go_enter Try.func58, Try.ntmps58
  go_wp2
  clear hcell hfz HST
  have hgo : (w.alloc (.cells #[.int .i64 f.params, .int .i64 f.names, .slice A f.blocks.length c] 26)).heap.size = w.heap.size + 1 := by simp
  have hbs := BL.start1 (w.alloc (.cells #[.int .i64 f.params, .int .i64 f.names, .slice A f.blocks.length c] 26)) f.blocks.length (by rw [maxLen_is]; omega)
  rw [hgo] at hbs
  have HBS := Lib.hid hbs
  clear hbs hgo
  go_loopw [6, 7, 8, 9] (fun q _ _ _ wr => ∃ (ts : List Int) (bs : List Bool), Hid (OI wr (w.heap.size + 2) q ts) ∧ Hid (RSt (scF f.blocks) j f.blocks.length bs ts none) ∧ Hid (BL wr (w.heap.size + 1) f.blocks.length bs) ∧ Hid (Below (w.heap.size + 1) (w.alloc (.cells #[.int .i64 f.params, .int .i64 f.names, .slice A f.blocks.length c] 26)) wr) ∧ 2 * cf bs + ts.length ≤ 3000 ∧ unsR wr (w.heap.size + 1) f.blocks.length = cf bs) (fun q _ _ _ wr => 2 * unsR wr (w.heap.size + 1) f.blocks.length + lenR q)
  case atStart =>
    have HBS2 := HBS.out.fw (Fw.alloc (fun _ => False) _ (.cells #[.int .i64 0] 2)) (fun h => h)
    refine ⟨[0], _, ?_, RSt.start h1 HJ0.out, HBS2, ((Below.refl _ _).alloc (by simp) _).alloc (by simp) _, ?_, ?_⟩
    · exact OI_lit1 _ 0 (by simp) (Nat.le_refl _)
    · simp only [List.length_singleton]
      have := cf_le ((List.replicate f.blocks.length false).set 0 true)
      simp only [List.length_set, List.length_replicate] at this
      omega
    · exact unsR_cf HBS2
  case round =>
    obtain ⟨ts, bs, HO, HTS, HBB, HB, hcap3, hunc⟩ := hrel
    have HUNC := Lib.hid hunc
    clear hunc
    have HB0 : Hid (Below w.heap.size w wr) := ((Below.refl _ _).alloc (Nat.le_refl _) _).trans (HB.out.mono (by omega))
    have hzw : w.heap.size + 1 ≤ wr.heap.size := by have := HB.out.size; simp at this; omega
    have f2 : wr.cell? ⟨w.heap.size, 2, none⟩ = some (.slice A f.blocks.length c) := (HB.out.cell (p := ⟨w.heap.size, 2, none⟩) (by simp)).trans (by go_simp)
    have hts : ts = [] ∨ ∃ us t, ts = us ++ [t] := by
      rcases List.eq_nil_or_concat ts with h | ⟨us, t, h⟩
      · exact .inl h
      · exact .inr ⟨us, t, by rw [h, List.concat_eq_append]⟩
    rcases hts with rfl | ⟨us, t, rfl⟩
    · obtain ⟨_, A6, c6, rfl, _⟩ := HO.out.ri
      go_wp2
      go_ret
      exact ⟨w.heap.size + 1, _, rfl, HBB.out, HTS.out.reach HSC.out h1, by omega, HB0.out⟩
    have hlen : (us ++ [t]).length = us.length + 1 := by simp
    have HO1 := HO.out
    unfold OI at HO1
    rw [hlen] at HO1
    obtain ⟨gt, cap, rfl, hgt1, hgt2⟩ := World.ownsRow.form HO1 (by omega)
    have hct : wr.cell? ⟨gt, us.length, none⟩ = some (.int .i64 t) := by
      rw [World.ownsRow.cellAt HO1 us.length (by omega)]
      simp [iv]
    have HPO : Hid (OI wr (w.heap.size + 2) (.slice (some ⟨gt, 0, none⟩) us.length cap) us) := by
      refine ownsRow_pop (last := [iv t]) (by simp) ?_
      have := HO1
      rw [List.map_append] at this
      exact this
    have ht := HTS.out.mem t (by simp)
    have HTU := Lib.hid HTS.out.pop
    have hcapb : us.length + 1 ≤ cap ∧ cap ≤ 9223372036854775807 := by
      rcases HO1.2 with ⟨h', _⟩ | ⟨_, _, _, h', _, _, h5, h6, _⟩
      · cases h'
      · simp only [Value.slice.injEq, Option.some.injEq, Addr.mk.injEq, and_true, true_and] at h'
        obtain ⟨_, rfl⟩ := h'
        rw [maxLen_is] at h6
        exact ⟨h5, h6⟩
    obtain ⟨k, rfl⟩ : ∃ k : Nat, t = k := ⟨t.toNat, by omega⟩
    have hk : k < f.blocks.length := by omega
    have hk' : (k : Int) < (f.blocks.length : Int) := by omega
    have hk0 : 0 ≤ (k : Int) := by omega
    have HKM : Hid (bs[k]? = some true) := by have := ht.2.2; rw [Int.toNat_natCast] at this; exact this
    replace ht := And.intro ht.1 ht.2.1
    have hxk : f.blocks[k]? = some f.blocks[k] := List.getElem?_eq_getElem hk
    generalize f.blocks[k] = x at hxk
    obtain ⟨b, off, rfl, hDb, hrow⟩ := hx (by intro h; rw [h] at hk; simp at hk)
    obtain ⟨cs, hE, hcs⟩ := hrow k x hxk
    have hbl := hD b hDb
    obtain ⟨_, _, _, _, rfl, _⟩ := hE
    have c4 : wr.cell? ⟨b, off + k * 8 + 4, none⟩ = some (.int .i64 x.fin.k) := (HB0.out.cell (p := ⟨b, _, none⟩) hbl).trans (hcs 4 _ rfl).1
    have c5 : wr.cell? ⟨b, off + k * 8 + 4 + 1, none⟩ = some (.int .i64 x.fin.a) := (HB0.out.cell (p := ⟨b, _, none⟩) hbl).trans (hcs 5 _ rfl).1
    have c6 : wr.cell? ⟨b, off + k * 8 + 4 + 2, none⟩ = some (.int .i64 x.fin.t) := (HB0.out.cell (p := ⟨b, _, none⟩) hbl).trans (hcs 6 _ rfl).1
    have c7 : wr.cell? ⟨b, off + k * 8 + 4 + 3, none⟩ = some (.int .i64 x.fin.l) := (HB0.out.cell (p := ⟨b, _, none⟩) hbl).trans (hcs 7 _ rfl).1
    have HET := Lib.hid (HT.out k x hxk)
    have HSK := Lib.hid (scF_at hxk)
    clear hcs hx hxk hrow HO HO1 HTS ht
    go_wp2_with fail
    refine (l2Succs_any _ _ _ _ _).mono ?_
    rintro e w1 ⟨r, rfl, hr, hb1⟩
    have hz1 := hb1.size
    have hlo : Hid (∀ kk, (Value.slice (some ⟨gt, 0, none⟩) us.length cap).ownBlock = some kk → kk < wr.heap.size ∨ w1.heap.size ≤ kk) := fun kk hkk => .inl (HPO.out.lt kk hkk).2
    have HP1 := Lib.hid (HPO.out.below hb1 fun kk hkk => (HPO.out.lt kk hkk).2)
    have HBB1 := Lib.hid (HBB.out.fw (Fw.below (P := fun _ => False) hb1) (fun h => h))
    have HB1 := Lib.hid (HB.out.trans (hb1.mono hzw))
    have HL1 := Lib.hid hr
    have hll := toL_len x.fin.k x.fin.t x.fin.l
    have HEL : Hid (∀ u ∈ toL x.fin.k x.fin.t x.fin.l, 0 ≤ u ∧ u < (f.blocks.length : Int)) := HET.out
    obtain ⟨M, hM⟩ : ∃ M, M = 2 * cf bs + (us.length + 1) := ⟨_, rfl⟩
    rw [hlen] at hcap3
    have hM3 : M ≤ 3000 := by omega
    have hM1 : 2 * cf bs + us.length + 1 ≤ M := by omega
    have HM := Lib.hid hM
    obtain ⟨lo, hlo'⟩ : ∃ lo, lo = wr.heap.size := ⟨_, rfl⟩
    have hzlo : w.heap.size + 2 ≤ lo := by have := HBB.out.lt; omega
    rw [← hlo'] at HL1 hlo hz1
    have HSU : Hid (∀ u ∈ toL x.fin.k x.fin.t x.fin.l, u ∈ scF f.blocks k) := fun u hu => by rw [HSK.out]; exact hu
    have HSU' : Hid (∀ u ∈ scF f.blocks k, u ∈ toL x.fin.k x.fin.t x.fin.l) := fun u hu => by rw [← HSK.out]; exact hu
    generalize toL x.fin.k x.fin.t x.fin.l = ls at hll HEL HL1 HSU HSU'
    clear hr
    obtain ⟨_, A8, c8, rfl, _⟩ := HL1.out.ri
    clear hb1 hM hlo' hlen hcap3 HPO HBB HB HET HSK c4 c5 c6 c7 hct f2 hzw
    have HL2 : Hid (OI w1 lo (.slice A8 ls.length c8) ls) := HL1.out
    clear HL1
    go_wp2_with fail
    go_loopw [6, 9] (fun q i wq => ∃ (m : Nat) (ts : List Int) (bs : List Bool), m ≤ ls.length ∧ i = .int .i64 m ∧ Hid (OI wq (w.heap.size + 2) q ts) ∧ Hid (RSt (scF f.blocks) j f.blocks.length bs ts (some (k : Int)) ∧ bs[k]? = some true ∧ ∀ t ∈ ls.take m, t ≠ j → bs[t.toNat]? = some true) ∧ Hid (BL wq (w.heap.size + 1) f.blocks.length bs) ∧ Hid (Below (w.heap.size + 1) (w.alloc (.cells #[.int .i64 f.params, .int .i64 f.names, .slice (some ⟨b, off, none⟩) f.blocks.length c] 26)) wq) ∧ w1.heap.size ≤ wq.heap.size ∧ Hid (∀ kk, q.ownBlock = some kk → kk < lo ∨ w1.heap.size ≤ kk) ∧ Hid (OI wq lo (.slice A8 ls.length c8) ls) ∧ 2 * cf bs + ts.length + 1 ≤ M) (fun _ i _ => ls.length - (intOf i).toNat)
    case atStart => exact ⟨0, us, bs, Nat.zero_le _, rfl, HP1.out, ⟨HTU.out, HKM.out, fun t ht => by simp at ht⟩, HBB1.out, HB1.out, Nat.le_refl _, hlo.out, HL2.out, hM1⟩
    case round =>
      obtain ⟨m, ts, bs, hm, rfl, HO, HTS, HBB, HB, hsz, HAV, HL, hMm⟩ := hrel
      have hgo := HBB.out.lt
      by_cases hml : m < ls.length
      case neg =>
        obtain rfl : m = ls.length := by omega
        obtain ⟨_, A6, c6, rfl, _⟩ := HO.out.ri
        have HMM := Lib.hid hMm
        clear hMm
        go_wp2
        go_roundw
        case rel => exact ⟨ts, bs, HO.out, HTS.out.1.finish (fun t ht hw => HTS.out.2.2 t (by rw [List.take_length]; exact HSU'.out t ht) hw), HBB.out, HB.out, by have h1 := HMM.out; omega, unsR_cf HBB.out⟩
        case measure =>
          have h1 := HMM.out
          have h2 := HM.out
          have h3 := unsR_cf HBB.out
          have h4 := HUNC.out
          simp only [lenR]
          omega
      have hum : ls[m]? = some ls[m] := List.getElem?_eq_getElem hml
      have hur := HEL.out _ (List.getElem_mem hml)
      have HSM := Lib.hid (HSU.out _ (List.getElem_mem hml))
      generalize ls[m] = u at hum hur HSM
      obtain ⟨k2, rfl⟩ : ∃ k2 : Nat, u = k2 := ⟨u.toNat, by omega⟩
      have hk2 : k2 < f.blocks.length := by omega
      have hk2' : (k2 : Int) < (f.blocks.length : Int) := by omega
      have hk20 : 0 ≤ (k2 : Int) := by omega
      obtain ⟨_, A8', c8', he8, hux⟩ := HL.out.ri
      injection he8 with q1 _ q2
      subst q1 q2
      obtain ⟨b', off', rfl, hcell⟩ := hux (by rintro rfl; simp at hml)
      have p0 := hcell m _ hum
      have hbl2 : k2 < bs.length := by rw [HBB.out.1]; exact hk2
      have hbg : bs[k2]? = some bs[k2] := List.getElem?_eq_getElem hbl2
      generalize bs[k2] = bb at hbg
      have hbb := HBB.out.cell hbg
      have HBG := Lib.hid hbg
      have HTK := Lib.hid (take_mem hum)
      have hbf := HBB.out.frozen k2
      have HMM := Lib.hid hMm
      clear hcell hux hur hMm hbg hum
      by_cases hne : (k2 : Int) = j
      · have g1 : ((k2 : Int) != j) = false := by simpa using hne
        have HNE := Lib.hid hne
        clear hne
        go_wp2
        go_roundw
        case rel => exact ⟨m + 1, ts, bs, by omega, by go_num, HO.out, ⟨HTS.out.1, HTS.out.2.1, fun t ht hw => by
          rcases HTK.out t ht with h | h
          · exact HTS.out.2.2 t h hw
          · exact absurd (h.trans HNE.out) hw⟩, HBB.out, HB.out, hsz, HAV.out, HL.out, HMM.out⟩
        case measure => simp [intOf]; omega
      have g1 : ((k2 : Int) != j) = true := by simpa using hne
      have HNE := Lib.hid hne
      clear hne
      cases bb
      case true =>
        go_wp2
        go_roundw
        case rel => exact ⟨m + 1, ts, bs, by omega, by go_num, HO.out, ⟨HTS.out.1, HTS.out.2.1, fun t ht hw => by
          rcases HTK.out t ht with h | h
          · exact HTS.out.2.2 t h hw
          · rw [h, Int.toNat_natCast]; exact HBG.out⟩, HBB.out, HB.out, hsz, HAV.out, HL.out, HMM.out⟩
        case measure => simp [intOf]; omega
      have hset := cf_set HBG.out
      have HBS := Lib.hid (HBB.out.set k2 true)
      have hgr := set_grown wr (w.heap.size + 1) k2 (.bool true)
      have hOne : ∀ kk, u6.ownBlock = some kk → kk ≠ w.heap.size + 1 := fun kk hkk => by have := (HO.out.lt kk hkk).1; omega
      have HOs : Hid (OI (wr.setCell ⟨w.heap.size + 1, k2, none⟩ (.bool true)) (w.heap.size + 2) u6 ts) := HO.out.grown hgr (by
        rcases hob : u6.ownBlock with _ | kk
        · exact .inl rfl
        · exact .inr fun e => hOne kk hob (by injection e))
      have hb5 := HL.out.lt b' rfl
      have HLs : Hid (OI (wr.setCell ⟨w.heap.size + 1, k2, none⟩ (.bool true)) lo (.slice (some ⟨b', off', none⟩) ls.length c8) ls) := HL.out.grown hgr (.inr fun e => by injection e with e; simp at e; omega)
      have HBs : Hid (Below (w.heap.size + 1) (w.alloc (.cells #[.int .i64 f.params, .int .i64 f.names, .slice (some ⟨b, off, none⟩) f.blocks.length c] 26)) (wr.setCell ⟨w.heap.size + 1, k2, none⟩ (.bool true))) := HB.out.setCell (by simp) _
      have hss : (wr.setCell ⟨w.heap.size + 1, k2, none⟩ (.bool true)).heap.size = wr.heap.size := nblk_set _ _ _
      have hlt5 : b' < wr.heap.size := by omega
      have hne5 : w.heap.size + 1 ≠ b' := by omega
      have htl : ts.length ≤ 1000000 := by
        have h1 := HMM.out
        omega
      have HU6 := Lib.hid HO.out
      obtain ⟨_, A6, c6, rfl, _⟩ := HO.out.ri
      clear hgr
      go_wp2_with (at_builtin; go_must (refine wpList_append_intr rfl (.tmp 69) (.tmp 74) rfl (w.heap.size + 2) _ ts k2 (wr.setCell ⟨w.heap.size + 1, k2, none⟩ (.bool true)) wr.heap.size hss rfl HOs.out rfl (by omega) (by omega) ?_; intro v' w9 hown9 hg9 hat9; have HO9 := Lib.hid hown9; have HG9 := Lib.hid hg9; have HA9 := Lib.hid hat9; clear hown9 hg9 hat9))
      have hg9 := HG9.out
      have hz9 := hg9.size
      rw [hss] at hz9
      have hob6 : ∀ kk, (Value.slice A6 ts.length c6).ownBlock = some kk → w.heap.size + 2 ≤ kk := fun kk hkk => (HU6.out.lt kk hkk).1
      have hgo9 : w9.heap[w.heap.size + 1]? = (wr.setCell ⟨w.heap.size + 1, k2, none⟩ (.bool true)).heap[w.heap.size + 1]? := hg9.block _ (by rw [hss]; exact hgo) fun e => by have := hob6 _ e.symm; omega
      have HBB9 := Lib.hid (HBS.out.fw (Fw.grown (P := fun kk => (Value.slice A6 ts.length c6).ownBlock = some kk) hg9 fun g e _ => e) fun e => by have := hob6 _ e; omega)
      have HB9 : Hid (Below (w.heap.size + 1) (w.alloc (.cells #[.int .i64 f.params, .int .i64 f.names, .slice (some ⟨b, off, none⟩) f.blocks.length c] 26)) w9) := HBs.out.grown hg9 (by rw [hss]; omega) fun kk hkk => by have := hob6 _ hkk; omega
      have HL9 := Lib.hid (HLs.out.grown hg9 (.inr fun e => by
        have hb6 := HL2.out.lt b' rfl
        rcases HAV.out b' e.symm with h | h <;> omega))
      have HAV9 : Hid (∀ kk, v'.ownBlock = some kk → kk < lo ∨ w1.heap.size ≤ kk) := fun kk hkk => by
        rcases HA9.out with h | ⟨k9, h, hk9⟩
        · exact HAV.out kk (h.symm.trans hkk)
        · rw [h] at hkk
          injection hkk with hkk
          rw [hss] at hk9
          exact .inr (by omega)
      have HTS9 : Hid (RSt (scF f.blocks) j f.blocks.length (bs.set k2 true) (ts ++ [(k2 : Int)]) (some (k : Int)) ∧ (bs.set k2 true)[k]? = some true ∧ ∀ t ∈ ls.take (m + 1), t ≠ j → (bs.set k2 true)[t.toNat]? = some true) := by
        have hm : ∀ i : Nat, bs[i]? = some true → (bs.set k2 true)[i]? = some true := fun i hi => by
          by_cases e : k2 = i
          · subst e; exact set_get_self hbl2 true
          · rw [set_get_other e]; exact hi
        refine ⟨HTS.out.1.mark HTS.out.2.1 HSM.out HNE.out hk2, hm k HTS.out.2.1, fun t ht hw => ?_⟩
        rcases HTK.out t ht with h | h
        · exact hm _ (HTS.out.2.2 t h hw)
        · rw [h, Int.toNat_natCast]; exact set_get_self hbl2 true
      have hfin : 2 * cf (bs.set k2 true) + (ts ++ [(k2 : Int)]).length + 1 ≤ M := by
        have h1 := HMM.out
        rw [List.length_append, List.length_singleton]
        omega
      go_roundw
      case rel => exact ⟨m + 1, ts ++ [(k2 : Int)], bs.set k2 true, by omega, by go_num, HO9.out, HTS9.out, HBB9.out, HB9, by omega, HAV9, HL9.out, hfin⟩
      case measure => simp [intOf]; omega
end

/- l3Finish: the walk in depth of the model. -/
section
open Go.ChangeShapes Go.WideShapes Go.ChangeAt Go.RowKit Go.Joins

/-- What the walk may turn. -/
def FinP (q : Nat) (fin : Value) (k : Nat) : Prop := k = q ∨ fin.ownBlock = some k
def GivesFin (w : World) (q B N : Nat) (fin : Value) (st : List Bool × List Int) (e : Ending) (w' : World) : Prop :=
  ∃ fin', e = .returned (.tuple #[.slice (some ⟨q, 0, none⟩) N N, fin']) ∧ BL w' q N st.1 ∧ OI w' B fin' st.2 ∧ Fw (FinP q fin) w w' ∧ (fin'.ownBlock = fin.ownBlock ∨ ∃ k, fin'.ownBlock = some k ∧ w.heap.size ≤ k)

set_option maxRecDepth 100000 in
set_option maxHeartbeats 4000000 in
theorem l3Finish_any (f : FunD) (Z : Zn) (q B K : Nat) (ht : TargetsR f.blocks) (hn : f.blocks.length ≤ 1000) (hK : K ≤ 1000000) (hD : ∀ b, Z.D b → b < B ∧ b ≠ q) :
    ∀ (n b : Nat) (w : World) (v fin : Value) (st : List Bool × List Int), EFun w Z f v → BL w q f.blocks.length st.1 → OI w B fin st.2 → fin.ownBlock ≠ some q → B ≤ w.heap.size → Inv f.blocks.length K st → cf st.1 ≤ n → st.1[b]? = some false →
    Calls Try.prog 62 #[v, .int .i64 b, .slice (some ⟨q, 0, none⟩) f.blocks.length f.blocks.length, fin] w (GivesFin w q B f.blocks.length fin (dfs (scF f.blocks) n b st)) := by
  intro n
  induction n with
  | zero => intro b w v fin st _ _ _ _ _ _ hcf hb; have := cf_pos hb; omega
  | succ n ih =>
    intro b w v fin st hv hbl hoi hne hBw hinv hcf hb
    obtain ⟨s, o⟩ := st
    have HEF := Lib.hid hv
    obtain ⟨u, rfl, hu⟩ := hv
    have hbN : b < f.blocks.length := by rw [← hinv.len]; exact (List.getElem?_eq_some_iff.1 hb).1
    have hbN' : (b : Int) < (f.blocks.length : Int) := by omega
    have hb0 : 0 ≤ (b : Int) := by omega
    have h1000 : (f.blocks.length : Int) ≤ 1000 := by omega
    have hqw := hbl.lt
    -- behind the box of f and the store
    obtain ⟨_, A, c, rfl, hx⟩ := hu
    obtain ⟨b0, off, rfl, hDb, hrow⟩ := hx (by intro h; rw [h] at hbN; simp at hbN)
    obtain ⟨w1, hw1⟩ : ∃ w1, w1 = (w.setCell ⟨q, b, none⟩ (.bool true)).alloc (.cells #[.int .i64 f.params, .int .i64 f.names, .slice (some ⟨b0, off, none⟩) f.blocks.length c] 26) := ⟨_, rfl⟩
    have hF1 : Fw (FinP q fin) w w1 := by rw [hw1]; exact (Fw.set (P := FinP q fin) w (.inl rfl) b _).trans (Fw.alloc (FinP q fin) _ _) fun _ _ h => h
    have hbl1 : BL w1 q f.blocks.length (s.set b true) := by rw [hw1]; exact (hbl.set b true).fw (Fw.alloc (fun _ => False) _ _) (fun h => h)
    have hoi1 : OI w1 B fin o := by rw [hw1]; exact (hoi.fw (Fw.set (P := fun k => k = q) w rfl b _) fun k hk e => hne (by rw [hk, e])).fw (Fw.alloc (fun _ => False) _ _) (fun _ _ h => h)
    have hbox : w1.heap[w.heap.size]? = some (.cells #[.int .i64 f.params, .int .i64 f.names, .slice (some ⟨b0, off, none⟩) f.blocks.length c] 26 (0, 0)) := by
      have := heap_alloc_new (w.setCell ⟨q, b, none⟩ (.bool true)) (.cells #[.int .i64 f.params, .int .i64 f.names, .slice (some ⟨b0, off, none⟩) f.blocks.length c] 26)
      rw [nblk_set] at this
      rw [hw1]; exact this
    have hs1 : w1.heap.size = w.heap.size + 1 := by rw [hw1]; simp
    have HINV1 : Hid (Inv f.blocks.length K (s.set b true, o)) := ⟨by have := hinv.len; simpa using this, by have h1 := hinv.cap; have h2 := cf_set hb; show o.length + cf (s.set b true) ≤ K; simp only at h1 h2; omega, hinv.mem⟩
    have HCF1 : Hid (cf (s.set b true) ≤ n) := by have h2 := cf_set hb; simp only at h2 hcf; show _ ≤ _; omega
    have hxk : f.blocks[b]? = some f.blocks[b] := List.getElem?_eq_getElem hbN
    generalize f.blocks[b] = x at hxk
    obtain ⟨cs, hE, hcs⟩ := hrow b x hxk
    obtain ⟨_, _, _, _, rfl, _⟩ := hE
    have hDb' := hD b0 hDb
    have hzc : ∀ o' u', w.cell? ⟨b0, o', none⟩ = some u' → w1.cell? ⟨b0, o', none⟩ = some u' := fun o' u' h => by
      rw [hw1]
      exact (World.cell?_of_block (a := ⟨b0, o', none⟩) (Below.heap_alloc (w.setCell ⟨q, b, none⟩ (.bool true)) _ b0 (by rw [nblk_set]; omega))).trans ((World.cell?_setCell_other _ _ _ _ (by intro e; injection e with e1 e2; omega)).trans h)
    have c4 : w1.cell? ⟨b0, off + b * 8 + 4, none⟩ = some (.int .i64 x.fin.k) := hzc _ _ (hcs 4 _ rfl).1
    have c5 : w1.cell? ⟨b0, off + b * 8 + 4 + 1, none⟩ = some (.int .i64 x.fin.a) := hzc _ _ (hcs 5 _ rfl).1
    have c6 : w1.cell? ⟨b0, off + b * 8 + 4 + 2, none⟩ = some (.int .i64 x.fin.t) := hzc _ _ (hcs 6 _ rfl).1
    have c7 : w1.cell? ⟨b0, off + b * 8 + 4 + 3, none⟩ = some (.int .i64 x.fin.l) := hzc _ _ (hcs 7 _ rfl).1
    have d2 : w1.cell? ⟨w.heap.size, 2, none⟩ = some (.slice (some ⟨b0, off, none⟩) f.blocks.length c) := cell_of_row w1 _ 2 _ _ (0, 0) hbox
    have q0 : (w.alloc (.cells #[.int .i64 f.params, .int .i64 f.names, .slice (some ⟨b0, off, none⟩) f.blocks.length c] 26)).cell? ⟨q, b, none⟩ = some (.bool false) := (World.cell?_of_block (a := ⟨q, b, none⟩) (Below.heap_alloc w _ q hqw)).trans (hbl.cell hb)
    have qz : (w.alloc (.cells #[.int .i64 f.params, .int .i64 f.names, .slice (some ⟨b0, off, none⟩) f.blocks.length c] 26)).frozen? ⟨q, b, none⟩ = false := (World.frozen?_of_block (a := ⟨q, b, none⟩) (Below.heap_alloc w _ q hqw)).trans (hbl.frozen b)
    have e0 := hbl.cell hb
    have ez := hbl.frozen b
    have HSU := Lib.hid (scF_at hxk)
    have HRNG := Lib.hid ((targetsR_sc ht) b hbN)
    have HSC := Lib.hid (targetsR_sc ht)
    have HF1 := Lib.hid hF1
    have HBL1 := Lib.hid hbl1
    have HOI1 := Lib.hid hoi1
    have HOI := Lib.hid hoi
    have HBOX := Lib.hid hbox
    have HW1 := Lib.hid hw1
    rw [hw1] at c4 c5 c6 c7 d2
    have HNE := Lib.hid hne
    have HHB := Lib.hid hb
    clear hF1 hbl1 hoi1 hbox hw1 hzc hcs hx hrow hxk hb hcf hinv hbl hoi hne
    go_enter Try.func62, Try.ntmps62
    go_wp2_with fail
    rw [← HW1.out]
    refine (l2Succs_any _ _ _ _ _).mono ?_
    rintro e w2 ⟨r, rfl, hr, hb2⟩
    have HF2 : Hid (Fw (FinP q fin) w w2) := HF1.out.trans (Fw.below (P := fun _ => False) hb2) (fun _ _ h => h.elim)
    have HBL2 := Lib.hid (HBL1.out.fw (Fw.below (P := fun _ => False) hb2) (fun h => h))
    have HOI2 := Lib.hid (HOI1.out.fw (Fw.below (P := fun _ => False) hb2) (fun _ _ h => h))
    have HBOX2 := Lib.hid ((hb2.block w.heap.size (by omega)).trans HBOX.out)
    have hz2 := hb2.size
    rw [← HSU.out] at hr
    obtain ⟨us, hus⟩ : ∃ us, us = scF f.blocks b := ⟨_, rfl⟩
    rw [← hus] at hr HRNG
    have HUS := Lib.hid hus
    have hul := hr.ri.1
    have HU2 := Lib.hid hr
    rw [hs1] at HU2
    rw [hs1] at hz2
    obtain ⟨_, A5, c5', rfl, _⟩ := hr.ri
    clear hb2 hr hus c4 c5 c6 c7 d2 q0 qz e0 ez hs1 HF1 HBL1 HOI1 HW1 HBOX HSU
    go_wp2_with fail
    go_loopw [2, 3, 11] (fun sv fv i wr => ∃ (m : Nat), m ≤ us.length ∧ i = .int .i64 m ∧ sv = .slice (some ⟨q, 0, none⟩) f.blocks.length f.blocks.length ∧ Hid (BL wr q f.blocks.length (dlist (scF f.blocks) n (us.take m) (s.set b true, o)).1) ∧ Hid (OI wr B fv (dlist (scF f.blocks) n (us.take m) (s.set b true, o)).2) ∧ Hid (Fw (FinP q fin) w wr) ∧ Hid (wr.heap[w.heap.size]? = some (.cells #[.int .i64 f.params, .int .i64 f.names, .slice (some ⟨b0, off, none⟩) f.blocks.length c] 26 (0, 0))) ∧ Hid (OI wr (w.heap.size + 1) (.slice A5 us.length c5') us) ∧ Hid (fv.ownBlock = fin.ownBlock ∨ ∃ k, fv.ownBlock = some k ∧ w2.heap.size ≤ k) ∧ w2.heap.size ≤ wr.heap.size) (fun _ _ i _ => us.length - (intOf i).toNat)
    case atStart => exact ⟨0, Nat.zero_le _, rfl, rfl, HBL2.out, HOI2.out, HF2.out, HBOX2.out, HU2.out, .inl rfl, Nat.le_refl _⟩
    case round =>
      obtain ⟨m, hm, rfl, rfl, HBL, HOF, HF, HBOX, HU, HA, hsz⟩ := hrel
      have HINV : Hid (Inv f.blocks.length K (dlist (scF f.blocks) n (us.take m) (s.set b true, o)) ∧ cf (dlist (scF f.blocks) n (us.take m) (s.set b true, o)).1 ≤ n) := by
        have h := dlist_inv HSC.out n (us.take m) (s.set b true, o) (fun t ht => HRNG.out t (List.mem_of_mem_take ht)) HINV1.out
        exact ⟨h.1, Nat.le_trans h.2.1 HCF1.out⟩
      by_cases hml : m < us.length
      case neg =>
        obtain rfl : m = us.length := by omega
        have HDF : Hid (dfs (scF f.blocks) (n + 1) b (s, o) = ((dlist (scF f.blocks) n (us.take us.length) (s.set b true, o)).1, (dlist (scF f.blocks) n (us.take us.length) (s.set b true, o)).2 ++ [(b : Int)])) := by
          rw [Hid, List.take_length, HUS.out, dfs_succ, Int.toNat_natCast]
        generalize dlist (scF f.blocks) n (us.take us.length) (s.set b true, o) = st' at HBL HOF HINV HDF
        obtain ⟨s', o'⟩ := st'
        have hol : o'.length ≤ 1000000 := by have := HINV.out.1.cap; simp only at this; omega
        have hBr : B ≤ wr.heap.size := by omega
        have HO : Hid (OI wr B u3 o') := HOF.out
        obtain ⟨_, A6, c6, rfl, _⟩ := HOF.out.ri
        go_wp2_with (at_builtin; go_must (refine wpList_append_int rfl (.tmp 48) (.tmp 50) rfl B _ o' b wr rfl HO.out rfl (by omega) (by omega) ?_; intro v' w9 hown9 hg9 hat9; have HO9 := Lib.hid hown9; have HG9 := Lib.hid hg9; have HA9 := Lib.hid hat9; obtain ⟨_, A8, q8, rfl, _⟩ := hown9.ri; clear hown9 hg9 hat9))
        go_ret2
        have el : (o' ++ [(b : Int)]).length = o'.length + 1 := by simp
        have HO9' := HO9.out
        have HA9' := HA9.out
        rw [el] at HO9' HA9'
        refine ⟨_, rfl, ?_, ?_, ?_, ?_⟩
        · rw [HDF.out]
          exact HBL.out.fw (Fw.grown (P := fun k => (Value.slice A6 o'.length c6).ownBlock = some k) HG9.out fun g e _ => e) fun e => by
            rcases HA.out with h | ⟨k, h, hk⟩
            · exact HNE.out (h.symm.trans e)
            · have := h.symm.trans e
              injection this with this
              omega
        · rw [HDF.out]; exact HO9'
        · refine HF.out.trans (Fw.grown (P := FinP q (.slice A6 o'.length c6)) HG9.out fun g e _ => .inr e) ?_
          rintro i hi (e | e)
          · exact .inl e
          · rcases HA.out with h | ⟨k, h, hk⟩
            · exact .inr (h ▸ e)
            · rw [h] at e
              injection e with e
              omega
        · rcases HA9' with h | ⟨k, h, hk⟩
          · rcases HA.out with h' | ⟨k, h', hk⟩
            · exact .inl (h.trans h')
            · exact .inr ⟨k, h.trans h', by omega⟩
          · exact .inr ⟨k, h, by omega⟩
      have hum : us[m]? = some us[m] := List.getElem?_eq_getElem hml
      have hur := HRNG.out us[m] (List.getElem_mem hml)
      generalize us[m] = u at hum hur
      obtain ⟨k2, rfl⟩ : ∃ k2 : Nat, u = k2 := ⟨u.toNat, by omega⟩
      have hk2 : k2 < f.blocks.length := by omega
      have hk2' : (k2 : Int) < (f.blocks.length : Int) := by omega
      have hk20 : 0 ≤ (k2 : Int) := by omega
      obtain ⟨_, A5', c5'', he5, hux⟩ := HU.out.ri
      injection he5 with q1 _ q2
      subst q1 q2
      obtain ⟨b', off', rfl, hcell⟩ := hux (by rintro rfl; simp at hml)
      have p0 := hcell m _ hum
      have HDT : Hid (dlist (scF f.blocks) n (us.take (m + 1)) (s.set b true, o) = dstep (scF f.blocks) n (dlist (scF f.blocks) n (us.take m) (s.set b true, o)) k2) := dlist_take _ _ hum _
      generalize dlist (scF f.blocks) n (us.take m) (s.set b true, o) = st' at HBL HOF HINV HDT
      obtain ⟨s', o'⟩ := st'
      have hk2l : k2 < s'.length := by have := HINV.out.1.len; simp only at this; omega
      have hs' : s'[k2]? = some s'[k2] := List.getElem?_eq_getElem hk2l
      generalize s'[k2] = bb at hs'
      have g0 := HBL.out.cell hs'
      have Hs' := Lib.hid hs'
      have hsa := seenAt_of hs'
      clear hcell hux hum hur hs'
      cases bb
      case true =>
        have HDE : Hid (dlist (scF f.blocks) n (us.take (m + 1)) (s.set b true, o) = (s', o')) := by rw [Hid, HDT.out, dstep, hsa, if_pos rfl]
        clear hsa
        go_wp2_with fail
        go_roundw
        case rel => exact ⟨m + 1, by omega, by go_num, rfl, by rw [HDE.out]; exact HBL.out, by rw [HDE.out]; exact HOF.out, HF.out, HBOX.out, HU.out, HA.out, hsz⟩
        case measure => simp [intOf]; omega
      have HDE : Hid (dlist (scF f.blocks) n (us.take (m + 1)) (s.set b true, o) = dfs (scF f.blocks) n k2 (s', o')) := by rw [Hid, HDT.out, dstep, hsa, if_neg (by decide)]
      have HKE : Hid (Kept Z Z w wr) := ⟨fun _ h => h, fun h => h, fun b1 hb1 => HF.out.block b1 (by have := (hD b1 hb1).1; omega) (by
        have h1 := hD b1 hb1
        rintro (e | e)
        · exact h1.2 e
        · have := (HOI.out.lt b1 e).1; omega)⟩
      have HEFr := Lib.hid (HEF.out.keep HKE.out)
      have HNE3 : Hid (u3.ownBlock ≠ some q) := fun e => by
        rcases HA.out with h | ⟨k, h, hk⟩
        · exact HNE.out (h.symm.trans e)
        · have := h.symm.trans e
          injection this with this
          omega
      have f0 : wr.cell? ⟨w.heap.size, 0, none⟩ = some (.int .i64 f.params) := cell_of_row wr _ 0 _ _ (0, 0) HBOX.out
      have f1 : wr.cell? ⟨w.heap.size, 1, none⟩ = some (.int .i64 f.names) := cell_of_row wr _ 1 _ _ (0, 0) HBOX.out
      have f2 : wr.cell? ⟨w.heap.size, 2, none⟩ = some (.slice (some ⟨b0, off, none⟩) f.blocks.length c) := cell_of_row wr _ 2 _ _ (0, 0) HBOX.out
      have hlu := HU.out.lt b' rfl
      have hlu2 := HU2.out.lt b' rfl
      have hbx : w.heap.size < wr.heap.size := by omega
      have HOF' : Hid (OI wr B u3 o') := HOF.out
      clear hsa
      go_wp2_with fail
      have keepF : ∀ w7 : World, Fw (FinP q u3) wr w7 → w7.cell? ⟨w.heap.size, 0, none⟩ = some (.int .i64 f.params) ∧ w7.cell? ⟨w.heap.size, 1, none⟩ = some (.int .i64 f.names) ∧ w7.cell? ⟨w.heap.size, 2, none⟩ = some (.slice (some ⟨b0, off, none⟩) f.blocks.length c) ∧ w7.cell? ⟨b', off' + m, none⟩ = some (.int .i64 k2) := fun w7 hf => by
        have h3 : ∀ k, k < wr.heap.size → k ≠ q → (B ≤ k → w.heap.size ≤ k ∧ k < w2.heap.size) → ¬ FinP q u3 k := fun k _ hkq hk => by
          rintro (e | e)
          · exact hkq e
          · rcases HA.out with h | ⟨k', h, hk'⟩
            · have h4 := HOI.out.lt k (h ▸ e)
              have := hk h4.1
              omega
            · rw [h] at e
              injection e with e
              have h4 := (HOF'.out.lt k' h).1
              have := hk (by omega)
              omega
        have hb1 := hf.block w.heap.size hbx (h3 _ hbx (by omega) fun _ => by omega)
        have hb2 := hf.block b' hlu.2 (h3 _ hlu.2 (by omega) fun _ => by omega)
        exact ⟨(World.cell?_of_block (a := ⟨w.heap.size, 0, none⟩) hb1).trans f0, (World.cell?_of_block (a := ⟨w.heap.size, 1, none⟩) hb1).trans f1, (World.cell?_of_block (a := ⟨w.heap.size, 2, none⟩) hb1).trans f2, (World.cell?_of_block (a := ⟨b', off' + m, none⟩) hb2).trans p0⟩
      have K := keepF _ (Fw.drewN _ wr 1)
      go_region_held3 (fun w' => w'.cell? ⟨w.heap.size, 0, none⟩ = some (.int .i64 f.params) ∧ w'.cell? ⟨w.heap.size, 1, none⟩ = some (.int .i64 f.names) ∧ w'.cell? ⟨w.heap.size, 2, none⟩ = some (.slice (some ⟨b0, off, none⟩) f.blocks.length c) ∧ w'.cell? ⟨b', off' + m, none⟩ = some (.int .i64 k2)) (first | exact K | exact K3 | fail)
        (first
        | (go_at_call 62; refine (ih k2 _ _ u3 (s', o') (HEFr.out.keep (Kept.drewN _ _ 1)) (HBL.out.fw (Fw.drewN (fun _ => False) _ 1) (fun h => h)) HOF'.out HNE3.out (by show B ≤ wr.heap.size; omega) HINV.out.1 HINV.out.2 Hs'.out).mono ?_; rintro e w3 ⟨fin3, rfl, hbl3, hoi3, hf3, ha3⟩; have K3 := keepF w3 ((Fw.drewN (FinP q u3) wr 1).trans hf3 fun _ _ h => h); have HBL3 := Lib.hid hbl3; have HOI3 := Lib.hid hoi3; have HF3 := Lib.hid ((Fw.drewN (FinP q u3) wr 1).trans hf3 fun _ _ h => h); have HA3 := Lib.hid ha3; clear hbl3 hoi3 hf3 ha3))
      have hz3 := HF3.out.size
      have HF4 : Hid (Fw (FinP q fin) w w3) := HF.out.trans HF3.out (by
        rintro i hi (e | e)
        · exact .inl e
        · rcases HA.out with h | ⟨k, h, hk⟩
          · exact .inr (h ▸ e)
          · rw [h] at e
            injection e with e
            omega)
      have hnP : ∀ k, k < wr.heap.size → k ≠ q → (B ≤ k → w.heap.size ≤ k ∧ k < w2.heap.size) → ¬ FinP q u3 k := fun k _ hkq hk => by
        rintro (e | e)
        · exact hkq e
        · rcases HA.out with h | ⟨k', h, hk'⟩
          · have h4 := HOI.out.lt k (h ▸ e)
            have := hk h4.1
            omega
          · rw [h] at e
            injection e with e
            have h4 := (HOF'.out.lt k' h).1
            have := hk (by omega)
            omega
      have HBOX4 : Hid (w3.heap[w.heap.size]? = some (.cells #[.int .i64 f.params, .int .i64 f.names, .slice (some ⟨b0, off, none⟩) f.blocks.length c] 26 (0, 0))) := (HF3.out.block w.heap.size hbx (hnP _ hbx (by omega) fun _ => by omega)).trans HBOX.out
      have HU4 : Hid (OI w3 (w.heap.size + 1) (.slice (some ⟨b', off', none⟩) us.length c5') us) := HU.out.fw HF3.out fun k hk => by
        injection hk with hk
        have hk' : b' = k := hk
        subst hk'
        exact hnP _ hlu.2 (by omega) fun _ => by omega
      have HA4 : Hid (fin3.ownBlock = fin.ownBlock ∨ ∃ k, fin3.ownBlock = some k ∧ w2.heap.size ≤ k) := by
        rcases HA3.out with h | ⟨k, h, hk⟩
        · rcases HA.out with h' | ⟨k, h', hk⟩
          · exact .inl (h.trans h')
          · exact .inr ⟨k, h.trans h', hk⟩
        · have hk' : wr.heap.size ≤ k := hk
          exact .inr ⟨k, h, by omega⟩
      clear K K3 keepF hnP f0 f1 f2 p0 g0
      go_wp2_with fail
      go_roundw
      case rel => exact ⟨m + 1, by omega, by go_num, rfl, by rw [HDE.out]; exact HBL3.out, by rw [HDE.out]; exact HOI3.out, HF4.out, HBOX4.out, HU4.out, HA4.out, by omega⟩
      case measure => simp [intOf]; omega
end

/- slices.Reverse at a row of the call's own; the model's loop that builds the same list. -/
section
open Go.ChangeShapes Go.WideShapes Go.ChangeAt Go.RowKit Go.Joins

/-- The first i and the last i have changed their places. -/
def revK (xs : List Int) (i : Nat) : List Int := (List.range xs.length).map fun k => if k < i ∨ xs.length - i ≤ k then xs.getD (xs.length - 1 - k) 0 else xs.getD k 0
theorem revK_len (xs : List Int) (i : Nat) : (revK xs i).length = xs.length := by simp [revK]
theorem revK_get (xs : List Int) (i : Nat) {k : Nat} (hk : k < xs.length) : (revK xs i)[k]? = some (if k < i ∨ xs.length - i ≤ k then xs.getD (xs.length - 1 - k) 0 else xs.getD k 0) := by simp [revK, hk]
theorem getD_some {xs : List Int} {k : Nat} (hk : k < xs.length) : xs[k]? = some (xs.getD k 0) := by
  rw [List.getD_eq_getElem?_getD, List.getElem?_eq_getElem hk]; rfl
theorem revK_zero (xs : List Int) : revK xs 0 = xs := by
  apply List.ext_getElem?
  intro k
  by_cases hk : k < xs.length
  · rw [revK_get xs 0 hk, if_neg (by omega), getD_some hk]
  · rw [List.getElem?_eq_none (by rw [revK_len]; omega), List.getElem?_eq_none (by omega)]
theorem revK_end (xs : List Int) {i : Nat} (hi : xs.length ≤ 2 * i + 1) : revK xs i = xs.reverse := by
  apply List.ext_getElem?
  intro k
  by_cases hk : k < xs.length
  · rw [revK_get xs i hk, List.getElem?_reverse hk, getD_some (by omega)]
    split
    · rfl
    · rename_i h
      have : k = xs.length - 1 - k := by omega
      rw [← this]
  · rw [List.getElem?_eq_none (by rw [revK_len]; omega), List.getElem?_eq_none (by simp; omega)]
theorem revK_step (xs : List Int) {i : Nat} (hi : 2 * i + 1 < xs.length) :
    (((revK xs i).map iv).set i (iv (xs.getD (xs.length - 1 - i) 0))).set (xs.length - 1 - i) (iv (xs.getD i 0)) = (revK xs (i + 1)).map iv := by
  apply List.ext_getElem?
  intro k
  have hl : ((revK xs i).map iv).length = xs.length := by simp [revK_len]
  rw [List.getElem?_set, List.length_set, hl, List.getElem?_set, hl, List.getElem?_map, List.getElem?_map]
  by_cases hk : k < xs.length
  · rw [revK_get xs i hk, revK_get xs (i + 1) hk]
    by_cases e1 : xs.length - 1 - i = k
    · subst e1
      rw [if_pos rfl, if_pos (by omega), if_pos (by omega), Option.map_some]
      congr 3; omega
    · rw [if_neg e1]
      by_cases e2 : i = k
      · subst e2
        rw [if_pos rfl, if_pos (by omega), if_pos (by omega)]; rfl
      · rw [if_neg e2]
        by_cases h : k < i ∨ xs.length - i ≤ k
        · rw [if_pos h, if_pos (by omega)]
        · rw [if_neg h, if_neg (by omega)]
  · rw [List.getElem?_eq_none (l := revK xs i) (by rw [revK_len]; omega), List.getElem?_eq_none (l := revK xs (i + 1)) (by rw [revK_len]; omega), if_neg (by omega), if_neg (by omega)]

theorem grown_drew {a b : World} {r : Option Nat} (h : a.grownBy b r) : a.grownBy b.drew r := ⟨h.os, h.tape, h.output, h.size, h.block⟩

set_option maxHeartbeats 400000 in
theorem Reverse_any (B : Nat) (v : Value) (xs : List Int) (w : World) (hv : OI w B v xs) :
    Calls Try.prog 57 #[v] w fun e w' => (∃ u, e = .returned u) ∧ OI w' B v xs.reverse ∧ w.grownBy w' v.ownBlock := by
  have hlen := hv.ri.1
  by_cases h0 : xs.length = 0
  · obtain rfl := List.length_eq_zero_iff.1 h0
    obtain ⟨_, A, c, rfl, _⟩ := hv.ri
    simp only [List.length_nil] at *
    go_enter Try.func57, Try.ntmps57
    go_wp2
    go_loopw [2, 3] (fun i q wr => i = .int .i64 0 ∧ q = .int .i64 (-1) ∧ wr = w) (fun _ _ _ => 0)
    case atStart => exact ⟨rfl, rfl, rfl⟩
    case round =>
      obtain ⟨rfl, rfl, rfl⟩ := hrel
      go_wp2
      go_end0
      exact ⟨⟨_, rfl⟩, hv, World.grownBy.refl _ _⟩
  · obtain ⟨g, cap, rfl, hBg, hg⟩ := World.ownsRow.form hv (by omega)
    have HV := Lib.hid hv
    clear hv
    have hpos : 0 < xs.length := by omega
    clear h0
    go_enter Try.func57, Try.ntmps57
    go_wp2
    go_loopw [2, 3] (fun i q wr => ∃ (k : Nat) (jz : Int), k ≤ xs.length ∧ i = .int .i64 k ∧ q = .int .i64 jz ∧ jz = (xs.length : Int) - 1 - (k : Int) ∧ Hid (wr.ownsRow B 2 1 (.slice (some ⟨g, 0, none⟩) xs.length cap) xs.length ((revK xs k).map iv)) ∧ Hid (w.grownBy wr (some g))) (fun i _ _ => xs.length - (intOf i).toNat)
    case atStart => exact ⟨0, _, Nat.zero_le _, rfl, rfl, by omega, (by rw [revK_zero]; exact HV.out), World.grownBy.refl _ _⟩
    case round =>
      obtain ⟨k, jz, hk, rfl, rfl, hjz, HO, HG⟩ := hrel
      have HJ := Lib.hid hjz
      by_cases hlt : 2 * k + 1 < xs.length
      · obtain ⟨jn, rfl⟩ : ∃ jn : Nat, jz = jn := ⟨jz.toNat, by omega⟩
        have hjn : jn = xs.length - 1 - k := by omega
        have h1 : (k : Int) < (jn : Int) := by omega
        have h2 : (jn : Int) < (xs.length : Int) := by omega
        have h3 : 0 ≤ (k : Int) := by omega
        have h4 : (k : Int) < (xs.length : Int) := by omega
        have h5 : 0 ≤ (jn : Int) := by omega
        have hci : wr.cell? ⟨g, k, none⟩ = some (.int .i64 (xs.getD k 0)) := by
          rw [World.ownsRow.cellAt HO.out k (by omega), List.getElem?_map, revK_get xs k (by omega), if_neg (by omega)]; rfl
        have hcj : wr.cell? ⟨g, jn, none⟩ = some (.int .i64 (xs.getD jn 0)) := by
          rw [World.ownsRow.cellAt HO.out jn (by omega), List.getElem?_map, revK_get xs k (by omega), if_neg (by omega)]; rfl
        have hfi : wr.frozen? ⟨g, k, none⟩ = false := World.ownsRow.frozenAt HO.out k
        have hfj : wr.frozen? ⟨g, jn, none⟩ = false := World.ownsRow.frozenAt HO.out jn
        have HJN := Lib.hid hjn
        generalize hx : xs.getD k 0 = x at *
        generalize hy : xs.getD jn 0 = y at *
        have HX := Lib.hid hx
        have HY := Lib.hid hy
        clear hjz hjn hx hy
        go_wp2
        go_region
        go_wp2
        go_roundw
        case rel =>
          refine ⟨k + 1, (jn : Int) - 1, by omega, by go_num, rfl, by have := HJN.out; omega, ?_, ?_⟩
          · have h := (World.ownsRow.stored (World.ownsRow.stored HO.out k (iv y)).1 jn (iv x)).1
            have hs := revK_step xs (i := k) (by have := HJN.out; omega)
            rw [← HJN.out, HX.out, HY.out] at hs
            rw [hs] at h
            exact h
          · exact grown_drew (World.grownBy.trans (World.grownBy.trans HG.out (World.ownsRow.stored HO.out k (iv y)).2) (World.ownsRow.stored (World.ownsRow.stored HO.out k (iv y)).1 jn (iv x)).2)
        case measure => simp [intOf]; omega
      · have hge : jz ≤ (k : Int) := by omega
        clear hjz
        go_wp2
        go_end0
        refine ⟨⟨_, rfl⟩, ?_, HG.out⟩
        have h := HO.out
        rw [revK_end xs (by omega)] at h
        unfold OI
        rw [List.length_reverse]
        exact h
end

/- Reached of both sides. -/
section
open Go.ChangeShapes Go.WideShapes Go.ChangeAt Go.RowKit Go.Joins

theorem OB_lit0 (w : World) {B g : Nat} (hg : w.heap.size = g) (hB : B ≤ g) : OB (w.alloc (.cells #[] 4)) B (.slice (some ⟨g, 0, none⟩) 0 0) [] := by
  subst hg
  exact World.ownsRow_lit (base := B) (e := 4) (size := 1) w #[] 0 hB (by simp) rfl
theorem BL.ob {w : World} {q n B : Nat} {bs : List Bool} (h : BL w q n bs) (hB : B ≤ q) : OB w B (.slice (some ⟨q, 0, none⟩) n n) bs := World.ownsRow.mono h.2 hB

/-- What Reached answers. -/
def ReachedRes (f : FunD) (bs : List Bool) : Prop := (FunP f ∧ IsReach (scF f.blocks) (-1) f.blocks.length bs) ∨ (¬ FunP f ∧ bs = [])
theorem ReachedRes.one {f : FunD} {xs ys : List Bool} (h : ReachedRes f xs) (k : ReachedRes f ys) : xs = ys := by
  rcases h with ⟨h1, h2⟩ | ⟨h1, rfl⟩ <;> rcases k with ⟨k1, k2⟩ | ⟨k1, rfl⟩
  · exact h2.one k2
  · exact absurd h1 k1
  · exact absurd k1 h1
  · rfl
theorem ReachedRes.len {f : FunD} {xs : List Bool} (h : ReachedRes f xs) : xs.length ≤ f.blocks.length := by
  rcases h with ⟨_, h⟩ | ⟨_, rfl⟩
  · exact Nat.le_of_eq h.1
  · simp
def GivesReached (f : FunD) (w : World) (e : Ending) (w' : World) : Prop := ∃ xs r, e = .returned r ∧ ReachedRes f xs ∧ OB w' w.heap.size r xs ∧ Below w.heap.size w w'

theorem field_walk1 (A0 A1 A2 : Option Addr) (n0 c0 n1 c1 n2 c2 : Nat) (w : World) : (Instr.field 78 (.agg #[.slice A0 n0 c0, .slice A1 n1 c1, .slice A2 n2 c2]) 1).run Try.prog w = .ok (.slice A1 n1 c1) w := by kernel_rfl
theorem field_walk2 (A0 A1 A2 : Option Addr) (n0 c0 n1 c1 n2 c2 : Nat) (w : World) : (Instr.field 78 (.agg #[.slice A0 n0 c0, .slice A1 n1 c1, .slice A2 n2 c2]) 2).run Try.prog w = .ok (.slice A2 n2 c2) w := by kernel_rfl

set_option maxRecDepth 10000 in
set_option maxHeartbeats 1000000 in
theorem Reached_any (f : FunD) (v : Value) (w : World) (Z : Zn) (hv : EFun w Z f v) (hD : ∀ b, Z.D b → b < w.heap.size) (hn : f.blocks.length ≤ 1048576) : Calls Try.prog 22 #[v] w (GivesReached f w) := by
  have HF := Lib.hid hv
  obtain ⟨u, rfl, hu⟩ := hv
  obtain ⟨_, A, c, rfl, hx⟩ := hu
  clear hx
  go_enter Try.func22, Try.ntmps22
  go_wp2_with fail
  refine (FunOk_any f _ _ Z (HF.out.keep (Kept.below ((Below.refl _ _).alloc (Nat.le_refl _) _) hD)) (fun b hb => by have := hD b hb; simp; omega) hn).mono ?_
  rintro e w1 ⟨r, rfl, hr, hb1⟩
  have HR := Lib.hid hr
  have HB1 := Lib.hid (hb1.mono (B' := w.heap.size + 1) (by simp))
  have HB01 : Hid (Below w.heap.size w w1) := ((Below.refl _ _).alloc (Nat.le_refl _) _).trans (HB1.out.mono (by omega))
  have hz1 : w.heap.size + 1 ≤ w1.heap.size := by have := hb1.size; simp at this; omega
  obtain ⟨hc1, hf1⟩ := bcellB HB1.out
  clear hb1 hf1 hr
  cases r
  · have HN : Hid (¬ FunP f) := fun h => by have := HR.out.2 h; cases this
    go_wp2_with fail
    go_ret
    exact ⟨[], _, rfl, .inr ⟨HN.out, rfl⟩, OB_lit0 _ rfl (by omega), HB01.out.alloc (by omega) _⟩
  have HP := Lib.hid (HR.out.1 rfl)
  clear HR
  have h1n := HP.out.1.1.1
  have h40 := HP.out.1.1.2
  go_wp2_with fail
  refine (walkFromStart_any f.blocks _ _ Z (HF.out.row.keep (Kept.below HB01.out hD) fun _ _ h => h.keep (Kept.below HB01.out hD)) (fun b hb => by have := hD b hb; omega) (targets_of HP.out) h1n (by omega)).mono ?_
  rintro e w3 ⟨q, fin, rfl, hbl, hoi, hq, hb3⟩
  have HB03 := Lib.hid (HB01.out.trans (hb3.mono (by omega)))
  have HBL := Lib.hid hbl
  obtain ⟨_, A3, c3, rfl, _⟩ := hoi.ri
  have hfl := field_walk1
  clear hb3 hoi hbl hc1
  go_wp2_with fail
  go_ret
  exact ⟨_, _, rfl, .inl ⟨HP.out, dfs0_reach (targets_of HP.out).sc h1n⟩, HBL.out.ob (by omega), HB03.out⟩

set_option maxRecDepth 10000 in
set_option maxHeartbeats 1000000 in
theorem sReached_any (f : FunD) (v : Value) (w : World) (Z : Zn) (hv : EFun w Z f v) (hD : ∀ b, Z.D b → b < w.heap.size) (hn : f.blocks.length ≤ 1048576) : Calls Try.prog 23 #[v] w (GivesReached f w) := by
  have HF := Lib.hid hv
  obtain ⟨u, rfl, hu⟩ := hv
  obtain ⟨_, A, c, rfl, hx⟩ := hu
  clear hx
  go_enter Try.func23, Try.ntmps23
  go_wp2_with fail
  refine (sFunOk_any f _ _ Z (HF.out.keep (Kept.below ((Below.refl _ _).alloc (Nat.le_refl _) _) hD)) (fun b hb => by have := hD b hb; simp; omega) hn).mono ?_
  rintro e w1 ⟨r, rfl, hr, hb1⟩
  have HR := Lib.hid hr
  have HB1 := Lib.hid (hb1.mono (B' := w.heap.size + 1) (by simp))
  have HB01 : Hid (Below w.heap.size w w1) := ((Below.refl _ _).alloc (Nat.le_refl _) _).trans (HB1.out.mono (by omega))
  have hz1 : w.heap.size + 1 ≤ w1.heap.size := by have := hb1.size; simp at this; omega
  obtain ⟨hc1, hf1⟩ := bcellB HB1.out
  clear hb1 hf1 hr
  cases r
  · have HN : Hid (¬ FunP f) := fun h => by have := HR.out.2 h; cases this
    go_wp2_with fail
    go_ret
    exact ⟨[], _, rfl, .inr ⟨HN.out, rfl⟩, OB_lit0 _ rfl (by omega), HB01.out.alloc (by omega) _⟩
  have HP := Lib.hid (HR.out.1 rfl)
  clear HR
  have h1n := HP.out.1.1.1
  have h40 := HP.out.1.1.2
  go_wp2_with fail
  refine (l3Reach_ex f _ (-1) _ Z (HF.out.keep (Kept.below HB01.out hD)) (fun b hb => by have := hD b hb; omega) (targets_of HP.out).r h1n (by omega)).mono ?_
  rintro e w3 ⟨q, rs, rfl, hbl, hre, hq, hb3⟩
  have HB03 := Lib.hid (HB01.out.trans (hb3.mono (by omega)))
  have HBL := Lib.hid hbl
  have HRE := Lib.hid hre
  clear hb3 hre hbl hc1
  go_wp2_with fail
  go_ret
  exact ⟨_, _, rfl, .inl ⟨HP.out, HRE.out⟩, HBL.out.ob (by omega), HB03.out⟩
end

end Go.Proofs.Yteikpekffgifoaa
