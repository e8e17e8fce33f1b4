/- ReachL, ReachM, Book, Lost, DefP, TakP, joined. -/
import Derived.Test.YtnjmlhokkhkaaaaGreatDoorQ6
import Derived.Test.YtnjmlhokkhkaaaaGreatDoorQ10
import Derived.Test.YtnjmlhokkhkaaaaGreatDoorQ12
import Derived.Test.YtnjmlhokkhkaaaaGreatDoorQ13
import Derived.Test.YtnjmlhokkhkaaaaGreatDoorQ15
import Derived.Test.YtnjmlhokkhkaaaaGreatDoorQ18
import Derived.Deep.QuietTactic
import Derived.BigQuiet
namespace Go.Proofs.YtnjmlhokkhkaaaaGreatDoor

/- What is reached, by a list of blocks that are still to be looked at: lists alone. -/
section

structure RSt (sc : Int → List Int) (wo : Int) (N : Nat) (bs : List Bool) (ts : List Int) (k : Option Int) : Prop where
  len : bs.length = N
  snd : ∀ i : Nat, bs[i]? = some true → Rch sc wo i
  mem : ∀ t ∈ ts, 0 ≤ t ∧ t < (N : Int) ∧ bs[t.toNat]? = some true
  clo : ∀ i : Nat, bs[i]? = some true → (i : Int) ∈ ts ∨ k = some (i : Int) ∨ ∀ t ∈ sc i, t ≠ wo → bs[t.toNat]? = some true
  zer : bs[0]? = some true

section
variable {sc : Int → List Int} {wo : Int} {N : Nat}

theorem not_true_replicate {N i : Nat} (h : (List.replicate N false)[i]? = some true) : False := by
  rw [List.getElem?_replicate] at h
  split at h <;> simp at h

theorem RSt.start (hN : 1 ≤ N) (h0 : (0 : Int) ≠ wo) : RSt sc wo N ((List.replicate N false).set 0 true) [0] none := by
  have hl : ((List.replicate N false).set 0 true).length = N := by simp
  have hz : ((List.replicate N false).set 0 true)[0]? = some true := set_get_self (by simp; omega) true
  have hi : ∀ i : Nat, ((List.replicate N false).set 0 true)[i]? = some true → i = 0 := fun i h => by
    rcases Nat.eq_zero_or_pos i with e | e
    · exact e
    · rw [set_get_other (by omega)] at h
      exact (not_true_replicate h).elim
  refine ⟨hl, fun i h => ?_, fun t ht => ?_, fun i h => ?_, hz⟩
  · rw [hi i h]; exact .zero h0
  · simp at ht
    subst ht
    exact ⟨by omega, by omega, hz⟩
  · rw [hi i h]; exact .inl (by simp)

theorem RSt.pop {bs : List Bool} {us : List Int} {t : Int} (h : RSt sc wo N bs (us ++ [t]) none) : RSt sc wo N bs us (some t) :=
  ⟨h.len, h.snd, fun u hu => h.mem u (by simp [hu]), fun i hi => by
    rcases h.clo i hi with h1 | h1 | h1
    · rcases List.mem_append.1 h1 with h2 | h2
      · exact .inl h2
      · simp at h2; exact .inr (.inl (by rw [h2]))
    · cases h1
    · exact .inr (.inr h1), h.zer⟩

theorem RSt.mark {bs : List Bool} {ts : List Int} {k u : Nat} (h : RSt sc wo N bs ts (some (k : Int))) (hk : bs[k]? = some true) (hu : (u : Int) ∈ sc k) (hw : (u : Int) ≠ wo) (huN : u < N) : RSt sc wo N (bs.set u true) (ts ++ [(u : Int)]) (some (k : Int)) := by
  have hu' : (bs.set u true)[u]? = some true := set_get_self (by rw [h.len]; exact huN) true
  have hm : ∀ i : Nat, bs[i]? = some true → (bs.set u true)[i]? = some true := fun i hi => by
    by_cases e : u = i
    · subst e; exact hu'
    · rw [set_get_other e]; exact hi
  refine ⟨by simp [h.len], fun i hi => ?_, fun t ht => ?_, fun i hi => ?_, hm 0 h.zer⟩
  · by_cases e : u = i
    · subst e; exact .step (h.snd k hk) hu hw
    · rw [set_get_other e] at hi; exact h.snd i hi
  · rcases List.mem_append.1 ht with h1 | h1
    · have := h.mem t h1
      exact ⟨this.1, this.2.1, hm _ this.2.2⟩
    · simp at h1
      subst h1
      exact ⟨by omega, by omega, by rw [Int.toNat_natCast]; exact hu'⟩
  · by_cases e : u = i
    · subst e; exact .inl (by simp)
    · rw [set_get_other e] at hi
      rcases h.clo i hi with h1 | h1 | h1
      · exact .inl (List.mem_append_left _ h1)
      · exact .inr (.inl h1)
      · exact .inr (.inr fun t ht hw => hm _ (h1 t ht hw))

theorem RSt.finish {bs : List Bool} {ts : List Int} {k : Nat} (h : RSt sc wo N bs ts (some (k : Int))) (hs : ∀ t ∈ sc k, t ≠ wo → bs[t.toNat]? = some true) : RSt sc wo N bs ts none :=
  ⟨h.len, h.snd, h.mem, fun i hi => by
    rcases h.clo i hi with h1 | h1 | h1
    · exact .inl h1
    · injection h1 with h1
      have : k = i := by omega
      subst this
      exact .inr (.inr hs)
    · exact .inr (.inr h1), h.zer⟩

theorem RSt.reach (hsc : ∀ b : Nat, b < N → ∀ t ∈ sc b, 0 ≤ t ∧ t < (N : Int)) (hN : 1 ≤ N) {bs : List Bool} (h : RSt sc wo N bs [] none) : IsReach sc wo N bs := by
  refine ⟨h.len, fun i hi => ⟨fun hb => h.snd i hb, fun hr => ?_⟩⟩
  have key : ∀ x : Int, Rch sc wo x → 0 ≤ x ∧ x < (N : Int) ∧ bs[x.toNat]? = some true := by
    intro x hx
    induction hx with
    | zero _ => exact ⟨by omega, by omega, h.zer⟩
    | @step a b _ hb hw ih =>
      obtain ⟨ha0, haN, hat⟩ := ih
      obtain ⟨k, rfl⟩ : ∃ k : Nat, a = k := ⟨a.toNat, by omega⟩
      have hbr := hsc k (by omega) b hb
      rw [Int.toNat_natCast] at hat
      rcases h.clo k hat with h1 | h1 | h1
      · cases h1
      · cases h1
      · exact ⟨hbr.1, hbr.2, h1 b hb hw⟩
  have := (key i hr).2.2
  rw [Int.toNat_natCast] at this
  exact this

theorem reach_none (h0 : (0 : Int) = wo) : IsReach sc wo N (List.replicate N false) := by
  refine ⟨by simp, fun i hi => ⟨fun h => (not_true_replicate h).elim, fun hr => ?_⟩⟩
  have key : ∀ x : Int, Rch sc wo x → False := by
    intro x hx
    induction hx with
    | zero h => exact h h0
    | step _ _ _ ih => exact ih
  exact (key _ hr).elim
end
end

/- l3Reach of the model: what it answers, wherever all targets are there. -/
section
open Go.ChangeShapes Go.WideShapes Go.ChangeAt Go.RowKit Go.Joins

theorem wpList_append_intr {ops : Array Oper} {rest : List Oper} {o : Oper} {a : Act} {Q : Exit → Act → World → Prop} (hgd : o.guard = none) (s x : Operand)
    (ho : o.op = .call { callee := .builtin .append, args := #[s, x], argTypes := #[64, 64] })
    (B : Nat) (v : Value) (xs : List Int) (y : Int) (w : World) (q : Nat) (hq : w.heap.size = q) (hs : a.eval s = v) (hown : OI w B v xs) (hx : a.eval x = .slice (some ⟨q, 0, none⟩) 1 1) (hb : B ≤ w.heap.size) (hlen : xs.length ≤ 1048576)
    (h : ∀ v' w', OI w' B v' (xs ++ [y]) → w.grownBy w' v.ownBlock → (v'.ownBlock = v.ownBlock ∨ ∃ k, v'.ownBlock = some k ∧ w.heap.size ≤ k) → wpList Tryz.prog ops Q rest (a.put o.dst v') w') :
    wpList Tryz.prog ops Q (o :: rest) a (w.alloc (.cells #[.int .i64 y] 2)) := by
  subst hq
  exact wpList_append_int hgd s x ho B v xs y w hs hown hx hb hlen h

def TargetsR (bs : List BlockD) : Prop := ∀ (k : Nat) x, bs[k]? = some x → ∀ t ∈ toL x.fin.k x.fin.t x.fin.l, 0 ≤ t ∧ t < (bs.length : Int)
theorem targetsR_sc {bs : List BlockD} (h : TargetsR bs) : ∀ b : Nat, b < bs.length → ∀ t ∈ scF bs b, 0 ≤ t ∧ t < (bs.length : Int) := fun b hb t ht => by
  have hx : bs[b]? = some bs[b] := List.getElem?_eq_getElem hb
  rw [scF_at hx] at ht
  exact h b _ hx t ht
theorem TargetsOk.r {bs : List BlockD} (h : TargetsOk bs) : TargetsR bs := fun k x hx => (h k x hx).2
theorem take_mem {ls : List Int} {m : Nat} {u : Int} (h : ls[m]? = some u) : ∀ t ∈ ls.take (m + 1), t ∈ ls.take m ∨ t = u := fun t ht => by
  rw [List.take_add_one, h, Option.toList_some] at ht
  rcases List.mem_append.1 ht with h1 | h1
  · exact .inl h1
  · exact .inr (by simpa using h1)
/-- How many of the n cells of block q are false. -/
def unsR (w : World) (q n : Nat) : Nat := cf ((List.range n).map fun k => match w.cell? ⟨q, k, none⟩ with
  | some (.bool b) => b
  | _ => true)
theorem unsR_cf {w : World} {q n : Nat} {bs : List Bool} (h : BL w q n bs) : unsR w q n = cf bs := by
  unfold unsR
  congr 1
  apply List.ext_getElem?
  intro i
  rw [List.getElem?_map]
  by_cases hi : i < n
  · have hl : i < bs.length := by rw [h.1]; exact hi
    have hb : bs[i]? = some bs[i] := List.getElem?_eq_getElem hl
    rw [List.getElem?_range hi, hb, Option.map_some, h.cell hb]
  · rw [List.getElem?_eq_none (by simp; omega), List.getElem?_eq_none (by rw [h.1]; omega)]; rfl
def lenR : Value → Nat
  | .slice _ n _ => n
  | _ => 0
theorem BL.start1 (w : World) (n : Nat) (hm : n ≤ maxLen) : BL (w.alloc (.cells ((madeCells #[.bool false] n).setIfInBounds 0 (.bool true)) 4)) w.heap.size n ((List.replicate n false).set 0 true) := by
  have h := (BL.start w n hm).set 0 true
  rwa [World.setCell_alloc_at _ _ _ _ _ rfl] at h
def GivesReach (bs : List BlockD) (wo : Int) (w : World) (e : Ending) (w' : World) : Prop := ∃ q rs, e = .returned (.slice (some ⟨q, 0, none⟩) bs.length bs.length) ∧ BL w' q bs.length rs ∧ IsReach (scF bs) wo bs.length rs ∧ w.heap.size ≤ q ∧ Below w.heap.size w w'

set_option maxRecDepth 10000 in
set_option maxHeartbeats 2000000 in
theorem l3Reach_ex (f : FunD) (v : Value) (j : Int) (w : World) (Z : Zn) (hv : EFun w Z f v) (hD : ∀ b, Z.D b → b < w.heap.size) (ht : TargetsR f.blocks) (h1 : 1 ≤ f.blocks.length) (hn : f.blocks.length ≤ 1000) :
    Calls Tryz.prog 111 #[v, .int .i64 j] w (GivesReach f.blocks j w) := by
  obtain ⟨u, rfl, hle, A, c, rfl, hx⟩ := hv
  have HT := Lib.hid ht
  have HSC := Lib.hid (targetsR_sc ht)
  clear ht
  obtain ⟨i0, hi, hz0, hz1, hz2⟩ := info_parts info_boolr
  have hmk := fun W => run_make_rowN (P := Tryz.prog) 174 4 i0 _ Tryz.underlying174 hi hz0 .i64 .i64 f.blocks.length f.blocks.length (Nat.le_refl _) (by rw [hz2]; omega) (by omega) W
  rw [hz1] at hmk
  clear hi hz0 hz1 hz2
  have h1' : 0 < f.blocks.length := by omega
  have h1'' : 0 < (f.blocks.length : Int) := by omega
  have hB1 := Lib.hid (((Below.refl w.heap.size w).alloc (Nat.le_refl _) (.cells #[.int .i64 f.params, .int .i64 f.names, .slice A f.blocks.length c] 26)).alloc (by simp) (.cells (madeCells #[.bool false] f.blocks.length) 4))
  have hst := BL.start (w.alloc (.cells #[.int .i64 f.params, .int .i64 f.names, .slice A f.blocks.length c] 26)) f.blocks.length (by rw [maxLen_is]; omega)
  have hs1 : (w.alloc (.cells #[.int .i64 f.params, .int .i64 f.names, .slice A f.blocks.length c] 26)).heap.size = w.heap.size + 1 := by simp
  rw [hs1] at hst
  have HST := Lib.hid hst
  clear hst hs1
  by_cases hj : j = 0
  · subst hj
    go_enter Tryz.func111, Tryz.ntmps111
    go_wp2
    go_ret
    exact ⟨w.heap.size + 1, _, rfl, HST.out, reach_none rfl, by omega, hB1.out⟩
  have hb : (j == 0) = false := by simpa using hj
  have HJ0 : Hid ((0 : Int) ≠ j) := fun e => hj e.symm
  clear hj
  have hcell := HST.out.cell (get_replicate h1')
  have hfz := HST.out.frozen 0
  go_enter Tryz.func111, Tryz.ntmps111
  go_wp2
  clear hcell hfz HST
  have hgo : (w.alloc (.cells #[.int .i64 f.params, .int .i64 f.names, .slice A f.blocks.length c] 26)).heap.size = w.heap.size + 1 := by simp
  have hbs := BL.start1 (w.alloc (.cells #[.int .i64 f.params, .int .i64 f.names, .slice A f.blocks.length c] 26)) f.blocks.length (by rw [maxLen_is]; omega)
  rw [hgo] at hbs
  have HBS := Lib.hid hbs
  clear hbs hgo
  go_loopw [6, 7, 8, 9] (fun q _ _ _ wr => ∃ (ts : List Int) (bs : List Bool), Hid (OI wr (w.heap.size + 2) q ts) ∧ Hid (RSt (scF f.blocks) j f.blocks.length bs ts none) ∧ Hid (BL wr (w.heap.size + 1) f.blocks.length bs) ∧ Hid (Below (w.heap.size + 1) (w.alloc (.cells #[.int .i64 f.params, .int .i64 f.names, .slice A f.blocks.length c] 26)) wr) ∧ 2 * cf bs + ts.length ≤ 3000 ∧ unsR wr (w.heap.size + 1) f.blocks.length = cf bs) (fun q _ _ _ wr => 2 * unsR wr (w.heap.size + 1) f.blocks.length + lenR q)
  case atStart =>
    have HBS2 := HBS.out.fw (Fw.alloc (fun _ => False) _ (.cells #[.int .i64 0] 2)) (fun h => h)
    refine ⟨[0], _, ?_, RSt.start h1 HJ0.out, HBS2, ((Below.refl _ _).alloc (by simp) _).alloc (by simp) _, ?_, ?_⟩
    · exact OI_lit1 _ 0 (by simp) (Nat.le_refl _)
    · simp only [List.length_singleton]
      have := cf_le ((List.replicate f.blocks.length false).set 0 true)
      simp only [List.length_set, List.length_replicate] at this
      omega
    · exact unsR_cf HBS2
  case round =>
    obtain ⟨ts, bs, HO, HTS, HBB, HB, hcap3, hunc⟩ := hrel
    have HUNC := Lib.hid hunc
    clear hunc
    have HB0 : Hid (Below w.heap.size w wr) := ((Below.refl _ _).alloc (Nat.le_refl _) _).trans (HB.out.mono (by omega))
    have hzw : w.heap.size + 1 ≤ wr.heap.size := by have := HB.out.size; simp at this; omega
    have f2 : wr.cell? ⟨w.heap.size, 2, none⟩ = some (.slice A f.blocks.length c) := (HB.out.cell (p := ⟨w.heap.size, 2, none⟩) (by simp)).trans (by go_simp)
    have hts : ts = [] ∨ ∃ us t, ts = us ++ [t] := by
      rcases List.eq_nil_or_concat ts with h | ⟨us, t, h⟩
      · exact .inl h
      · exact .inr ⟨us, t, by rw [h, List.concat_eq_append]⟩
    rcases hts with rfl | ⟨us, t, rfl⟩
    · obtain ⟨_, A6, c6, rfl, _⟩ := HO.out.ri
      go_wp2
      go_ret
      exact ⟨w.heap.size + 1, _, rfl, HBB.out, HTS.out.reach HSC.out h1, by omega, HB0.out⟩
    have hlen : (us ++ [t]).length = us.length + 1 := by simp
    have HO1 := HO.out
    unfold OI at HO1
    rw [hlen] at HO1
    obtain ⟨gt, cap, rfl, hgt1, hgt2⟩ := World.ownsRow.form HO1 (by omega)
    have hct : wr.cell? ⟨gt, us.length, none⟩ = some (.int .i64 t) := by
      rw [World.ownsRow.cellAt HO1 us.length (by omega)]
      simp [iv]
    have HPO : Hid (OI wr (w.heap.size + 2) (.slice (some ⟨gt, 0, none⟩) us.length cap) us) := by
      refine ownsRow_pop (last := [iv t]) (by simp) ?_
      have := HO1
      rw [List.map_append] at this
      exact this
    have ht := HTS.out.mem t (by simp)
    have HTU := Lib.hid HTS.out.pop
    have hcapb : us.length + 1 ≤ cap ∧ cap ≤ 9223372036854775807 := by
      rcases HO1.2 with ⟨h', _⟩ | ⟨_, _, _, h', _, _, h5, h6, _⟩
      · cases h'
      · simp only [Value.slice.injEq, Option.some.injEq, Addr.mk.injEq, and_true, true_and] at h'
        obtain ⟨_, rfl⟩ := h'
        rw [maxLen_is] at h6
        exact ⟨h5, h6⟩
    obtain ⟨k, rfl⟩ : ∃ k : Nat, t = k := ⟨t.toNat, by omega⟩
    have hk : k < f.blocks.length := by omega
    have hk' : (k : Int) < (f.blocks.length : Int) := by omega
    have hk0 : 0 ≤ (k : Int) := by omega
    have HKM : Hid (bs[k]? = some true) := by have := ht.2.2; rw [Int.toNat_natCast] at this; exact this
    replace ht := And.intro ht.1 ht.2.1
    have hxk : f.blocks[k]? = some f.blocks[k] := List.getElem?_eq_getElem hk
    generalize f.blocks[k] = x at hxk
    obtain ⟨b, off, rfl, hDb, hrow⟩ := hx (by intro h; rw [h] at hk; simp at hk)
    obtain ⟨cs, hE, hcs⟩ := hrow k x hxk
    have hbl := hD b hDb
    obtain ⟨_, _, _, _, rfl, _⟩ := hE
    have c4 : wr.cell? ⟨b, off + k * 8 + 4, none⟩ = some (.int .i64 x.fin.k) := (HB0.out.cell (p := ⟨b, _, none⟩) hbl).trans (hcs 4 _ rfl).1
    have c5 : wr.cell? ⟨b, off + k * 8 + 4 + 1, none⟩ = some (.int .i64 x.fin.a) := (HB0.out.cell (p := ⟨b, _, none⟩) hbl).trans (hcs 5 _ rfl).1
    have c6 : wr.cell? ⟨b, off + k * 8 + 4 + 2, none⟩ = some (.int .i64 x.fin.t) := (HB0.out.cell (p := ⟨b, _, none⟩) hbl).trans (hcs 6 _ rfl).1
    have c7 : wr.cell? ⟨b, off + k * 8 + 4 + 3, none⟩ = some (.int .i64 x.fin.l) := (HB0.out.cell (p := ⟨b, _, none⟩) hbl).trans (hcs 7 _ rfl).1
    have HET := Lib.hid (HT.out k x hxk)
    have HSK := Lib.hid (scF_at hxk)
    clear hcs hx hxk hrow HO HO1 HTS ht
    go_wp2_with fail
    refine (l2Succs_any _ _ _ _ _).mono ?_
    rintro e w1 ⟨r, rfl, hr, hb1⟩
    have hz1 := hb1.size
    have hlo : Hid (∀ kk, (Value.slice (some ⟨gt, 0, none⟩) us.length cap).ownBlock = some kk → kk < wr.heap.size ∨ w1.heap.size ≤ kk) := fun kk hkk => .inl (HPO.out.lt kk hkk).2
    have HP1 := Lib.hid (HPO.out.below hb1 fun kk hkk => (HPO.out.lt kk hkk).2)
    have HBB1 := Lib.hid (HBB.out.fw (Fw.below (P := fun _ => False) hb1) (fun h => h))
    have HB1 := Lib.hid (HB.out.trans (hb1.mono hzw))
    have HL1 := Lib.hid hr
    have hll := toL_len x.fin.k x.fin.t x.fin.l
    have HEL : Hid (∀ u ∈ toL x.fin.k x.fin.t x.fin.l, 0 ≤ u ∧ u < (f.blocks.length : Int)) := HET.out
    obtain ⟨M, hM⟩ : ∃ M, M = 2 * cf bs + (us.length + 1) := ⟨_, rfl⟩
    rw [hlen] at hcap3
    have hM3 : M ≤ 3000 := by omega
    have hM1 : 2 * cf bs + us.length + 1 ≤ M := by omega
    have HM := Lib.hid hM
    obtain ⟨lo, hlo'⟩ : ∃ lo, lo = wr.heap.size := ⟨_, rfl⟩
    have hzlo : w.heap.size + 2 ≤ lo := by have := HBB.out.lt; omega
    rw [← hlo'] at HL1 hlo hz1
    have HSU : Hid (∀ u ∈ toL x.fin.k x.fin.t x.fin.l, u ∈ scF f.blocks k) := fun u hu => by rw [HSK.out]; exact hu
    have HSU' : Hid (∀ u ∈ scF f.blocks k, u ∈ toL x.fin.k x.fin.t x.fin.l) := fun u hu => by rw [← HSK.out]; exact hu
    generalize toL x.fin.k x.fin.t x.fin.l = ls at hll HEL HL1 HSU HSU'
    clear hr
    obtain ⟨_, A8, c8, rfl, _⟩ := HL1.out.ri
    clear hb1 hM hlo' hlen hcap3 HPO HBB HB HET HSK c4 c5 c6 c7 hct f2 hzw
    have HL2 : Hid (OI w1 lo (.slice A8 ls.length c8) ls) := HL1.out
    clear HL1
    go_wp2_with fail
    go_loopw [6, 9] (fun q i wq => ∃ (m : Nat) (ts : List Int) (bs : List Bool), m ≤ ls.length ∧ i = .int .i64 m ∧ Hid (OI wq (w.heap.size + 2) q ts) ∧ Hid (RSt (scF f.blocks) j f.blocks.length bs ts (some (k : Int)) ∧ bs[k]? = some true ∧ ∀ t ∈ ls.take m, t ≠ j → bs[t.toNat]? = some true) ∧ Hid (BL wq (w.heap.size + 1) f.blocks.length bs) ∧ Hid (Below (w.heap.size + 1) (w.alloc (.cells #[.int .i64 f.params, .int .i64 f.names, .slice (some ⟨b, off, none⟩) f.blocks.length c] 26)) wq) ∧ w1.heap.size ≤ wq.heap.size ∧ Hid (∀ kk, q.ownBlock = some kk → kk < lo ∨ w1.heap.size ≤ kk) ∧ Hid (OI wq lo (.slice A8 ls.length c8) ls) ∧ 2 * cf bs + ts.length + 1 ≤ M) (fun _ i _ => ls.length - (intOf i).toNat)
    case atStart => exact ⟨0, us, bs, Nat.zero_le _, rfl, HP1.out, ⟨HTU.out, HKM.out, fun t ht => by simp at ht⟩, HBB1.out, HB1.out, Nat.le_refl _, hlo.out, HL2.out, hM1⟩
    case round =>
      obtain ⟨m, ts, bs, hm, rfl, HO, HTS, HBB, HB, hsz, HAV, HL, hMm⟩ := hrel
      have hgo := HBB.out.lt
      by_cases hml : m < ls.length
      case neg =>
        obtain rfl : m = ls.length := by omega
        obtain ⟨_, A6, c6, rfl, _⟩ := HO.out.ri
        have HMM := Lib.hid hMm
        clear hMm
        go_wp2
        go_roundw
        case rel => exact ⟨ts, bs, HO.out, HTS.out.1.finish (fun t ht hw => HTS.out.2.2 t (by rw [List.take_length]; exact HSU'.out t ht) hw), HBB.out, HB.out, by have h1 := HMM.out; omega, unsR_cf HBB.out⟩
        case measure =>
          have h1 := HMM.out
          have h2 := HM.out
          have h3 := unsR_cf HBB.out
          have h4 := HUNC.out
          simp only [lenR]
          omega
      have hum : ls[m]? = some ls[m] := List.getElem?_eq_getElem hml
      have hur := HEL.out _ (List.getElem_mem hml)
      have HSM := Lib.hid (HSU.out _ (List.getElem_mem hml))
      generalize ls[m] = u at hum hur HSM
      obtain ⟨k2, rfl⟩ : ∃ k2 : Nat, u = k2 := ⟨u.toNat, by omega⟩
      have hk2 : k2 < f.blocks.length := by omega
      have hk2' : (k2 : Int) < (f.blocks.length : Int) := by omega
      have hk20 : 0 ≤ (k2 : Int) := by omega
      obtain ⟨_, A8', c8', he8, hux⟩ := HL.out.ri
      injection he8 with q1 _ q2
      subst q1 q2
      obtain ⟨b', off', rfl, hcell⟩ := hux (by rintro rfl; simp at hml)
      have p0 := hcell m _ hum
      have hbl2 : k2 < bs.length := by rw [HBB.out.1]; exact hk2
      have hbg : bs[k2]? = some bs[k2] := List.getElem?_eq_getElem hbl2
      generalize bs[k2] = bb at hbg
      have hbb := HBB.out.cell hbg
      have HBG := Lib.hid hbg
      have HTK := Lib.hid (take_mem hum)
      have hbf := HBB.out.frozen k2
      have HMM := Lib.hid hMm
      clear hcell hux hur hMm hbg hum
      by_cases hne : (k2 : Int) = j
      · have g1 : ((k2 : Int) != j) = false := by simpa using hne
        have HNE := Lib.hid hne
        clear hne
        go_wp2
        go_roundw
        case rel => exact ⟨m + 1, ts, bs, by omega, by go_num, HO.out, ⟨HTS.out.1, HTS.out.2.1, fun t ht hw => by
          rcases HTK.out t ht with h | h
          · exact HTS.out.2.2 t h hw
          · exact absurd (h.trans HNE.out) hw⟩, HBB.out, HB.out, hsz, HAV.out, HL.out, HMM.out⟩
        case measure => simp [intOf]; omega
      have g1 : ((k2 : Int) != j) = true := by simpa using hne
      have HNE := Lib.hid hne
      clear hne
      cases bb
      case true =>
        go_wp2
        go_roundw
        case rel => exact ⟨m + 1, ts, bs, by omega, by go_num, HO.out, ⟨HTS.out.1, HTS.out.2.1, fun t ht hw => by
          rcases HTK.out t ht with h | h
          · exact HTS.out.2.2 t h hw
          · rw [h, Int.toNat_natCast]; exact HBG.out⟩, HBB.out, HB.out, hsz, HAV.out, HL.out, HMM.out⟩
        case measure => simp [intOf]; omega
      have hset := cf_set HBG.out
      have HBS := Lib.hid (HBB.out.set k2 true)
      have hgr := set_grown wr (w.heap.size + 1) k2 (.bool true)
      have hOne : ∀ kk, u6.ownBlock = some kk → kk ≠ w.heap.size + 1 := fun kk hkk => by have := (HO.out.lt kk hkk).1; omega
      have HOs : Hid (OI (wr.setCell ⟨w.heap.size + 1, k2, none⟩ (.bool true)) (w.heap.size + 2) u6 ts) := HO.out.grown hgr (by
        rcases hob : u6.ownBlock with _ | kk
        · exact .inl rfl
        · exact .inr fun e => hOne kk hob (by injection e))
      have hb5 := HL.out.lt b' rfl
      have HLs : Hid (OI (wr.setCell ⟨w.heap.size + 1, k2, none⟩ (.bool true)) lo (.slice (some ⟨b', off', none⟩) ls.length c8) ls) := HL.out.grown hgr (.inr fun e => by injection e with e; simp at e; omega)
      have HBs : Hid (Below (w.heap.size + 1) (w.alloc (.cells #[.int .i64 f.params, .int .i64 f.names, .slice (some ⟨b, off, none⟩) f.blocks.length c] 26)) (wr.setCell ⟨w.heap.size + 1, k2, none⟩ (.bool true))) := HB.out.setCell (by simp) _
      have hss : (wr.setCell ⟨w.heap.size + 1, k2, none⟩ (.bool true)).heap.size = wr.heap.size := nblk_set _ _ _
      have hlt5 : b' < wr.heap.size := by omega
      have hne5 : w.heap.size + 1 ≠ b' := by omega
      have htl : ts.length ≤ 1000000 := by
        have h1 := HMM.out
        omega
      have HU6 := Lib.hid HO.out
      obtain ⟨_, A6, c6, rfl, _⟩ := HO.out.ri
      clear hgr
      go_wp2_with (at_builtin; go_must (refine wpList_append_intr rfl (.tmp 69) (.tmp 74) rfl (w.heap.size + 2) _ ts k2 (wr.setCell ⟨w.heap.size + 1, k2, none⟩ (.bool true)) wr.heap.size hss rfl HOs.out rfl (by omega) (by omega) ?_; intro v' w9 hown9 hg9 hat9; have HO9 := Lib.hid hown9; have HG9 := Lib.hid hg9; have HA9 := Lib.hid hat9; clear hown9 hg9 hat9))
      have hg9 := HG9.out
      have hz9 := hg9.size
      rw [hss] at hz9
      have hob6 : ∀ kk, (Value.slice A6 ts.length c6).ownBlock = some kk → w.heap.size + 2 ≤ kk := fun kk hkk => (HU6.out.lt kk hkk).1
      have hgo9 : w9.heap[w.heap.size + 1]? = (wr.setCell ⟨w.heap.size + 1, k2, none⟩ (.bool true)).heap[w.heap.size + 1]? := hg9.block _ (by rw [hss]; exact hgo) fun e => by have := hob6 _ e.symm; omega
      have HBB9 := Lib.hid (HBS.out.fw (Fw.grown (P := fun kk => (Value.slice A6 ts.length c6).ownBlock = some kk) hg9 fun g e _ => e) fun e => by have := hob6 _ e; omega)
      have HB9 : Hid (Below (w.heap.size + 1) (w.alloc (.cells #[.int .i64 f.params, .int .i64 f.names, .slice (some ⟨b, off, none⟩) f.blocks.length c] 26)) w9) := HBs.out.grown hg9 (by rw [hss]; omega) fun kk hkk => by have := hob6 _ hkk; omega
      have HL9 := Lib.hid (HLs.out.grown hg9 (.inr fun e => by
        have hb6 := HL2.out.lt b' rfl
        rcases HAV.out b' e.symm with h | h <;> omega))
      have HAV9 : Hid (∀ kk, v'.ownBlock = some kk → kk < lo ∨ w1.heap.size ≤ kk) := fun kk hkk => by
        rcases HA9.out with h | ⟨k9, h, hk9⟩
        · exact HAV.out kk (h.symm.trans hkk)
        · rw [h] at hkk
          injection hkk with hkk
          rw [hss] at hk9
          exact .inr (by omega)
      have HTS9 : Hid (RSt (scF f.blocks) j f.blocks.length (bs.set k2 true) (ts ++ [(k2 : Int)]) (some (k : Int)) ∧ (bs.set k2 true)[k]? = some true ∧ ∀ t ∈ ls.take (m + 1), t ≠ j → (bs.set k2 true)[t.toNat]? = some true) := by
        have hm : ∀ i : Nat, bs[i]? = some true → (bs.set k2 true)[i]? = some true := fun i hi => by
          by_cases e : k2 = i
          · subst e; exact set_get_self hbl2 true
          · rw [set_get_other e]; exact hi
        refine ⟨HTS.out.1.mark HTS.out.2.1 HSM.out HNE.out hk2, hm k HTS.out.2.1, fun t ht hw => ?_⟩
        rcases HTK.out t ht with h | h
        · exact hm _ (HTS.out.2.2 t h hw)
        · rw [h, Int.toNat_natCast]; exact set_get_self hbl2 true
      have hfin : 2 * cf (bs.set k2 true) + (ts ++ [(k2 : Int)]).length + 1 ≤ M := by
        have h1 := HMM.out
        rw [List.length_append, List.length_singleton]
        omega
      go_roundw
      case rel => exact ⟨m + 1, ts ++ [(k2 : Int)], bs.set k2 true, by omega, by go_num, HO9.out, HTS9.out, HBB9.out, HB9, by omega, HAV9, HL9.out, hfin⟩
      case measure => simp [intOf]; omega
end

/- The model's book of a function: who dominates whom, where each name is given and taken; how it is kept while it grows. -/
section
open Go.ChangeShapes Go.WideShapes Go.ChangeAt Go.RowKit Go.Joins

theorem QRow.fw {w w' : World} {B G n : Nat} {row : Nat → List MoveD} {P : Nat → Prop} (h : QRow w B G n row) (hf : Fw P w w') (hn : ∀ k, Owns w G k → ¬ P k) : QRow w' B G n row := by
  have hlt := h.lt
  have hG := hn G (.inl rfl)
  obtain ⟨cur, h1, h2, h3, h4⟩ := h
  refine ⟨cur, (hf.block _ hlt hG).trans h1, h2, fun j hj => ?_, h4⟩
  obtain ⟨v, hv, ho⟩ := h3 j hj
  exact ⟨v, hv, ho.fw hf fun k hk => hn k (.inr ⟨j, v, (cell_of_row w G j cur _ (0, 0) h1).trans hv, hk⟩)⟩
theorem QRow.own_lt {w : World} {G n : Nat} {row : Nat → List MoveD} (h : QRow w (G + 1) G n row) {k : Nat} (hk : Owns w G k) : k < w.heap.size := by
  have := h.lt
  rcases h.owns hk with e | e <;> omega

/-- Row i of the dominances: who is dominated by i. -/
def DomRow (f : FunD) (i : Nat) (bs : List Bool) : Prop := bs.length = f.blocks.length ∧ ∀ j : Nat, j < f.blocks.length → (bs[j]? = some true ↔ Rch (scF f.blocks) (-1) j ∧ ¬ Rch (scF f.blocks) i j)
/-- The rows of the dominances, as slices. -/
def rowVs (N : Nat) (qs : List Nat) : List Value := qs.map fun q => .slice (some ⟨q, 0, none⟩) N N

/-- The book while it grows: its block K, its rows G1 (givings) and G2 (takings), its dominances dv of the blocks qs. -/
structure OSt (f : FunD) (w : World) (B K G1 G2 n : Nat) (bv dv : Value) (qs : List Nat) (e1 e2 : List EvD) : Prop where
  hK : w.heap[K]? = some (.cells #[.int .i64 f.params, .int .i64 f.names, bv, dv, .slice (some ⟨G1, 0, none⟩) n n, .slice (some ⟨G2, 0, none⟩) n n] 122 (0, 0))
  h1 : EvR pick w G1 n e1
  h2 : EvR pick w G2 n e2
  hd : w.ownsRow B 174 1 dv qs.length (rowVs f.blocks.length qs)
  hq : ∀ i q, qs[i]? = some q → (∃ bs, BL w q f.blocks.length bs ∧ DomRow f i bs) ∧ q ≠ K ∧ ¬ Owns w G1 q ∧ ¬ Owns w G2 q ∧ dv.ownBlock ≠ some q ∧ B ≤ q
  k1 : ¬ Owns w G1 K
  k2 : ¬ Owns w G2 K
  kd : dv.ownBlock ≠ some K
  d12 : ∀ k, Owns w G1 k → ¬ Owns w G2 k
  d1d : ∀ k, dv.ownBlock = some k → ¬ Owns w G1 k ∧ ¬ Owns w G2 k
  b1 : B ≤ G1
  b2 : B ≤ G2
  bk : B ≤ K

section
variable {f : FunD} {w w' : World} {B K G1 G2 n q : Nat} {bv dv : Value} {qs : List Nat} {e1 e2 e1' e2' : List EvD}
theorem OSt.ltK (h : OSt f w B K G1 G2 n bv dv qs e1 e2) : K < w.heap.size := (Array.getElem?_eq_some_iff.1 h.hK).1
theorem OSt.ltq (h : OSt f w B K G1 G2 n bv dv qs e1 e2) {i q : Nat} (hi : qs[i]? = some q) : q < w.heap.size := by
  obtain ⟨⟨bs, hb, _⟩, _⟩ := h.hq i q hi
  exact hb.lt
theorem OSt.ltd (h : OSt f w B K G1 G2 n bv dv qs e1 e2) {k : Nat} (hk : dv.ownBlock = some k) : B ≤ k ∧ k < w.heap.size := World.ownsRow.lt h.hd k hk
/-- Nothing of it is touched. -/
theorem OSt.below (h : OSt f w B K G1 G2 n bv dv qs e1 e2) (hb : Below w.heap.size w w') : OSt f w' B K G1 G2 n bv dv qs e1 e2 := by
  have o1 : ∀ k, Owns w' G1 k → Owns w G1 k := fun k hk => hk.below hb (QRow.lt h.h1)
  have o2 : ∀ k, Owns w' G2 k → Owns w G2 k := fun k hk => hk.below hb (QRow.lt h.h2)
  refine ⟨(hb.block _ h.ltK).trans h.hK, h.h1.below hb, h.h2.below hb, ?_, fun i q hi => ?_, fun hk => h.k1 (o1 _ hk), fun hk => h.k2 (o2 _ hk), h.kd, fun k hk hk2 => h.d12 k (o1 k hk) (o2 k hk2), fun k hk => ⟨fun x => (h.d1d k hk).1 (o1 k x), fun x => (h.d1d k hk).2 (o2 k x)⟩, h.b1, h.b2, h.bk⟩
  · exact own_fw h.hd (Fw.below (P := fun _ => False) hb) fun _ _ x => x
  · obtain ⟨⟨bs, hbs, hr⟩, a, b, c, d⟩ := h.hq i q hi
    exact ⟨⟨bs, hbs.fw (Fw.below (P := fun _ => False) hb) fun x => x, hr⟩, a, fun x => b (o1 q x), fun x => c (o2 q x), d⟩
/-- The givings have grown. -/
theorem OSt.add1 (h : OSt f w B K G1 G2 n bv dv qs e1 e2) (ha : Adds w w' G1) (hr : EvR pick w' G1 n e1') : OSt f w' B K G1 G2 n bv dv qs e1' e2 := by
  have hs := ha.fw.size
  have o2 : ∀ k, Owns w' G2 k → Owns w G2 k := fun k hk => hk.fw ha.fw (QRow.lt h.h2) fun x => h.d12 _ x (.inl rfl)
  have lt2 : ∀ k, Owns w G2 k → k < w.heap.size := fun k hk => QRow.own_lt h.h2 hk
  refine ⟨(ha.fw.block _ h.ltK h.k1).trans h.hK, hr, QRow.fw h.h2 ha.fw fun k hk hk1 => h.d12 k hk1 hk, ?_, fun i q hi => ?_, fun hk => ?_, fun hk => h.k2 (o2 _ hk), h.kd, fun k hk hk2 => ?_, fun k hk => ⟨fun x => ?_, fun x => (h.d1d k hk).2 (o2 k x)⟩, h.b1, h.b2, h.bk⟩
  · exact own_fw h.hd ha.fw fun k hk => (h.d1d k hk).1
  · obtain ⟨⟨bs, hbs, hro⟩, a, b, c, d⟩ := h.hq i q hi
    refine ⟨⟨bs, hbs.fw ha.fw b, hro⟩, a, fun x => ?_, fun x => c (o2 q x), d⟩
    rcases ha.owns q x with x | x
    · exact b x
    · have := hbs.lt; omega
  · rcases ha.owns K hk with x | x
    · exact h.k1 x
    · have := h.ltK; omega
  · rcases ha.owns k hk with x | x
    · exact h.d12 k x (o2 k hk2)
    · have := lt2 k (o2 k hk2); omega
  · rcases ha.owns k x with x | x
    · exact (h.d1d k hk).1 x
    · have := (h.ltd hk).2; omega
/-- The takings have grown. -/
theorem OSt.add2 (h : OSt f w B K G1 G2 n bv dv qs e1 e2) (ha : Adds w w' G2) (hr : EvR pick w' G2 n e2') : OSt f w' B K G1 G2 n bv dv qs e1 e2' := by
  have hs := ha.fw.size
  have o1 : ∀ k, Owns w' G1 k → Owns w G1 k := fun k hk => hk.fw ha.fw (QRow.lt h.h1) fun x => h.d12 _ (.inl rfl) x
  have lt1 : ∀ k, Owns w G1 k → k < w.heap.size := fun k hk => QRow.own_lt h.h1 hk
  refine ⟨(ha.fw.block _ h.ltK h.k2).trans h.hK, QRow.fw h.h1 ha.fw fun k hk hk1 => h.d12 k hk hk1, hr, ?_, fun i q hi => ?_, fun hk => h.k1 (o1 _ hk), fun hk => ?_, h.kd, fun k hk hk2 => ?_, fun k hk => ⟨fun x => (h.d1d k hk).1 (o1 k x), fun x => ?_⟩, h.b1, h.b2, h.bk⟩
  · exact own_fw h.hd ha.fw fun k hk => (h.d1d k hk).2
  · obtain ⟨⟨bs, hbs, hro⟩, a, b, c, d⟩ := h.hq i q hi
    refine ⟨⟨bs, hbs.fw ha.fw c, hro⟩, a, fun x => b (o1 q x), fun x => ?_, d⟩
    rcases ha.owns q x with x | x
    · exact c x
    · have := hbs.lt; omega
  · rcases ha.owns K hk with x | x
    · exact h.k2 x
    · have := h.ltK; omega
  · rcases ha.owns k hk2 with x | x
    · exact h.d12 k (o1 k hk) x
    · have := lt1 k (o1 k hk); omega
  · rcases ha.owns k x with x | x
    · exact (h.d1d k hk).2 x
    · have := (h.ltd hk).2; omega
/-- One row of dominances more: dv' is what append made of dv in w', and K's cell is set. -/
theorem OSt.addD (h : OSt f w B K G1 G2 n bv dv qs e1 e2) {dv' : Value} {q : Nat} {bs : List Bool} (hb : BL w q f.blocks.length bs) (hr : DomRow f qs.length bs) (hqn : q ≠ K ∧ ¬ Owns w G1 q ∧ ¬ Owns w G2 q ∧ dv.ownBlock ≠ some q ∧ B ≤ q)
    (ho : w'.ownsRow B 174 1 dv' (qs ++ [q]).length (rowVs f.blocks.length (qs ++ [q]))) (hg : w.grownBy w' dv.ownBlock) (hat : dv'.ownBlock = dv.ownBlock ∨ ∃ k, dv'.ownBlock = some k ∧ w.heap.size ≤ k) :
    OSt f (w'.setCell ⟨K, 3, none⟩ dv') B K G1 G2 n bv dv' (qs ++ [q]) e1 e2 := by
  have hs := hg.size
  have hkK := h.ltK
  have fw1 : Fw (fun k => dv.ownBlock = some k) w w' := Fw.grown hg fun g e _ => e
  have fw2 : Fw (fun k => dv.ownBlock = some k ∨ k = K) w (w'.setCell ⟨K, 3, none⟩ dv') :=
    (show Fw (fun k => dv.ownBlock = some k ∨ k = K) w w' from Fw.grown hg fun g e _ => .inl e).trans (Fw.set (P := fun k => dv.ownBlock = some k ∨ k = K) w' (.inr rfl) 3 dv') fun _ _ x => x
  have n1 : ∀ k, Owns w G1 k → ¬ (dv.ownBlock = some k ∨ k = K) := fun k hk x => by
    rcases x with x | x
    · exact (h.d1d k x).1 hk
    · exact h.k1 (x ▸ hk)
  have n2 : ∀ k, Owns w G2 k → ¬ (dv.ownBlock = some k ∨ k = K) := fun k hk x => by
    rcases x with x | x
    · exact (h.d1d k x).2 hk
    · exact h.k2 (x ▸ hk)
  have o1 : ∀ k, Owns (w'.setCell ⟨K, 3, none⟩ dv') G1 k → Owns w G1 k := fun k hk => hk.fw fw2 (QRow.lt h.h1) (n1 _ (.inl rfl))
  have o2 : ∀ k, Owns (w'.setCell ⟨K, 3, none⟩ dv') G2 k → Owns w G2 k := fun k hk => hk.fw fw2 (QRow.lt h.h2) (n2 _ (.inl rfl))
  have nK : dv'.ownBlock ≠ some K := fun e => by
    rcases hat with x | ⟨k, x, hk⟩
    · exact h.kd (x.symm.trans e)
    · rw [x] at e; injection e with e; omega
  have hK' : w'.heap[K]? = _ := (fw1.block K hkK h.kd).trans h.hK
  refine ⟨?_, QRow.fw h.h1 fw2 n1, QRow.fw h.h2 fw2 n2, ?_, fun i q' hi => ?_, fun hk => h.k1 (o1 _ hk), fun hk => h.k2 (o2 _ hk), nK, fun k hk hk2 => h.d12 k (o1 k hk) (o2 k hk2), fun k hk => ?_, h.b1, h.b2, h.bk⟩
  · rw [heap_setCell_same w' K 3 _ _ dv' hK']; rfl
  · exact own_fw ho (Fw.set (P := fun k => k = K) w' rfl 3 dv') fun k hk e => nK (e ▸ hk)
  · have key : ∀ q'' bs', BL w q'' f.blocks.length bs' → q'' ≠ K → dv.ownBlock ≠ some q'' → BL (w'.setCell ⟨K, 3, none⟩ dv') q'' f.blocks.length bs' ∧ dv'.ownBlock ≠ some q'' := fun q'' bs' hb' hk' hd' =>
      ⟨hb'.fw fw2 fun x => by rcases x with x | x; exact hd' x; exact hk' x, fun e => by
        rcases hat with x | ⟨k, x, hk⟩
        · exact hd' (x.symm.trans e)
        · rw [x] at e; injection e with e; have := hb'.lt; omega⟩
    rcases Nat.lt_or_ge i qs.length with hlt | hge
    · rw [List.getElem?_append_left hlt] at hi
      obtain ⟨⟨bs', hb', hr'⟩, a, b, c, d⟩ := h.hq i q' hi
      obtain ⟨x, y⟩ := key q' bs' hb' a d.1
      exact ⟨⟨bs', x, hr'⟩, a, fun z => b (o1 _ z), fun z => c (o2 _ z), y, d.2⟩
    · have hi' := (List.getElem?_eq_some_iff.1 hi).1
      simp at hi'
      obtain rfl : i = qs.length := by omega
      rw [List.getElem?_append_right (Nat.le_refl _), Nat.sub_self] at hi
      simp at hi
      subst hi
      obtain ⟨a, b, c, d⟩ := hqn
      obtain ⟨x, y⟩ := key q bs hb a d.1
      exact ⟨⟨bs, x, hr⟩, a, fun z => b (o1 _ z), fun z => c (o2 _ z), y, d.2⟩
  · rcases hat with x | ⟨k', x, hk'⟩
    · have := h.d1d k (x.symm.trans hk)
      exact ⟨fun z => this.1 (o1 k z), fun z => this.2 (o2 k z)⟩
    · rw [x] at hk
      injection hk with hk
      exact ⟨fun z => by have := QRow.own_lt h.h1 (o1 k z); omega, fun z => by have := QRow.own_lt h.h2 (o2 k z); omega⟩

/-- A block that is none of the book's. -/
def Free (w : World) (K G1 G2 : Nat) (dv : Value) (q : Nat) : Prop := q ≠ K ∧ ¬ Owns w G1 q ∧ ¬ Owns w G2 q ∧ dv.ownBlock ≠ some q
theorem OSt.free_new (h : OSt f w B K G1 G2 n bv dv qs e1 e2) {q : Nat} (hq : w.heap.size ≤ q) : Free w K G1 G2 dv q :=
  ⟨fun e => by have := h.ltK; omega, fun x => by have := QRow.own_lt h.h1 x; omega, fun x => by have := QRow.own_lt h.h2 x; omega, fun x => by have := (h.ltd x).2; omega⟩
theorem OSt.free_low (h : OSt f w B K G1 G2 n bv dv qs e1 e2) {q : Nat} (hq : q < B) : Free w K G1 G2 dv q :=
  ⟨fun e => by have := h.bk; omega, fun x => by have := h.b1; rcases QRow.owns h.h1 x with e | e <;> omega, fun x => by have := h.b2; rcases QRow.owns h.h2 x with e | e <;> omega, fun x => by have := (h.ltd x).1; omega⟩
theorem Free.below (hf : Free w K G1 G2 dv q) (h : OSt f w B K G1 G2 n bv dv qs e1 e2) (hb : Below w.heap.size w w') : Free w' K G1 G2 dv q :=
  ⟨hf.1, fun x => hf.2.1 (x.below hb (QRow.lt h.h1)), fun x => hf.2.2.1 (x.below hb (QRow.lt h.h2)), hf.2.2.2⟩
theorem Free.add1 (hf : Free w K G1 G2 dv q) (h : OSt f w B K G1 G2 n bv dv qs e1 e2) (ha : Adds w w' G1) (hq : q < w.heap.size) : Free w' K G1 G2 dv q :=
  ⟨hf.1, fun x => by rcases ha.owns q x with y | y; exact hf.2.1 y; omega, fun x => hf.2.2.1 (x.fw ha.fw (QRow.lt h.h2) fun y => h.d12 _ y (.inl rfl)), hf.2.2.2⟩
theorem Free.add2 (hf : Free w K G1 G2 dv q) (h : OSt f w B K G1 G2 n bv dv qs e1 e2) (ha : Adds w w' G2) (hq : q < w.heap.size) : Free w' K G1 G2 dv q :=
  ⟨hf.1, fun x => hf.2.1 (x.fw ha.fw (QRow.lt h.h1) fun y => h.d12 _ (.inl rfl) y), fun x => by rcases ha.owns q x with y | y; exact hf.2.2.1 y; omega, hf.2.2.2⟩
/-- Another block R is written. -/
theorem OSt.other (h : OSt f w B K G1 G2 n bv dv qs e1 e2) {R : Nat} (hf : Fw (· = R) w w') (hr : Free w K G1 G2 dv R) (hq : ∀ q, q ∈ qs → q ≠ R) : OSt f w' B K G1 G2 n bv dv qs e1 e2 := by
  have n1 : ∀ k, Owns w G1 k → ¬ k = R := fun k hk e => hr.2.1 (e ▸ hk)
  have n2 : ∀ k, Owns w G2 k → ¬ k = R := fun k hk e => hr.2.2.1 (e ▸ hk)
  have o1 : ∀ k, Owns w' G1 k → Owns w G1 k := fun k hk => hk.fw hf (QRow.lt h.h1) (n1 _ (.inl rfl))
  have o2 : ∀ k, Owns w' G2 k → Owns w G2 k := fun k hk => hk.fw hf (QRow.lt h.h2) (n2 _ (.inl rfl))
  refine ⟨(hf.block _ h.ltK (fun e => hr.1 e.symm)).trans h.hK, QRow.fw h.h1 hf n1, QRow.fw h.h2 hf n2, own_fw h.hd hf fun k hk e => hr.2.2.2 (e ▸ hk), fun i q hi => ?_, fun hk => h.k1 (o1 _ hk), fun hk => h.k2 (o2 _ hk), h.kd, fun k hk hk2 => h.d12 k (o1 k hk) (o2 k hk2), fun k hk => ⟨fun x => (h.d1d k hk).1 (o1 k x), fun x => (h.d1d k hk).2 (o2 k x)⟩, h.b1, h.b2, h.bk⟩
  obtain ⟨⟨bs, hbs, hro⟩, a, b, c, d⟩ := h.hq i q hi
  exact ⟨⟨bs, hbs.fw hf (hq q (List.mem_of_getElem? hi)), hro⟩, a, fun x => b (o1 q x), fun x => c (o2 q x), d⟩
theorem Free.other {R : Nat} (hf : Free w K G1 G2 dv q) (h : OSt f w B K G1 G2 n bv dv qs e1 e2) (hw : Fw (· = R) w w') (hr : Free w K G1 G2 dv R) : Free w' K G1 G2 dv q :=
  ⟨hf.1, fun x => hf.2.1 (x.fw hw (QRow.lt h.h1) fun e => hr.2.1 (e ▸ .inl rfl)), fun x => hf.2.2.1 (x.fw hw (QRow.lt h.h2) fun e => hr.2.2.1 (e ▸ .inl rfl)), hf.2.2.2⟩
theorem Free.addD (hf : Free w K G1 G2 dv q) (h : OSt f w B K G1 G2 n bv dv qs e1 e2) {dv' : Value} (hg : w.grownBy w' dv.ownBlock) (hat : dv'.ownBlock = dv.ownBlock ∨ ∃ k, dv'.ownBlock = some k ∧ w.heap.size ≤ k) (hq : q < w.heap.size) : Free (w'.setCell ⟨K, 3, none⟩ dv') K G1 G2 dv' q := by
  have fw2 : Fw (fun k => dv.ownBlock = some k ∨ k = K) w (w'.setCell ⟨K, 3, none⟩ dv') :=
    (show Fw (fun k => dv.ownBlock = some k ∨ k = K) w w' from Fw.grown hg fun g e _ => .inl e).trans (Fw.set (P := fun k => dv.ownBlock = some k ∨ k = K) w' (.inr rfl) 3 dv') fun _ _ x => x
  refine ⟨hf.1, fun x => hf.2.1 (x.fw fw2 (QRow.lt h.h1) fun e => ?_), fun x => hf.2.2.1 (x.fw fw2 (QRow.lt h.h2) fun e => ?_), fun e => ?_⟩
  · rcases e with e | e
    · exact (h.d1d _ e).1 (.inl rfl)
    · exact h.k1 (e ▸ .inl rfl)
  · rcases e with e | e
    · exact (h.d1d _ e).2 (.inl rfl)
    · exact h.k2 (e ▸ .inl rfl)
  · rcases hat with x | ⟨k, x, hk⟩
    · exact hf.2.2.2 (x.symm.trans e)
    · rw [x] at e; injection e with e; omega
theorem fw_addD (K : Nat) {dv' : Value} (hg : w.grownBy w' dv.ownBlock) : Fw (fun k => dv.ownBlock = some k ∨ k = K) w (w'.setCell ⟨K, 3, none⟩ dv') :=
  (show Fw (fun k => dv.ownBlock = some k ∨ k = K) w w' from Fw.grown hg fun _ e _ => .inl e).trans (Fw.set (P := fun k => dv.ownBlock = some k ∨ k = K) w' (.inr rfl) 3 dv') fun _ _ x => x
end
end

/- l5Lost and l5Ahead of the model. -/
section
open Go.ChangeShapes Go.WideShapes Go.ChangeAt Go.RowKit Go.Joins

set_option maxRecDepth 10000 in
set_option maxHeartbeats 1000000 in
theorem l5Lost_any (f : FunD) (v : Value) (w : World) (Z : Zn) (hp : FunP f) (hv : EFun w Z f v) (hD : ∀ b, Z.D b → b < w.heap.size) :
    Calls Tryz.prog 74 #[v] w (GivesB (LostP f) w) := by
  have HF := Lib.hid hv
  obtain ⟨u, rfl, hu⟩ := hv
  obtain ⟨_, A, c, rfl, hx⟩ := hu
  have h40 := hp.1.1.2
  have h1 := hp.1.1.1
  have HT := Lib.hid (targets_of hp).r
  clear hx hp
  go_enter Tryz.func74, Tryz.ntmps74
  go_wp2_with fail
  refine (l3Reach_ex f _ (-1) _ Z (HF.out.keep (Kept.below ((Below.refl _ _).alloc (Nat.le_refl _) _) hD)) (fun b hb => by have := hD b hb; simp; omega) HT.out h1 (by omega)).mono ?_
  rintro e w1 ⟨q, rs, rfl, hb1, hr1, hq1, hbl1⟩
  have HB01 : Hid (Below w.heap.size w w1) := ((Below.refl _ _).alloc (Nat.le_refl _) _).trans (hbl1.mono (by simp))
  have HBL := Lib.hid hb1
  have HR := Lib.hid hr1
  have hrl := hb1.1
  clear hb1 hr1 hbl1 hq1
  go_wp2_with fail
  go_loop [4] (fun i => ∃ k : Nat, k ≤ f.blocks.length ∧ i = .int .i64 k ∧ Hid (∀ j : Nat, j < k → rs[j]? = some true)) (fun i => f.blocks.length - (intOf i).toNat)
  case atStart => exact ⟨0, Nat.zero_le _, rfl, fun _ h => absurd h (by omega)⟩
  case round =>
    obtain ⟨k, hk, rfl, HO⟩ := hrel
    by_cases hlt : k < f.blocks.length
    case neg =>
      obtain rfl : k = f.blocks.length := by omega
      have HN : Hid (¬ LostP f) := fun ⟨i, hi, h⟩ => h ((HR.out.2 i hi).1 (HO.out i hi))
      go_wp2
      go_ret
      exact gives_no HN.out HB01.out
    have hlt' : (k : Int) < (f.blocks.length : Int) := by omega
    have hkx : rs[k]? = some rs[k] := List.getElem?_eq_getElem (by omega)
    generalize rs[k] = x at hkx
    have hc := HBL.out.cell hkx
    have HKX := Lib.hid hkx
    clear hkx
    cases x
    · have HL : Hid (LostP f) := ⟨k, hlt, fun h => by have := (HR.out.2 k hlt).2 h; rw [HKX.out] at this; cases this⟩
      go_wp2
      go_ret
      exact gives_yes HL.out HB01.out
    · have HO' : Hid (∀ j : Nat, j < k + 1 → rs[j]? = some true) := fun j hj => by
        by_cases e : j = k
        · subst e; exact HKX.out
        · exact HO.out j (by omega)
      go_wp2
      go_round
      case rel => exact ⟨k + 1, by omega, by go_num, HO'⟩
      case measure => simp [intOf]; omega

set_option maxRecDepth 10000 in
set_option maxHeartbeats 1000000 in
theorem l5Ahead_any (f : FunD) (B K G1 G2 n : Nat) (bv dv : Value) (qs : List Nat) (e1 e2 : List EvD) (s t : Nat) (x y : Int) (w : World) (ho : OSt f w B K G1 G2 n bv dv qs e1 e2) (hl : qs.length = f.blocks.length) (Ab : Option Addr) (cb : Nat) (hbv : bv = .slice Ab f.blocks.length cb) (hs : s < f.blocks.length) (ht : t < f.blocks.length) (h40 : f.blocks.length ≤ 40) :
    Calls Tryz.prog 76 #[.agg #[.int .i64 f.params, .int .i64 f.names, bv, dv, .slice (some ⟨G1, 0, none⟩) n n, .slice (some ⟨G2, 0, none⟩) n n], .agg #[.int .i64 s, .int .i64 x], .agg #[.int .i64 t, .int .i64 y]] w (GivesB (AheadP f ⟨s, x⟩ ⟨t, y⟩) w) := by
  subst hbv
  have hd := ho.hd
  rw [hl] at hd
  obtain ⟨g, cap, rfl, hBg, hgl⟩ := World.ownsRow.form hd (by omega)
  obtain ⟨qq, hqs⟩ : ∃ qq, qs[s]? = some qq := ⟨_, List.getElem?_eq_getElem (show s < qs.length by omega)⟩
  have hcell := World.ownsRow.cellAt hd s (by omega)
  rw [rowVs, List.getElem?_map, hqs] at hcell
  obtain ⟨⟨bs, hbs, hrow⟩, _⟩ := ho.hq s qq hqs
  obtain ⟨bb, hbt⟩ : ∃ bb, bs[t]? = some bb := ⟨_, List.getElem?_eq_getElem (show t < bs.length by rw [hbs.1]; exact ht)⟩
  have hcb := hbs.cell hbt
  have hql := hbs.lt
  have HROW := Lib.hid (hrow.2 t ht)
  have HBT := Lib.hid hbt
  have hs' : (s : Int) < (f.blocks.length : Int) := by omega
  have ht' : (t : Int) < (f.blocks.length : Int) := by omega
  clear hd hqs hbs hrow hbt ho
  by_cases hst : s = t
  case pos =>
    have hb : ((s : Int) == (t : Int)) = true := by simp; omega
    have HST : Hid (AheadP f ⟨s, x⟩ ⟨t, y⟩ ↔ x < y) := by
      rw [Hid, hst]
      constructor
      · rintro (h | h)
        · exact h.2
        · exact absurd rfl h.1
      · exact fun h => .inl ⟨rfl, h⟩
    clear hst
    go_enter Tryz.func76, Tryz.ntmps76
    go_wp2_with fail
    go_ret
    exact ⟨decide (x < y), rfl, by rw [decide_eq_true_iff]; exact HST.out.symm, (((Below.refl _ _).alloc (Nat.le_refl _) _).alloc (by simp) _).alloc (by simp only [World.size_alloc]; omega) _⟩
  have hb : ((s : Int) == (t : Int)) = false := by simp; omega
  have HST : Hid (AheadP f ⟨s, x⟩ ⟨t, y⟩ ↔ bb = true) := by
    have h1 := HROW.out
    rw [HBT.out] at h1
    rw [Hid]
    constructor
    · rintro (h | h)
      · exact absurd h.1 (by show ¬ (s : Int) = (t : Int); omega)
      · exact Option.some.inj (h1.2 h.2)
    · exact fun h => .inr ⟨by show (s : Int) ≠ (t : Int); omega, h1.1 (by rw [h])⟩
  clear hst
  go_enter Tryz.func76, Tryz.ntmps76
  go_upto_region 3 with fail
  have hB3 : Below w.heap.size w (((w.alloc (.cells #[.int .i64 f.params, .int .i64 f.names, .slice Ab f.blocks.length cb, .slice (some ⟨g, 0, none⟩) f.blocks.length cap, .slice (some ⟨G1, 0, none⟩) n n, .slice (some ⟨G2, 0, none⟩) n n] 122)).alloc (.cells #[.int .i64 s, .int .i64 x] 36)).alloc (.cells #[.int .i64 t, .int .i64 y] 36)) := (((Below.refl _ _).alloc (Nat.le_refl _) _).alloc (by simp) _).alloc (by simp only [World.size_alloc]; omega) _
  have g0 := (hB3.cell (p := ⟨g, s, none⟩) hgl).trans hcell
  have g1 := (hB3.cell (p := ⟨qq, t, none⟩) hql).trans hcb
  have k0 : ((((w.alloc (.cells #[.int .i64 f.params, .int .i64 f.names, .slice Ab f.blocks.length cb, .slice (some ⟨g, 0, none⟩) f.blocks.length cap, .slice (some ⟨G1, 0, none⟩) n n, .slice (some ⟨G2, 0, none⟩) n n] 122)).alloc (.cells #[.int .i64 s, .int .i64 x] 36)).alloc (.cells #[.int .i64 t, .int .i64 y] 36))).cell? ⟨w.heap.size, 3, none⟩ = some (.slice (some ⟨g, 0, none⟩) f.blocks.length cap) := by go_simp
  have k1 : ((((w.alloc (.cells #[.int .i64 f.params, .int .i64 f.names, .slice Ab f.blocks.length cb, .slice (some ⟨g, 0, none⟩) f.blocks.length cap, .slice (some ⟨G1, 0, none⟩) n n, .slice (some ⟨G2, 0, none⟩) n n] 122)).alloc (.cells #[.int .i64 s, .int .i64 x] 36)).alloc (.cells #[.int .i64 t, .int .i64 y] 36))).cell? ⟨w.heap.size + 1, 0, none⟩ = some (.int .i64 s) := by go_simp
  have k2 : ((((w.alloc (.cells #[.int .i64 f.params, .int .i64 f.names, .slice Ab f.blocks.length cb, .slice (some ⟨g, 0, none⟩) f.blocks.length cap, .slice (some ⟨G1, 0, none⟩) n n, .slice (some ⟨G2, 0, none⟩) n n] 122)).alloc (.cells #[.int .i64 s, .int .i64 x] 36)).alloc (.cells #[.int .i64 t, .int .i64 y] 36))).cell? ⟨w.heap.size + 2, 0, none⟩ = some (.int .i64 t) := by go_simp
  generalize (((w.alloc (.cells #[.int .i64 f.params, .int .i64 f.names, .slice Ab f.blocks.length cb, .slice (some ⟨g, 0, none⟩) f.blocks.length cap, .slice (some ⟨G1, 0, none⟩) n n, .slice (some ⟨G2, 0, none⟩) n n] 122)).alloc (.cells #[.int .i64 s, .int .i64 x] 36)).alloc (.cells #[.int .i64 t, .int .i64 y] 36)) = w3 at *
  have HB3 := Lib.hid hB3
  have g0' : w3.cell? ⟨g, s, none⟩ = some (.slice (some ⟨qq, 0, none⟩) f.blocks.length f.blocks.length) := g0
  clear hB3 hcell hcb g0
  go_quiet (fail)
  go_wp2_with fail
  go_ret
  exact ⟨bb, rfl, HST.out.symm, below_drewN HB3.out nq⟩
end

/- Givings: places and names. -/
section
open Go.ChangeShapes Go.WideShapes Go.ChangeAt Go.RowKit Go.Joins

theorem parG_dst {n : Nat} {e : EvD} (h : e ∈ parG n) : e.pl.dst = 0 ∧ 0 ≤ e.n ∧ e.n < n := by
  unfold parG at h
  rw [List.mem_map] at h
  obtain ⟨i, hi, rfl⟩ := h
  have := List.mem_range.1 hi
  exact ⟨rfl, by show (0 : Int) ≤ (i : Int); omega, by show (i : Int) < n; omega⟩
theorem blkG_dst {k : Int} {x : BlockD} {e : EvD} (h : e ∈ blkG k x) : e.pl.dst = k := by
  unfold blkG phG mvG insG at h
  simp only [List.mem_append] at h
  rcases h with ((h | h) | h) | h
  · obtain ⟨i, y, _, _, hy⟩ := mem_upTo h
    simp at hy; rw [hy]
  · obtain ⟨i, y, _, _, hy⟩ := mem_upTo h
    simp at hy; rw [hy]
  · obtain ⟨i, y, _, _, hy⟩ := mem_upTo h
    split at hy
    · cases hy
    · simp at hy; rw [hy]
  · obtain ⟨i, y, _, _, hy⟩ := mem_upTo h
    simp at hy; rw [hy]
theorem blkP_dst {f : FunD} {k : Nat} {x : BlockD} {e : EvD} (h : e ∈ blkP f k x) : e.pl.dst = k := by
  unfold blkP at h
  rw [List.mem_append] at h
  rcases h with h | h
  · split at h
    · rename_i hk; subst hk; exact (parG_dst h).1
    · cases h
  · exact blkG_dst h
/-- The names that a right block gives. -/
theorem blkG_name {f : FunD} (hp : FunP f) {k : Nat} {x : BlockD} (hx : f.blocks[k]? = some x) {e : EvD} (h : e ∈ blkG k x) : isBelowB e.n f.names = true := by
  have hb := hp.1.2.2.2.2 k x hx
  unfold blkG phG mvG insG at h
  simp only [List.mem_append] at h
  rcases h with ((h | h) | h) | h
  · obtain ⟨i, y, _, hi, hy⟩ := mem_upTo h
    simp at hy; rw [hy]; exact ((hp.2.2.2 k x hx).2 i y hi).1
  · obtain ⟨i, y, _, hi, hy⟩ := mem_upTo h
    simp at hy; rw [hy]; exact (hb.2.1.2.1 i y hi).1
  · obtain ⟨i, y, _, hi, hy⟩ := mem_upTo h
    split at hy
    · cases hy
    · rename_i hv
      simp at hy; rw [hy]
      have h1 := hb.2.2.2.2 i y hi
      have h2 := insP_v h1
      have h3 := h1.2.1
      simp [isBelowB]; omega
  · obtain ⟨i, y, _, hi, hy⟩ := mem_upTo h
    simp at hy; rw [hy]; exact (hb.2.2.1.2.1 i y hi).1
theorem defsK_name {f : FunD} (hp : FunP f) {k : Nat} {e : EvD} (h : e ∈ defsK f k) : isBelowB e.n f.names = true := by
  unfold defsK at h
  rw [List.mem_append] at h
  rcases h with h | h
  · have := parG_dst h
    have h1 := hp.1.2.2.1
    have h2 := hp.1.2.2.2.1
    simp [isBelowB]; omega
  · obtain ⟨i, x, _, hx, hy⟩ := mem_upTo h
    exact blkG_name hp hx hy
theorem pick_none {evs : List EvD} {names j : Int} (h : ∀ e ∈ evs, isBelowB e.n names = true) (hj : ¬ isBelowB j names = true) : pick evs j = [] := by
  unfold pick
  rw [List.map_eq_nil_iff, List.filter_eq_nil_iff]
  intro e he hc
  have : e.n = j := by simpa using hc
  exact hj (this ▸ h e he)
theorem blkP_len {f : FunD} (hp : FunP f) {k : Nat} {x : BlockD} (hx : f.blocks[k]? = some x) : (blkP f k x).length ≤ 170 := by
  have h1 := blkG_len hp hx
  have h2 := hp.1.2.2.1.2
  unfold blkP
  rw [List.length_append]
  split
  · rw [parG_len]; omega
  · simp; omega
theorem upTo_blkP_len {f : FunD} (hp : FunP f) (k : Nat) (hk : k ≤ f.blocks.length) : (upTo (blkP f) f.blocks k).length ≤ 7000 := by
  rcases Nat.eq_zero_or_pos k with rfl | h
  · simp [upTo_zero]
  · rw [blkP_all f k hk h]; exact defsK_len hp k hk
end

/- Takings: places and names. -/
section
open Go.ChangeShapes Go.WideShapes Go.ChangeAt Go.RowKit Go.Joins

theorem blkT_dst {f : FunD} {k : Nat} {x : BlockD} {e : EvD} (h : e ∈ blkT f k x) : e.pl.dst = k := by
  unfold blkT mvT insT at h
  simp only [List.mem_append] at h
  rcases h with ((h | h) | h) | h
  · obtain ⟨i, y, _, _, hy⟩ := mem_upTo h
    simp at hy; rw [hy]
  · obtain ⟨i, y, _, _, hy⟩ := mem_upTo h
    rw [List.mem_map] at hy
    obtain ⟨u, _, rfl⟩ := hy
    rfl
  · obtain ⟨i, y, _, _, hy⟩ := mem_upTo h
    simp at hy; rw [hy]
  · rw [List.mem_map] at h
    obtain ⟨u, _, rfl⟩ := h
    rfl
theorem blkT_name {f : FunD} (hp : FunP f) {k : Nat} {x : BlockD} (hx : f.blocks[k]? = some x) {e : EvD} (h : e ∈ blkT f k x) : isBelowB e.n f.names = true := by
  have hb := hp.1.2.2.2.2 k x hx
  unfold blkT mvT insT at h
  simp only [List.mem_append] at h
  rcases h with ((h | h) | h) | h
  · obtain ⟨i, y, _, hi, hy⟩ := mem_upTo h
    simp at hy; rw [hy]; exact (hb.2.1.2.1 i y hi).2
  · obtain ⟨i, y, _, hi, hy⟩ := mem_upTo h
    rw [List.mem_map] at hy
    obtain ⟨u, hu, rfl⟩ := hy
    exact uses_name (hb.2.2.2.2 i y hi) hu
  · obtain ⟨i, y, _, hi, hy⟩ := mem_upTo h
    simp at hy; rw [hy]; exact (hb.2.2.1.2.1 i y hi).2
  · rw [List.mem_map] at h
    obtain ⟨u, hu, rfl⟩ := h
    exact endL_name hp hx hu
theorem takesK_name {f : FunD} (hp : FunP f) {k : Nat} {e : EvD} (h : e ∈ takesK f k) : isBelowB e.n f.names = true := by
  obtain ⟨i, x, _, hx, hy⟩ := mem_upTo h
  exact blkT_name hp hx hy
end

end Go.Proofs.YtnjmlhokkhkaaaaGreatDoor
