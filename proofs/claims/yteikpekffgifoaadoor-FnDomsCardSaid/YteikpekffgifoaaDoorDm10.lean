/- ReachL, ReachM, joined. -/
import Derived.Test.YteikpekffgifoaaDoorDm1
import Derived.Test.YteikpekffgifoaaDoorDm7
namespace Go.Proofs.YteikpekffgifoaaDoor

/- What is reached, by a list of blocks that are still to be looked at: lists alone. -/
section

structure RSt (sc : Int → List Int) (wo : Int) (N : Nat) (bs : List Bool) (ts : List Int) (k : Option Int) : Prop where
  len : bs.length = N
  snd : ∀ i : Nat, bs[i]? = some true → Rch sc wo i
  mem : ∀ t ∈ ts, 0 ≤ t ∧ t < (N : Int) ∧ bs[t.toNat]? = some true
  clo : ∀ i : Nat, bs[i]? = some true → (i : Int) ∈ ts ∨ k = some (i : Int) ∨ ∀ t ∈ sc i, t ≠ wo → bs[t.toNat]? = some true
  zer : bs[0]? = some true

section
variable {sc : Int → List Int} {wo : Int} {N : Nat}

theorem not_true_replicate {N i : Nat} (h : (List.replicate N false)[i]? = some true) : False := by
  rw [List.getElem?_replicate] at h
  split at h <;> simp at h

theorem RSt.start (hN : 1 ≤ N) (h0 : (0 : Int) ≠ wo) : RSt sc wo N ((List.replicate N false).set 0 true) [0] none := by
  have hl : ((List.replicate N false).set 0 true).length = N := by simp
  have hz : ((List.replicate N false).set 0 true)[0]? = some true := set_get_self (by simp; omega) true
  have hi : ∀ i : Nat, ((List.replicate N false).set 0 true)[i]? = some true → i = 0 := fun i h => by
    rcases Nat.eq_zero_or_pos i with e | e
    · exact e
    · rw [set_get_other (by omega)] at h
      exact (not_true_replicate h).elim
  refine ⟨hl, fun i h => ?_, fun t ht => ?_, fun i h => ?_, hz⟩
  · rw [hi i h]; exact .zero h0
  · simp at ht
    subst ht
    exact ⟨by omega, by omega, hz⟩
  · rw [hi i h]; exact .inl (by simp)

theorem RSt.pop {bs : List Bool} {us : List Int} {t : Int} (h : RSt sc wo N bs (us ++ [t]) none) : RSt sc wo N bs us (some t) :=
  ⟨h.len, h.snd, fun u hu => h.mem u (by simp [hu]), fun i hi => by
    rcases h.clo i hi with h1 | h1 | h1
    · rcases List.mem_append.1 h1 with h2 | h2
      · exact .inl h2
      · simp at h2; exact .inr (.inl (by rw [h2]))
    · cases h1
    · exact .inr (.inr h1), h.zer⟩

theorem RSt.mark {bs : List Bool} {ts : List Int} {k u : Nat} (h : RSt sc wo N bs ts (some (k : Int))) (hk : bs[k]? = some true) (hu : (u : Int) ∈ sc k) (hw : (u : Int) ≠ wo) (huN : u < N) : RSt sc wo N (bs.set u true) (ts ++ [(u : Int)]) (some (k : Int)) := by
  have hu' : (bs.set u true)[u]? = some true := set_get_self (by rw [h.len]; exact huN) true
  have hm : ∀ i : Nat, bs[i]? = some true → (bs.set u true)[i]? = some true := fun i hi => by
    by_cases e : u = i
    · subst e; exact hu'
    · rw [set_get_other e]; exact hi
  refine ⟨by simp [h.len], fun i hi => ?_, fun t ht => ?_, fun i hi => ?_, hm 0 h.zer⟩
  · by_cases e : u = i
    · subst e; exact .step (h.snd k hk) hu hw
    · rw [set_get_other e] at hi; exact h.snd i hi
  · rcases List.mem_append.1 ht with h1 | h1
    · have := h.mem t h1
      exact ⟨this.1, this.2.1, hm _ this.2.2⟩
    · simp at h1
      subst h1
      exact ⟨by omega, by omega, by rw [Int.toNat_natCast]; exact hu'⟩
  · by_cases e : u = i
    · subst e; exact .inl (by simp)
    · rw [set_get_other e] at hi
      rcases h.clo i hi with h1 | h1 | h1
      · exact .inl (List.mem_append_left _ h1)
      · exact .inr (.inl h1)
      · exact .inr (.inr fun t ht hw => hm _ (h1 t ht hw))

theorem RSt.finish {bs : List Bool} {ts : List Int} {k : Nat} (h : RSt sc wo N bs ts (some (k : Int))) (hs : ∀ t ∈ sc k, t ≠ wo → bs[t.toNat]? = some true) : RSt sc wo N bs ts none :=
  ⟨h.len, h.snd, h.mem, fun i hi => by
    rcases h.clo i hi with h1 | h1 | h1
    · exact .inl h1
    · injection h1 with h1
      have : k = i := by omega
      subst this
      exact .inr (.inr hs)
    · exact .inr (.inr h1), h.zer⟩

theorem RSt.reach (hsc : ∀ b : Nat, b < N → ∀ t ∈ sc b, 0 ≤ t ∧ t < (N : Int)) (hN : 1 ≤ N) {bs : List Bool} (h : RSt sc wo N bs [] none) : IsReach sc wo N bs := by
  refine ⟨h.len, fun i hi => ⟨fun hb => h.snd i hb, fun hr => ?_⟩⟩
  have key : ∀ x : Int, Rch sc wo x → 0 ≤ x ∧ x < (N : Int) ∧ bs[x.toNat]? = some true := by
    intro x hx
    induction hx with
    | zero _ => exact ⟨by omega, by omega, h.zer⟩
    | @step a b _ hb hw ih =>
      obtain ⟨ha0, haN, hat⟩ := ih
      obtain ⟨k, rfl⟩ : ∃ k : Nat, a = k := ⟨a.toNat, by omega⟩
      have hbr := hsc k (by omega) b hb
      rw [Int.toNat_natCast] at hat
      rcases h.clo k hat with h1 | h1 | h1
      · cases h1
      · cases h1
      · exact ⟨hbr.1, hbr.2, h1 b hb hw⟩
  have := (key i hr).2.2
  rw [Int.toNat_natCast] at this
  exact this

theorem reach_none (h0 : (0 : Int) = wo) : IsReach sc wo N (List.replicate N false) := by
  refine ⟨by simp, fun i hi => ⟨fun h => (not_true_replicate h).elim, fun hr => ?_⟩⟩
  have key : ∀ x : Int, Rch sc wo x → False := by
    intro x hx
    induction hx with
    | zero h => exact h h0
    | step _ _ _ ih => exact ih
  exact (key _ hr).elim
end
end

/- l3Reach of the model: what it answers, wherever all targets are there. -/
section
open Go.ChangeShapes Go.WideShapes Go.ChangeAt Go.RowKit Go.Joins

theorem wpList_append_intr {ops : Array Oper} {rest : List Oper} {o : Oper} {a : Act} {Q : Exit → Act → World → Prop} (hgd : o.guard = none) (s x : Operand)
    (ho : o.op = .call { callee := .builtin .append, args := #[s, x], argTypes := #[29, 29] })
    (B : Nat) (v : Value) (xs : List Int) (y : Int) (w : World) (q : Nat) (hq : w.heap.size = q) (hs : a.eval s = v) (hown : OI w B v xs) (hx : a.eval x = .slice (some ⟨q, 0, none⟩) 1 1) (hb : B ≤ w.heap.size) (hlen : xs.length ≤ 1048576)
    (h : ∀ v' w', OI w' B v' (xs ++ [y]) → w.grownBy w' v.ownBlock → (v'.ownBlock = v.ownBlock ∨ ∃ k, v'.ownBlock = some k ∧ w.heap.size ≤ k) → wpList Tryd.prog ops Q rest (a.put o.dst v') w') :
    wpList Tryd.prog ops Q (o :: rest) a (w.alloc (.cells #[.int .i64 y] 2)) := by
  subst hq
  exact wpList_append_int hgd s x ho B v xs y w hs hown hx hb hlen h

def TargetsR (bs : List BlockD) : Prop := ∀ (k : Nat) x, bs[k]? = some x → ∀ t ∈ toL x.fin.k x.fin.t x.fin.l, 0 ≤ t ∧ t < (bs.length : Int)
theorem targetsR_sc {bs : List BlockD} (h : TargetsR bs) : ∀ b : Nat, b < bs.length → ∀ t ∈ scF bs b, 0 ≤ t ∧ t < (bs.length : Int) := fun b hb t ht => by
  have hx : bs[b]? = some bs[b] := List.getElem?_eq_getElem hb
  rw [scF_at hx] at ht
  exact h b _ hx t ht
theorem TargetsOk.r {bs : List BlockD} (h : TargetsOk bs) : TargetsR bs := fun k x hx => (h k x hx).2
theorem take_mem {ls : List Int} {m : Nat} {u : Int} (h : ls[m]? = some u) : ∀ t ∈ ls.take (m + 1), t ∈ ls.take m ∨ t = u := fun t ht => by
  rw [List.take_add_one, h, Option.toList_some] at ht
  rcases List.mem_append.1 ht with h1 | h1
  · exact .inl h1
  · exact .inr (by simpa using h1)
/-- How many of the n cells of block q are false. -/
def unsR (w : World) (q n : Nat) : Nat := cf ((List.range n).map fun k => match w.cell? ⟨q, k, none⟩ with
  | some (.bool b) => b
  | _ => true)
theorem unsR_cf {w : World} {q n : Nat} {bs : List Bool} (h : BL w q n bs) : unsR w q n = cf bs := by
  unfold unsR
  congr 1
  apply List.ext_getElem?
  intro i
  rw [List.getElem?_map]
  by_cases hi : i < n
  · have hl : i < bs.length := by rw [h.1]; exact hi
    have hb : bs[i]? = some bs[i] := List.getElem?_eq_getElem hl
    rw [List.getElem?_range hi, hb, Option.map_some, h.cell hb]
  · rw [List.getElem?_eq_none (by simp; omega), List.getElem?_eq_none (by rw [h.1]; omega)]; rfl
def lenR : Value → Nat
  | .slice _ n _ => n
  | _ => 0
theorem BL.start1 (w : World) (n : Nat) (hm : n ≤ maxLen) : BL (w.alloc (.cells ((madeCells #[.bool false] n).setIfInBounds 0 (.bool true)) 4)) w.heap.size n ((List.replicate n false).set 0 true) := by
  have h := (BL.start w n hm).set 0 true
  rwa [World.setCell_alloc_at _ _ _ _ _ rfl] at h
def GivesReach (bs : List BlockD) (wo : Int) (w : World) (e : Ending) (w' : World) : Prop := ∃ q rs, e = .returned (.slice (some ⟨q, 0, none⟩) bs.length bs.length) ∧ BL w' q bs.length rs ∧ IsReach (scF bs) wo bs.length rs ∧ w.heap.size ≤ q ∧ Below w.heap.size w w'

set_option maxRecDepth 10000 in
set_option maxHeartbeats 2000000 in
theorem l3Reach_ex (f : FunD) (v : Value) (j : Int) (w : World) (Z : Zn) (hv : EFun w Z f v) (hD : ∀ b, Z.D b → b < w.heap.size) (ht : TargetsR f.blocks) (h1 : 1 ≤ f.blocks.length) (hn : f.blocks.length ≤ 1000) :
    Calls Tryd.prog 60 #[v, .int .i64 j] w (GivesReach f.blocks j w) := by
  obtain ⟨u, rfl, hle, A, c, rfl, hx⟩ := hv
  have HT := Lib.hid ht
  have HSC := Lib.hid (targetsR_sc ht)
  clear ht
  obtain ⟨i0, hi, hz0, hz1, hz2⟩ := info_parts info_boolr
  have hmk := fun W => run_make_rowN (P := Tryd.prog) 78 4 i0 _ Tryd.underlying78 hi hz0 .i64 .i64 f.blocks.length f.blocks.length (Nat.le_refl _) (by rw [hz2]; omega) (by omega) W
  rw [hz1] at hmk
  clear hi hz0 hz1 hz2
  have h1' : 0 < f.blocks.length := by omega
  have h1'' : 0 < (f.blocks.length : Int) := by omega
  have hB1 := Lib.hid (((Below.refl w.heap.size w).alloc (Nat.le_refl _) (.cells #[.int .i64 f.params, .int .i64 f.names, .slice A f.blocks.length c] 26)).alloc (by simp) (.cells (madeCells #[.bool false] f.blocks.length) 4))
  have hst := BL.start (w.alloc (.cells #[.int .i64 f.params, .int .i64 f.names, .slice A f.blocks.length c] 26)) f.blocks.length (by rw [maxLen_is]; omega)
  have hs1 : (w.alloc (.cells #[.int .i64 f.params, .int .i64 f.names, .slice A f.blocks.length c] 26)).heap.size = w.heap.size + 1 := by simp
  rw [hs1] at hst
  have HST := Lib.hid hst
  clear hst hs1
  by_cases hj : j = 0
  · subst hj
    go_enter Tryd.func60, Tryd.ntmps60
    go_wp2
    go_ret
    exact ⟨w.heap.size + 1, _, rfl, HST.out, reach_none rfl, by omega, hB1.out⟩
  have hb : (j == 0) = false := by simpa using hj
  have HJ0 : Hid ((0 : Int) ≠ j) := fun e => hj e.symm
  clear hj
  have hcell := HST.out.cell (get_replicate h1')
  have hfz := HST.out.frozen 0
  go_enter Tryd.func60, Tryd.ntmps60
  go_wp2
  clear hcell hfz HST
  have hgo : (w.alloc (.cells #[.int .i64 f.params, .int .i64 f.names, .slice A f.blocks.length c] 26)).heap.size = w.heap.size + 1 := by simp
  have hbs := BL.start1 (w.alloc (.cells #[.int .i64 f.params, .int .i64 f.names, .slice A f.blocks.length c] 26)) f.blocks.length (by rw [maxLen_is]; omega)
  rw [hgo] at hbs
  have HBS := Lib.hid hbs
  clear hbs hgo
  go_loopw [6, 7, 8, 9] (fun q _ _ _ wr => ∃ (ts : List Int) (bs : List Bool), Hid (OI wr (w.heap.size + 2) q ts) ∧ Hid (RSt (scF f.blocks) j f.blocks.length bs ts none) ∧ Hid (BL wr (w.heap.size + 1) f.blocks.length bs) ∧ Hid (Below (w.heap.size + 1) (w.alloc (.cells #[.int .i64 f.params, .int .i64 f.names, .slice A f.blocks.length c] 26)) wr) ∧ 2 * cf bs + ts.length ≤ 3000 ∧ unsR wr (w.heap.size + 1) f.blocks.length = cf bs) (fun q _ _ _ wr => 2 * unsR wr (w.heap.size + 1) f.blocks.length + lenR q)
  case atStart =>
    have HBS2 := HBS.out.fw (Fw.alloc (fun _ => False) _ (.cells #[.int .i64 0] 2)) (fun h => h)
    refine ⟨[0], _, ?_, RSt.start h1 HJ0.out, HBS2, ((Below.refl _ _).alloc (by simp) _).alloc (by simp) _, ?_, ?_⟩
    · exact OI_lit1 _ 0 (by simp) (Nat.le_refl _)
    · simp only [List.length_singleton]
      have := cf_le ((List.replicate f.blocks.length false).set 0 true)
      simp only [List.length_set, List.length_replicate] at this
      omega
    · exact unsR_cf HBS2
  case round =>
    obtain ⟨ts, bs, HO, HTS, HBB, HB, hcap3, hunc⟩ := hrel
    have HUNC := Lib.hid hunc
    clear hunc
    have HB0 : Hid (Below w.heap.size w wr) := ((Below.refl _ _).alloc (Nat.le_refl _) _).trans (HB.out.mono (by omega))
    have hzw : w.heap.size + 1 ≤ wr.heap.size := by have := HB.out.size; simp at this; omega
    have f2 : wr.cell? ⟨w.heap.size, 2, none⟩ = some (.slice A f.blocks.length c) := (HB.out.cell (p := ⟨w.heap.size, 2, none⟩) (by simp)).trans (by go_simp)
    have hts : ts = [] ∨ ∃ us t, ts = us ++ [t] := by
      rcases List.eq_nil_or_concat ts with h | ⟨us, t, h⟩
      · exact .inl h
      · exact .inr ⟨us, t, by rw [h, List.concat_eq_append]⟩
    rcases hts with rfl | ⟨us, t, rfl⟩
    · obtain ⟨_, A6, c6, rfl, _⟩ := HO.out.ri
      go_wp2
      go_ret
      exact ⟨w.heap.size + 1, _, rfl, HBB.out, HTS.out.reach HSC.out h1, by omega, HB0.out⟩
    have hlen : (us ++ [t]).length = us.length + 1 := by simp
    have HO1 := HO.out
    unfold OI at HO1
    rw [hlen] at HO1
    obtain ⟨gt, cap, rfl, hgt1, hgt2⟩ := World.ownsRow.form HO1 (by omega)
    have hct : wr.cell? ⟨gt, us.length, none⟩ = some (.int .i64 t) := by
      rw [World.ownsRow.cellAt HO1 us.length (by omega)]
      simp [iv]
    have HPO : Hid (OI wr (w.heap.size + 2) (.slice (some ⟨gt, 0, none⟩) us.length cap) us) := by
      refine ownsRow_pop (last := [iv t]) (by simp) ?_
      have := HO1
      rw [List.map_append] at this
      exact this
    have ht := HTS.out.mem t (by simp)
    have HTU := Lib.hid HTS.out.pop
    have hcapb : us.length + 1 ≤ cap ∧ cap ≤ 9223372036854775807 := by
      rcases HO1.2 with ⟨h', _⟩ | ⟨_, _, _, h', _, _, h5, h6, _⟩
      · cases h'
      · simp only [Value.slice.injEq, Option.some.injEq, Addr.mk.injEq, and_true, true_and] at h'
        obtain ⟨_, rfl⟩ := h'
        rw [maxLen_is] at h6
        exact ⟨h5, h6⟩
    obtain ⟨k, rfl⟩ : ∃ k : Nat, t = k := ⟨t.toNat, by omega⟩
    have hk : k < f.blocks.length := by omega
    have hk' : (k : Int) < (f.blocks.length : Int) := by omega
    have hk0 : 0 ≤ (k : Int) := by omega
    have HKM : Hid (bs[k]? = some true) := by have := ht.2.2; rw [Int.toNat_natCast] at this; exact this
    replace ht := And.intro ht.1 ht.2.1
    have hxk : f.blocks[k]? = some f.blocks[k] := List.getElem?_eq_getElem hk
    generalize f.blocks[k] = x at hxk
    obtain ⟨b, off, rfl, hDb, hrow⟩ := hx (by intro h; rw [h] at hk; simp at hk)
    obtain ⟨cs, hE, hcs⟩ := hrow k x hxk
    have hbl := hD b hDb
    obtain ⟨_, _, _, _, rfl, _⟩ := hE
    have c4 : wr.cell? ⟨b, off + k * 8 + 4, none⟩ = some (.int .i64 x.fin.k) := (HB0.out.cell (p := ⟨b, _, none⟩) hbl).trans (hcs 4 _ rfl).1
    have c5 : wr.cell? ⟨b, off + k * 8 + 4 + 1, none⟩ = some (.int .i64 x.fin.a) := (HB0.out.cell (p := ⟨b, _, none⟩) hbl).trans (hcs 5 _ rfl).1
    have c6 : wr.cell? ⟨b, off + k * 8 + 4 + 2, none⟩ = some (.int .i64 x.fin.t) := (HB0.out.cell (p := ⟨b, _, none⟩) hbl).trans (hcs 6 _ rfl).1
    have c7 : wr.cell? ⟨b, off + k * 8 + 4 + 3, none⟩ = some (.int .i64 x.fin.l) := (HB0.out.cell (p := ⟨b, _, none⟩) hbl).trans (hcs 7 _ rfl).1
    have HET := Lib.hid (HT.out k x hxk)
    have HSK := Lib.hid (scF_at hxk)
    clear hcs hx hxk hrow HO HO1 HTS ht
    go_wp2_with fail
    refine (l2Succs_any _ _ _ _ _).mono ?_
    rintro e w1 ⟨r, rfl, hr, hb1⟩
    have hz1 := hb1.size
    have hlo : Hid (∀ kk, (Value.slice (some ⟨gt, 0, none⟩) us.length cap).ownBlock = some kk → kk < wr.heap.size ∨ w1.heap.size ≤ kk) := fun kk hkk => .inl (HPO.out.lt kk hkk).2
    have HP1 := Lib.hid (HPO.out.below hb1 fun kk hkk => (HPO.out.lt kk hkk).2)
    have HBB1 := Lib.hid (HBB.out.fw (Fw.below (P := fun _ => False) hb1) (fun h => h))
    have HB1 := Lib.hid (HB.out.trans (hb1.mono hzw))
    have HL1 := Lib.hid hr
    have hll := toL_len x.fin.k x.fin.t x.fin.l
    have HEL : Hid (∀ u ∈ toL x.fin.k x.fin.t x.fin.l, 0 ≤ u ∧ u < (f.blocks.length : Int)) := HET.out
    obtain ⟨M, hM⟩ : ∃ M, M = 2 * cf bs + (us.length + 1) := ⟨_, rfl⟩
    rw [hlen] at hcap3
    have hM3 : M ≤ 3000 := by omega
    have hM1 : 2 * cf bs + us.length + 1 ≤ M := by omega
    have HM := Lib.hid hM
    obtain ⟨lo, hlo'⟩ : ∃ lo, lo = wr.heap.size := ⟨_, rfl⟩
    have hzlo : w.heap.size + 2 ≤ lo := by have := HBB.out.lt; omega
    rw [← hlo'] at HL1 hlo hz1
    have HSU : Hid (∀ u ∈ toL x.fin.k x.fin.t x.fin.l, u ∈ scF f.blocks k) := fun u hu => by rw [HSK.out]; exact hu
    have HSU' : Hid (∀ u ∈ scF f.blocks k, u ∈ toL x.fin.k x.fin.t x.fin.l) := fun u hu => by rw [← HSK.out]; exact hu
    generalize toL x.fin.k x.fin.t x.fin.l = ls at hll HEL HL1 HSU HSU'
    clear hr
    obtain ⟨_, A8, c8, rfl, _⟩ := HL1.out.ri
    clear hb1 hM hlo' hlen hcap3 HPO HBB HB HET HSK c4 c5 c6 c7 hct f2 hzw
    have HL2 : Hid (OI w1 lo (.slice A8 ls.length c8) ls) := HL1.out
    clear HL1
    go_wp2_with fail
    go_loopw [6, 9] (fun q i wq => ∃ (m : Nat) (ts : List Int) (bs : List Bool), m ≤ ls.length ∧ i = .int .i64 m ∧ Hid (OI wq (w.heap.size + 2) q ts) ∧ Hid (RSt (scF f.blocks) j f.blocks.length bs ts (some (k : Int)) ∧ bs[k]? = some true ∧ ∀ t ∈ ls.take m, t ≠ j → bs[t.toNat]? = some true) ∧ Hid (BL wq (w.heap.size + 1) f.blocks.length bs) ∧ Hid (Below (w.heap.size + 1) (w.alloc (.cells #[.int .i64 f.params, .int .i64 f.names, .slice (some ⟨b, off, none⟩) f.blocks.length c] 26)) wq) ∧ w1.heap.size ≤ wq.heap.size ∧ Hid (∀ kk, q.ownBlock = some kk → kk < lo ∨ w1.heap.size ≤ kk) ∧ Hid (OI wq lo (.slice A8 ls.length c8) ls) ∧ 2 * cf bs + ts.length + 1 ≤ M) (fun _ i _ => ls.length - (intOf i).toNat)
    case atStart => exact ⟨0, us, bs, Nat.zero_le _, rfl, HP1.out, ⟨HTU.out, HKM.out, fun t ht => by simp at ht⟩, HBB1.out, HB1.out, Nat.le_refl _, hlo.out, HL2.out, hM1⟩
    case round =>
      obtain ⟨m, ts, bs, hm, rfl, HO, HTS, HBB, HB, hsz, HAV, HL, hMm⟩ := hrel
      have hgo := HBB.out.lt
      by_cases hml : m < ls.length
      case neg =>
        obtain rfl : m = ls.length := by omega
        obtain ⟨_, A6, c6, rfl, _⟩ := HO.out.ri
        have HMM := Lib.hid hMm
        clear hMm
        go_wp2
        go_roundw
        case rel => exact ⟨ts, bs, HO.out, HTS.out.1.finish (fun t ht hw => HTS.out.2.2 t (by rw [List.take_length]; exact HSU'.out t ht) hw), HBB.out, HB.out, by have h1 := HMM.out; omega, unsR_cf HBB.out⟩
        case measure =>
          have h1 := HMM.out
          have h2 := HM.out
          have h3 := unsR_cf HBB.out
          have h4 := HUNC.out
          simp only [lenR]
          omega
      have hum : ls[m]? = some ls[m] := List.getElem?_eq_getElem hml
      have hur := HEL.out _ (List.getElem_mem hml)
      have HSM := Lib.hid (HSU.out _ (List.getElem_mem hml))
      generalize ls[m] = u at hum hur HSM
      obtain ⟨k2, rfl⟩ : ∃ k2 : Nat, u = k2 := ⟨u.toNat, by omega⟩
      have hk2 : k2 < f.blocks.length := by omega
      have hk2' : (k2 : Int) < (f.blocks.length : Int) := by omega
      have hk20 : 0 ≤ (k2 : Int) := by omega
      obtain ⟨_, A8', c8', he8, hux⟩ := HL.out.ri
      injection he8 with q1 _ q2
      subst q1 q2
      obtain ⟨b', off', rfl, hcell⟩ := hux (by rintro rfl; simp at hml)
      have p0 := hcell m _ hum
      have hbl2 : k2 < bs.length := by rw [HBB.out.1]; exact hk2
      have hbg : bs[k2]? = some bs[k2] := List.getElem?_eq_getElem hbl2
      generalize bs[k2] = bb at hbg
      have hbb := HBB.out.cell hbg
      have HBG := Lib.hid hbg
      have HTK := Lib.hid (take_mem hum)
      have hbf := HBB.out.frozen k2
      have HMM := Lib.hid hMm
      clear hcell hux hur hMm hbg hum
      by_cases hne : (k2 : Int) = j
      · have g1 : ((k2 : Int) != j) = false := by simpa using hne
        have HNE := Lib.hid hne
        clear hne
        go_wp2
        go_roundw
        case rel => exact ⟨m + 1, ts, bs, by omega, by go_num, HO.out, ⟨HTS.out.1, HTS.out.2.1, fun t ht hw => by
          rcases HTK.out t ht with h | h
          · exact HTS.out.2.2 t h hw
          · exact absurd (h.trans HNE.out) hw⟩, HBB.out, HB.out, hsz, HAV.out, HL.out, HMM.out⟩
        case measure => simp [intOf]; omega
      have g1 : ((k2 : Int) != j) = true := by simpa using hne
      have HNE := Lib.hid hne
      clear hne
      cases bb
      case true =>
        go_wp2
        go_roundw
        case rel => exact ⟨m + 1, ts, bs, by omega, by go_num, HO.out, ⟨HTS.out.1, HTS.out.2.1, fun t ht hw => by
          rcases HTK.out t ht with h | h
          · exact HTS.out.2.2 t h hw
          · rw [h, Int.toNat_natCast]; exact HBG.out⟩, HBB.out, HB.out, hsz, HAV.out, HL.out, HMM.out⟩
        case measure => simp [intOf]; omega
      have hset := cf_set HBG.out
      have HBS := Lib.hid (HBB.out.set k2 true)
      have hgr := set_grown wr (w.heap.size + 1) k2 (.bool true)
      have hOne : ∀ kk, u6.ownBlock = some kk → kk ≠ w.heap.size + 1 := fun kk hkk => by have := (HO.out.lt kk hkk).1; omega
      have HOs : Hid (OI (wr.setCell ⟨w.heap.size + 1, k2, none⟩ (.bool true)) (w.heap.size + 2) u6 ts) := HO.out.grown hgr (by
        rcases hob : u6.ownBlock with _ | kk
        · exact .inl rfl
        · exact .inr fun e => hOne kk hob (by injection e))
      have hb5 := HL.out.lt b' rfl
      have HLs : Hid (OI (wr.setCell ⟨w.heap.size + 1, k2, none⟩ (.bool true)) lo (.slice (some ⟨b', off', none⟩) ls.length c8) ls) := HL.out.grown hgr (.inr fun e => by injection e with e; simp at e; omega)
      have HBs : Hid (Below (w.heap.size + 1) (w.alloc (.cells #[.int .i64 f.params, .int .i64 f.names, .slice (some ⟨b, off, none⟩) f.blocks.length c] 26)) (wr.setCell ⟨w.heap.size + 1, k2, none⟩ (.bool true))) := HB.out.setCell (by simp) _
      have hss : (wr.setCell ⟨w.heap.size + 1, k2, none⟩ (.bool true)).heap.size = wr.heap.size := nblk_set _ _ _
      have hlt5 : b' < wr.heap.size := by omega
      have hne5 : w.heap.size + 1 ≠ b' := by omega
      have htl : ts.length ≤ 1000000 := by
        have h1 := HMM.out
        omega
      have HU6 := Lib.hid HO.out
      obtain ⟨_, A6, c6, rfl, _⟩ := HO.out.ri
      clear hgr
      go_wp2_with (at_builtin; go_must (refine wpList_append_intr rfl (.tmp 69) (.tmp 74) rfl (w.heap.size + 2) _ ts k2 (wr.setCell ⟨w.heap.size + 1, k2, none⟩ (.bool true)) wr.heap.size hss rfl HOs.out rfl (by omega) (by omega) ?_; intro v' w9 hown9 hg9 hat9; have HO9 := Lib.hid hown9; have HG9 := Lib.hid hg9; have HA9 := Lib.hid hat9; clear hown9 hg9 hat9))
      have hg9 := HG9.out
      have hz9 := hg9.size
      rw [hss] at hz9
      have hob6 : ∀ kk, (Value.slice A6 ts.length c6).ownBlock = some kk → w.heap.size + 2 ≤ kk := fun kk hkk => (HU6.out.lt kk hkk).1
      have hgo9 : w9.heap[w.heap.size + 1]? = (wr.setCell ⟨w.heap.size + 1, k2, none⟩ (.bool true)).heap[w.heap.size + 1]? := hg9.block _ (by rw [hss]; exact hgo) fun e => by have := hob6 _ e.symm; omega
      have HBB9 := Lib.hid (HBS.out.fw (Fw.grown (P := fun kk => (Value.slice A6 ts.length c6).ownBlock = some kk) hg9 fun g e _ => e) fun e => by have := hob6 _ e; omega)
      have HB9 : Hid (Below (w.heap.size + 1) (w.alloc (.cells #[.int .i64 f.params, .int .i64 f.names, .slice (some ⟨b, off, none⟩) f.blocks.length c] 26)) w9) := HBs.out.grown hg9 (by rw [hss]; omega) fun kk hkk => by have := hob6 _ hkk; omega
      have HL9 := Lib.hid (HLs.out.grown hg9 (.inr fun e => by
        have hb6 := HL2.out.lt b' rfl
        rcases HAV.out b' e.symm with h | h <;> omega))
      have HAV9 : Hid (∀ kk, v'.ownBlock = some kk → kk < lo ∨ w1.heap.size ≤ kk) := fun kk hkk => by
        rcases HA9.out with h | ⟨k9, h, hk9⟩
        · exact HAV.out kk (h.symm.trans hkk)
        · rw [h] at hkk
          injection hkk with hkk
          rw [hss] at hk9
          exact .inr (by omega)
      have HTS9 : Hid (RSt (scF f.blocks) j f.blocks.length (bs.set k2 true) (ts ++ [(k2 : Int)]) (some (k : Int)) ∧ (bs.set k2 true)[k]? = some true ∧ ∀ t ∈ ls.take (m + 1), t ≠ j → (bs.set k2 true)[t.toNat]? = some true) := by
        have hm : ∀ i : Nat, bs[i]? = some true → (bs.set k2 true)[i]? = some true := fun i hi => by
          by_cases e : k2 = i
          · subst e; exact set_get_self hbl2 true
          · rw [set_get_other e]; exact hi
        refine ⟨HTS.out.1.mark HTS.out.2.1 HSM.out HNE.out hk2, hm k HTS.out.2.1, fun t ht hw => ?_⟩
        rcases HTK.out t ht with h | h
        · exact hm _ (HTS.out.2.2 t h hw)
        · rw [h, Int.toNat_natCast]; exact set_get_self hbl2 true
      have hfin : 2 * cf (bs.set k2 true) + (ts ++ [(k2 : Int)]).length + 1 ≤ M := by
        have h1 := HMM.out
        rw [List.length_append, List.length_singleton]
        omega
      go_roundw
      case rel => exact ⟨m + 1, ts ++ [(k2 : Int)], bs.set k2 true, by omega, by go_num, HO9.out, HTS9.out, HBB9.out, HB9, by omega, HAV9, HL9.out, hfin⟩
      case measure => simp [intOf]; omega
end

end Go.Proofs.YteikpekffgifoaaDoor
