import Derived.Test.YtjnmoddcodnadaaGreatG23
import Derived.Test.YtjnmoddcodnadaaGreatG06
import Derived.Test.YtjnmoddcodnadaaGreatG15
set_option linter.unusedVariables false
set_option linter.unusedSimpArgs false
namespace Go.Proofs.YtjnmoddcodnadaaGreat
open Go.RowKit Go.Annal Go.Sort
/-- What the history of an account answers. -/
theorem progHistBal {w : World} {B : Nat} {s : St} {k : Bk} {kd : Nat → Int} {mm : Nat → Nat} {ff : Nat → Nat → It} {F : Nat → Prop} {gl cl : Nat → Nat} {xa : Nat → Nat → ByteArray} {xm : Nat → Nat → Int} {kk : Nat → EvK} (h : ProgAt w B s k kd mm ff F gl cl xa xm kk) (ho : s.Ok) (day known : Int) (hd : dayB day = true) (hkn : knownB known s.ne = true) (i : Nat) (hi : i < k.na) (W : World) (hW : Below w.heap.size w W) :
    Calls Tryz.prog 28 #[.pointer (some ⟨k.pa i, 2, none⟩), .int .i64 day, .int .i64 known] W fun r w' => r = .returned (.int .i64 (enS s.dy s.la s.lm (k.nm i) day s.ln known.toNat)) ∧ Below W.heap.size W w' := by
  obtain ⟨k1, k2⟩ := knownB_yes hkn
  have hfew := h.few ho i hi
  have hne := ho.ne
  have hit := h.it i (by rw [← h.na]; exact hi)
  obtain ⟨ad, cap, gr, cp, bl, g1, _, _⟩ := h.ac
  have hA := (g1 i hi).turn (S := fun _ => False) (Turn.of_below hW) (fun _ _ h => h)
  have e1 := known_its s.dy s.la s.lm (k.nm i) s.ln s.ne (mm i) (ff i) known hit k1 k2
  have := histBal_at (k.pa i) (k.nm i) (kd i) (mm i) (ff i) (ad i) (cap i) (gr i) (cp i) (bl i) W day known hA (by omega) (num_le s.dy s.la s.lm (k.nm i) s.ln s.ne (mm i) (ff i) hit ho.tw) hd
  rw [e1, ← enS_its] at this
  exact this
theorem progBal (B : Nat) (s : St) (Fp : Nat → Prop) (name : ByteArray) (day known : Int) (w : World) (h : ProgIs w B s Fp) (ho : s.Ok) :
    Calls Tryz.prog 16 #[.pointer (some ⟨B, 0, none⟩), .string name, .int .i64 day, .int .i64 known] w fun r w' => r = .returned (.tuple #[.int .i64 (s.bal name day known), .int .i64 (s.balE name day known)]) ∧ Below w.heap.size w w' := by
  obtain ⟨k, kd, mm, ff, F, gl, cl, xa, xm, kk, h1, h2⟩ := h
  obtain ⟨ga, hat⟩ := h1.bk.at h1.ac
  have hna := ho.na
  have hkna := h1.na
  have hth := congrFun h1.there name
  have hE : s.balE name day known = askErr (isAt k.nm k.na name) (dayB day) (knownB known k.ne) := by rw [hth, h1.ne]; rfl
  unfold St.bal
  rw [hE]
  refine Balance_any B ga k.ca k.na k.ne k.ada k.pa k.nm name day known _ w hat (by omega) (blk_cell' h1.bk.bk (o := 2) rfl) (fun hi hd hkn W hW => ?_)
  obtain ⟨g1, g2⟩ := isAt_eq hi
  rw [h1.ne] at hkn
  have := progHistBal h1 ho day known hd hkn _ g1 W hW
  rw [g2] at this
  exact this
theorem progTrialK {w : World} {B : Nat} {s : St} {k : Bk} {kd : Nat → Int} {mm : Nat → Nat} {ff : Nat → Nat → It} {F : Nat → Prop} {gl cl : Nat → Nat} {xa : Nat → Nat → ByteArray} {xm : Nat → Nat → Int} {kk : Nat → EvK} (h1 : ProgAt w B s k kd mm ff F gl cl xa xm kk) (ho : s.Ok) (day known : Int) (g1 : dayB day = true) (g2 : knownB known s.ne = true) :
    Calls Tryz.prog 14 #[.pointer (some ⟨B, 0, none⟩), .int .i64 day, .int .i64 known] w fun r w' => ∃ v, r = .returned (.tuple #[v, .int .i64 0]) ∧ w'.ownsRow w.heap.size 47 2 v (trA k.nm (fun i => enS s.dy s.la s.lm (k.nm i) day s.ln known.toNat) k.na).length (cells2 (trA k.nm (fun i => enS s.dy s.la s.lm (k.nm i) day s.ln known.toNat) k.na)) ∧ Below w.heap.size w w' := by
  obtain ⟨ga, hat⟩ := h1.bk.at h1.ac
  have hna := ho.na
  have hkna := h1.na
  exact Trial_ok B ga k.ca k.na k.ne k.ada k.pa k.nm (fun i => enS s.dy s.la s.lm (k.nm i) day s.ln known.toNat) day known w hat (by omega) (blk_cell' h1.bk.bk (o := 2) rfl) g1 (by rw [h1.ne]; exact g2) (fun i hi W hW => progHistBal h1 ho day known g1 g2 i hi W hW)
theorem progTrial (B : Nat) (s : St) (Fp : Nat → Prop) (day known : Int) (w : World) (h : ProgIs w B s Fp) (ho : s.Ok) :
    Calls Tryz.prog 14 #[.pointer (some ⟨B, 0, none⟩), .int .i64 day, .int .i64 known] w fun r w' => ∃ v, r = .returned (.tuple #[v, .int .i64 (s.trialE day known)]) ∧ w'.ownsRow w.heap.size 47 2 v (s.trial day known).length (cells2 (s.trial day known)) ∧ Below w.heap.size w w' := by
  obtain ⟨k, kd, mm, ff, F, gl, cl, xa, xm, kk, h1, h2⟩ := h
  by_cases he : s.trialE day known = 0
  · obtain ⟨g1, g2⟩ := viewE_zero he
    refine (progTrialK h1 ho day known g1 g2).mono ?_
    rintro r w' ⟨v, rfl, hv, hb⟩
    refine ⟨v, by rw [he], ?_, hb⟩
    unfold St.trial
    rw [if_pos he]
    rw [h1.na, h1.ns.trial (fun x => enS s.dy s.la s.lm x day s.ln known.toNat) _ (fun i _ => rfl)] at hv
    exact hv
  · have hE : s.trialE day known = viewE (dayB day) (knownB known k.ne) := by rw [h1.ne]; rfl
    refine (Trial_err B k.ne day known w (blk_cell' h1.bk.bk (o := 2) rfl) (hE ▸ he)).mono ?_
    rintro r w' ⟨rfl, hb⟩
    refine ⟨_, by rw [hE], ?_, hb⟩
    unfold St.trial
    rw [if_neg he]
    exact ⟨rfl, .inl ⟨rfl, rfl⟩⟩
theorem progItems (B : Nat) (s : St) (Fp : Nat → Prop) (name : ByteArray) (d1 d2 known : Int) (w : World) (h : ProgIs w B s Fp) (ho : s.Ok) :
    Calls Tryz.prog 17 #[.pointer (some ⟨B, 0, none⟩), .string name, .int .i64 d1, .int .i64 d2, .int .i64 known] w fun r w' => ∃ v, r = .returned (.tuple #[v, .int .i64 (s.itemsE name d1 d2 known)]) ∧ w'.ownsRow w.heap.size 53 3 v (s.items name d1 d2 known).length (cells3 (s.items name d1 d2 known)) ∧ Below w.heap.size w w' := by
  obtain ⟨k, kd, mm, ff, F, gl, cl, xa, xm, kk, h1, h2⟩ := h
  obtain ⟨ga, hat⟩ := h1.bk.at h1.ac
  have hna := ho.na
  have hne := ho.ne
  have hkna := h1.na
  have hth := congrFun h1.there name
  have hE : s.itemsE name d1 d2 known = askErr (isAt k.nm k.na name) (dayB d1 && dayB d2) (knownB known k.ne) := by rw [hth, h1.ne]; rfl
  by_cases he : s.itemsE name d1 d2 known = 0
  · obtain ⟨g0, g1, g2⟩ := askErr_zero (hE ▸ he)
    have g2' := g2
    rw [h1.ne] at g2'
    obtain ⟨k1, k2⟩ := knownB_yes g2'
    obtain ⟨hi, hnm⟩ := isAt_eq g0
    have hfew := h1.few ho _ hi
    have hit := h1.it _ (by rw [← hkna]; exact hi)
    have e1 := known_its s.dy s.la s.lm _ s.ln s.ne _ _ known hit k1 k2
    have hnum := num_le s.dy s.la s.lm _ s.ln s.ne _ _ hit ho.tw
    rw [hnm] at e1
    rw [Bool.and_eq_true] at g1
    obtain ⟨ad, cap, gr, cp, bl, q1, _, _⟩ := h1.ac
    refine (Items_ok B ga k.ca k.na k.ne k.ada k.pa k.nm name d1 d2 known w (fun v w' => w'.ownsRow w.heap.size 53 3 v (s.items name d1 d2 known).length (cells3 (s.items name d1 d2 known))) hat (by omega) (blk_cell' h1.bk.bk (o := 2) rfl) g0 (by rw [g1.1, g1.2]; rfl) g2 (fun W hW => ?_)).mono ?_
    · have hA := (q1 _ hi).turn (S := fun _ => False) (Turn.of_below hW) (fun _ _ h => h)
      refine (histItems_at _ _ _ _ _ _ _ _ _ _ W d1 d2 known hA (by omega) hnum g1.1 g1.2).mono ?_
      rintro r w' ⟨v, rfl, ⟨l', hp, hs, hv⟩, hb⟩
      refine ⟨v, rfl, ?_, hb⟩
      rw [e1] at hp
      have hsame := items_same s.dy s.la s.lm name d1 d2 s.ln known.toNat (fun k hk => ho.tw k (by omega)) l' hp hs
      unfold St.items
      rw [if_pos he, ← hsame]
      exact owns_le hv hW.size
    · rintro r w' ⟨v, rfl, hv, hb⟩
      exact ⟨v, by rw [he], hv, hb⟩
  · refine (Items_err B ga k.ca k.na k.ne k.ada k.pa k.nm name d1 d2 known w hat (by omega) (blk_cell' h1.bk.bk (o := 2) rfl) (hE ▸ he)).mono ?_
    rintro r w' ⟨rfl, hb⟩
    refine ⟨_, by rw [hE], ?_, hb⟩
    unfold St.items
    rw [if_neg he]
    exact ⟨rfl, .inl ⟨rfl, rfl⟩⟩
end Go.Proofs.YtjnmoddcodnadaaGreat
namespace Go.Proofs.YtjnmoddcodnadaaGreat
open Go.RowKit Go.Annal Go.Sort
/-- Days are locked. -/
theorem prog_lk {w : World} {B : Nat} {s : St} {Fp : Nat → Prop} (h : ProgIs w B s Fp) (day : Int) (hd : s.lk ≤ day) : ProgIs (w.setCell ⟨B, 3, none⟩ (.int .i64 (day + 1))) B { s with lk := day } Fp ∧ Turn Fp w (w.setCell ⟨B, 3, none⟩ (.int .i64 (day + 1))) ∧ w.cell? ⟨B, 3, none⟩ = some (.int .i64 (s.lk + 1)) ∧ w.frozen? ⟨B, 3, none⟩ = false := by
  obtain ⟨k, kd, mm, ff, F, gl, cl, xa, xm, kk, h1, h2⟩ := h
  have hT : Turn (fun b => b = B) w (w.setCell ⟨B, 3, none⟩ (.int .i64 (day + 1))) := (Turn.refl _ _).set _ _ (fun _ => rfl)
  have c3 := blk_cell' h1.bk.bk (o := 3) rfl
  rw [← h1.ul]
  refine ⟨⟨{ k with ul := day + 1 }, kd, mm, ff, F, gl, cl, xa, xm, kk, ⟨⟨blk_set h1.bk.bk 3 _, ?_, ?_, ?_, h1.bk.up⟩, ?_, h1.na, h1.ne, rfl, ?_, h1.ns, h1.kb, h1.ks, h1.it, h1.ev, ?_, h1.pl, h1.gn, h1.un⟩, h2⟩, hT.mono (fun b _ e => (h2 b).2 (.inl (.inl e))), c3, blk_free h1.bk.bk 3⟩
  · exact ownsRow_setCell_other h1.bk.ac (a := ⟨B, 3, none⟩) (owns_ne h1.bk.ac h1.bk.bk (by decide)) _
  · exact ownsRow_setCell_other h1.bk.dn (a := ⟨B, 3, none⟩) (owns_ne h1.bk.dn h1.bk.bk (by decide)) _
  · exact ownsRow_setCell_other h1.bk.en (a := ⟨B, 3, none⟩) (owns_ne h1.bk.en h1.bk.bk (by decide)) _
  · exact h1.ac.turn hT (fun b hb e => h1.bk.apart h1.ac (.inl e) hb)
  · have := h1.nd
    show (k.nd : Int) ≤ (s.na : Int) + s.ne + day + 1
    omega
  · intro i hi
    exact ownsRow_setCell_other (h1.lo i hi) (a := ⟨B, 3, none⟩) (owns_ne (h1.lo i hi) h1.bk.bk (by decide)) _
/-- Close. -/
theorem progClose (B : Nat) (s : St) (Fp : Nat → Prop) (day : Int) (into : ByteArray) (w : World) (h : ProgIs w B s Fp) (ho : s.Ok) :
    Calls Tryz.prog 21 #[.pointer (some ⟨B, 0, none⟩), .int .i64 day, .string into] w fun r w' => r = .returned (.tuple #[.int .i64 (s.closeN day into), .int .i64 (s.closeE day into)]) ∧ ∃ Fp', ProgIs w' B (s.afterClose day into) Fp' ∧ Turn Fp w w' ∧ ∀ b, Fp' b → Fp b ∨ w.heap.size ≤ b := by
  obtain ⟨k, kd, mm, ff, F, gl, cl, xa, xm, kk, h1, h2⟩ := id h
  have hna := ho.na
  have hne := ho.ne
  have hkna := h1.na
  have hkne := h1.ne
  have hul := h1.ul
  have hlk := ho.lk
  obtain ⟨ga, hat⟩ := h1.bk.at h1.ac
  have CF := find_any B ga k.ca k.na k.ada k.pa k.nm into w hat (by omega)
  have hN : s.closeE day into ≠ 0 → s.closeN day into = 0 := fun he => by unfold St.closeN; rw [if_neg he]
  have hbad : ∀ (E : Int) (P : Value), E ≠ 0 → s.closeE day into = E → findV k.pa k.nm k.na into = P → (∀ W, Below w.heap.size w W → Calls Tryz.prog 36 #[.pointer (some ⟨B, 0, none⟩), .int .i64 day, P] W fun r w' => r = .returned (.int .i64 E) ∧ Below W.heap.size W w') → Calls Tryz.prog 21 #[.pointer (some ⟨B, 0, none⟩), .int .i64 day, .string into] w fun r w' => r = .returned (.tuple #[.int .i64 (s.closeN day into), .int .i64 (s.closeE day into)]) ∧ ∃ Fp', ProgIs w' B (s.afterClose day into) Fp' ∧ Turn Fp w w' ∧ ∀ b, Fp' b → Fp b ∨ w.heap.size ≤ b := fun E P hE he hP CR => by
    rw [hP] at CF
    refine (CloseA_err B day E into P w hE CF CR).mono ?_
    rintro r w' ⟨rfl, hb⟩
    refine ⟨by rw [hN (by rw [he]; exact hE), he], Fp, ?_, Turn.of_below hb, fun b hk => .inl hk⟩
    unfold St.afterClose
    rw [if_neg (by rw [he]; exact hE)]
    exact h.turn (S := fun _ => False) (Turn.of_below hb) (fun _ _ h => h)
  have hthere : isAt k.nm k.na into = decide (0 ≤ atI s.fn s.na into) := congrFun h1.there into
  have hdl : decide (day < k.ul) = decide (day ≤ s.lk) := by rw [Bool.eq_iff_iff, decide_eq_true_iff, decide_eq_true_iff]; omega
  cases hi : isAt k.nm k.na into
  · have e0 : findV k.pa k.nm k.na into = .pointer none := by unfold findV; rw [hi]; rfl
    have hE : s.closeE day into = if dayB day then 7 else 5 := by
      have hf : s.closeF day into = if dayB day then 7 else 5 := by
        unfold St.closeF
        rw [← hthere, hi]
        cases dayB day <;> rfl
      unfold St.closeE
      rw [if_pos (by rw [hf]; cases dayB day <;> decide), hf]
    exact hbad _ _ (by cases dayB day <;> decide) hE e0 (fun W _ => refuseClose_nil B day W)
  · have e0 : findV k.pa k.nm k.na into = .pointer (some ⟨k.pa (lessN k.nm k.na into), 0, none⟩) := by unfold findV; rw [hi]; rfl
    obtain ⟨hp, hnm⟩ := isAt_eq hi
    have hat0 : 0 ≤ atI s.fn s.na into := of_decide_eq_true (hthere.symm.trans hi)
    have hkind : kd (lessN k.nm k.na into) = s.kd (atI s.fn s.na into).toNat := by
      rw [h1.ks _ (by rw [← hkna]; exact hp), hnm]
    obtain ⟨_, v0, hv0⟩ := h1.ac.acc hp
    have cK := blk_cell' hv0 (o := 1) rfl
    have cN := blk_cell' hv0 (o := 0) rfl
    rw [hnm] at cN
    rw [hkind] at cK
    have cE : w.cell? ⟨B, 2, none⟩ = some k.nv := blk_cell' h1.bk.bk (o := 2) rfl
    have cU : w.cell? ⟨B, 3, none⟩ = some (.int .i64 k.ul) := blk_cell' h1.bk.bk (o := 3) rfl
    -- what flowed
    obtain ⟨M, hM⟩ : ∃ M, M = (trA k.nm (fun i => enS s.dy s.la s.lm (k.nm i) day s.ln s.ne) k.na).filter (fun y => !(kd (lessN k.nm k.na y.1) == 0)) := ⟨_, rfl⟩
    have hMl : (trA k.nm (fun i => enS s.dy s.la s.lm (k.nm i) day s.ln s.ne) k.na).length ≤ 10 := by have := trA_len k.nm (fun i => enS s.dy s.la s.lm (k.nm i) day s.ln s.ne) k.na; omega
    have hknown : knownB (k.ne : Int) s.ne = true := by unfold knownB; rw [hkne]; simp
    have hFlow : dayB day = true → ∀ W, Below w.heap.size w W → Calls Tryz.prog 59 #[.pointer (some ⟨B, 0, none⟩), .int .i64 day] W fun r w' => ∃ v, r = .returned v ∧ Hid (w'.ownsRow W.heap.size 47 2 v M.length (cells2 M) ∧ Below W.heap.size W w') := fun hd W hW => by
      have hA' := h1.mv hW
      have hT := progTrialK hA' ho day (k.ne : Int) hd hknown
      rw [Int.toNat_natCast, hkne] at hT
      rw [hM]
      refine flowed_any B k kd mm ff F day _ W hA'.bk hA'.ac (by omega) (fun b hb => hA'.lt (.inr (.inl hb))) (by omega) (fun y hy => ?_) (by rw [hkne]; exact hT)
      obtain ⟨i, hi', rfl⟩ := List.mem_map.1 (List.mem_filter.1 hy).1
      have hi'' : i < k.na := by simpa using hi'
      exact (isAt_iff (by rw [hkna]; exact h1.ns.rise) _).2 ⟨i, hi'', rfl⟩
    -- it is what the state says, but for the order
    obtain ⟨fl, hfl⟩ : ∃ fl : ByteArray → Bool, fl = fun x => decide (s.kd (atI s.fn s.na x).toNat = 1) := ⟨_, rfl⟩
    have hclN : s.closeL0 day = closeN (s.sum day) fl ((List.range s.na).map s.fn) := by
      unfold St.closeL0
      refine closeL_names s.fn s.kd (s.sum day) fl s.na (fun i hi' => ?_)
      rw [hfl]
      have : atI s.fn s.na (s.fn i) = i := atI_found _ _ _ i hi' rfl (fun j hj e => ho.nm j i hj hi' (by rw [e]))
      simp only [this, Int.toNat_natCast]
    have hprog : negL M = closeN (s.sum day) fl ((List.range k.na).map k.nm) := by
      rw [hM]
      refine flow_names k.nm (s.sum day) _ fl (fun y => kd (lessN k.nm k.na y.1) == 0) k.na (fun i _ => rfl) (fun i hi' m => ?_)
      have hri : Rise k.nm k.na := by rw [hkna]; exact h1.ns.rise
      show (!(kd (lessN k.nm k.na (k.nm i)) == 0)) = fl (k.nm i)
      rw [lessN_at hri hi', h1.ks i (by rw [← hkna]; exact hi'), hfl]
      simp only
      have hat1 : 0 ≤ atI s.fn s.na (k.nm i) := by
        have := h1.ns.at (k.nm i)
        rw [(isAt_iff h1.ns.rise _).2 ⟨i, by rw [← hkna]; exact hi', rfl⟩] at this
        exact of_decide_eq_true this.symm
      rcases h1.kb _ (atI_at _ _ _ hat1).1 with e | e <;> rw [e] <;> rfl
    have hperm : (negL M).Perm (s.closeL0 day) := by
      rw [hclN, hprog]
      refine closeN_perm ?_
      have : (List.range k.na).map k.nm = nmS s.fn s.na := by rw [hkna]; exact h1.ns.same
      rw [this]
      exact nmS_perm s.fn s.na
    have hsum : sumL M = s.closeS day := sumL_close hperm
    have hemp : M.isEmpty = (s.closeL0 day).isEmpty := by
      have := hperm.length_eq
      unfold negL at this
      rw [List.length_map] at this
      cases hm : M with
      | nil => rw [hm] at this; cases hc : s.closeL0 day with
        | nil => rfl
        | cons a b => rw [hc] at this; simp at this
      | cons a b => rw [hm] at this; cases hc : s.closeL0 day with
        | nil => rw [hc] at this; simp at this
        | cons a b => rfl
    have hE : s.closeE day into = if closeE1 (dayB day) true (decide (s.kd (atI s.fn s.na into).toNat = 1)) (decide (day < k.ul)) ≠ 0 then closeE1 (dayB day) true (decide (s.kd (atI s.fn s.na into).toNat = 1)) (decide (day < k.ul)) else closeE2 M.isEmpty (decide (60 ≤ k.ne)) := by
      unfold St.closeE St.closeF
      rw [hdl, hemp, hkne, decide_eq_true hat0]
    have CR : ∀ W, Below w.heap.size w W → Calls Tryz.prog 36 #[.pointer (some ⟨B, 0, none⟩), .int .i64 day, .pointer (some ⟨k.pa (lessN k.nm k.na into), 0, none⟩)] W fun r w' => r = .returned (.int .i64 (s.closeE day into)) ∧ Below W.heap.size W w' := fun W hW => by
      rw [hE]
      exact refuseClose_some B _ k day _ M W (cell_later hW cK) (cell_later hW cE) (cell_later hW cU) (fun hd => hFlow hd W hW)
    by_cases he : s.closeE day into = 0
    · have he' := he
      unfold St.closeE at he'
      have hF0 : s.closeF day into = 0 := by
        by_cases hF : s.closeF day into = 0
        · exact hF
        · rw [if_pos hF] at he'; exact absurd he' hF
      rw [if_neg (by rw [hF0]; decide)] at he'
      have hz := closeE1_zero hF0
      have hy := closeE2_zero he'
      have hd' := dayB_yes hz.1
      have h3 : ¬ day ≤ s.lk := of_decide_eq_false hz.2.2.2
      have h4 : ¬ 60 ≤ s.ne := of_decide_eq_false hy.2
      have hkd0 : ¬ s.kd (atI s.fn s.na into).toNat = 1 := of_decide_eq_false hz.2.2.1
      have hok := St.afterClose_ok ho day into
      unfold St.afterClose at hok ⊢
      rw [if_pos he] at hok ⊢
      have hMe : M.isEmpty = false := hemp.trans hy.1
      have hM0 : 0 < M.length := by
        cases hm : M with
        | nil => rw [hm] at hMe; cases hMe
        | cons a b => simp
      have hML : M.length ≤ 10 := by rw [hM]; exact Nat.le_trans (List.length_filter_le _ _) hMl
      have hMb : ∀ j, j < M.length → -100000000000 ≤ lnM M j ∧ lnM M j ≤ 100000000000 := fun j hj => by
        have hmem : (M[j].1, - M[j].2) ∈ negL M := List.mem_map.2 ⟨M[j], List.getElem_mem hj, rfl⟩
        obtain ⟨i, hi', hk1, e⟩ := closeL_mem _ _ (hperm.mem_iff.1 hmem)
        injection e with e1 e2
        have hb := St.flow_bd ho (by omega : s.lk < day) hi' hk1
        have e3 := (lnA_at M j hj).2
        rw [e3]; omega
      have hclen : (closedL M into).length = (s.closeLs day into).length := by
        unfold closedL St.closeLs
        rw [List.length_append, List.length_append, hperm.length_eq, hsum]
      have hLperm : (closedL M into).Perm (s.closeLs day into) := by
        unfold closedL St.closeLs
        rw [hsum]
        exact hperm.append_right _
      have hne0 : 0 < (s.closeLs day into).length := hok.l1 s.ne (by show s.ne < s.ne + 1; omega) |> fun h => by
        have : (s.closed day into).ln s.ne = (s.closeLs day into).length := by show upd s.ln s.ne _ s.ne = _; rw [upd_same]
        rw [this] at h; exact h
      have htw : ∀ a b, a < b → b < (s.closeLs day into).length → (lnA (s.closeLs day into) a).toList ≠ (lnA (s.closeLs day into) b).toList := by
        have := hok.tw s.ne (by show s.ne < s.ne + 1; omega)
        have e1 : (s.closed day into).ln s.ne = (s.closeLs day into).length := by show upd s.ln s.ne _ s.ne = _; rw [upd_same]
        have e2 : (s.closed day into).la s.ne = lnA (s.closeLs day into) := by show upd s.la s.ne _ s.ne = _; rw [upd_same]
        rw [e1, e2] at this
        exact this
      have hl10 : (s.closeLs day into).length ≤ 10 := by
        have := hok.ln s.ne (by show s.ne < s.ne + 1; omega)
        have e1 : (s.closed day into).ln s.ne = (s.closeLs day into).length := by show upd s.ln s.ne _ s.ne = _; rw [upd_same]
        rw [e1] at this
        exact this
      have hcth : ∀ j, j < (s.closeLs day into).length → s.there (lnA (s.closeLs day into) j) = true := fun j hj => by
        have := hok.th s.ne (by show s.ne < s.ne + 1; omega) j (by show j < upd s.ln s.ne _ s.ne; rw [upd_same]; exact hj)
        have e2 : (s.closed day into).la s.ne = lnA (s.closeLs day into) := by show upd s.la s.ne _ s.ne = _; rw [upd_same]
        rw [e2] at this
        exact this
      have hcbd : ∀ j, j < (s.closeLs day into).length → -1000000000000 ≤ lnM (s.closeLs day into) j ∧ lnM (s.closeLs day into) j ≤ 1000000000000 := fun j hj => by
        have := hok.bd s.ne (by show s.ne < s.ne + 1; omega) j (by show j < upd s.ln s.ne _ s.ne; rw [upd_same]; exact hj)
        have e2 : (s.closed day into).lm s.ne = lnM (s.closeLs day into) := by show upd s.lm s.ne _ s.ne = _; rw [upd_same]
        rw [e2] at this
        exact this
      have hLP : (linesL (lnA (closedL M into)) (lnM (closedL M into)) (s.closeLs day into).length).Perm (linesL (lnA (s.closeLs day into)) (lnM (s.closeLs day into)) (s.closeLs day into).length) := by
        have e1 := linesL_ofL (closedL M into)
        rw [hclen] at e1
        rw [e1, linesL_ofL]; exact hLperm
      have hxin : ∀ l, l < (s.closeLs day into).length → isAt k.nm k.na (lnA (closedL M into) l) = true := fun l hl => by
        obtain ⟨i, hi', e1, _⟩ := perm_mem hLP hl
        rw [← e1, h1.there]; exact hcth i hi'
      have hxb : ∀ l, l < (s.closeLs day into).length → -1000000000000 ≤ lnM (closedL M into) l ∧ lnM (closedL M into) l ≤ 1000000000000 := fun l hl => by
        obtain ⟨i, hi', _, e2⟩ := perm_mem hLP hl
        rw [← e2]; exact hcbd i hi'
      have hxd := perm_two hLP htw
      have hfew := h1.few ho
      rw [he] at CR
      rw [e0] at CF
      have hcells : cells2 (closedL M into) = lineCells (lnA (closedL M into)) (lnM (closedL M into)) (s.closeLs day into).length := by
        rw [← hclen, lineCells_ofL]
      generalize hNe : (s.closeLs day into).length = N at *
      refine (CloseA_ok B N (k.ne + 1) day into into _ w (fun g c W => W.ownsRow w.heap.size 47 2 (.slice (some ⟨g, 0, none⟩) N c) N (lineCells (lnA (closedL M into)) (lnM (closedL M into)) N) ∧ Below w.heap.size w W) (fun w' => ∃ Fp', ProgIs w' B (s.closed day into) Fp' ∧ Turn Fp w w' ∧ ∀ b, Fp' b → Fp b ∨ w.heap.size ≤ b) CF CR (fun W hW => ?_) (fun g c W hr => ?_) hd').mono ?_
      · refine (closed_any B _ day into M W (cell_later hW cN) (by omega) hM0 hMb (fun W' hW' => hFlow hz.1 W' (hW.trans (hW'.mono hW.size)))).mono ?_
        rintro r w' ⟨g, c, rfl, hq⟩
        have h5 := hq.out.1
        rw [hclen, hcells] at h5
        refine ⟨g, c, by rw [hclen], owns_le h5 hW.size, hW.trans (hq.out.2.mono hW.size)⟩
      · have hA' := h1.mv hr.2
        obtain ⟨hLn, csn, hcn⟩ := linesK_lines hr.1 hne0
        refine (enterA_any B k 95 (.agg #[.int .i64 day, .slice (some ⟨g, 0, none⟩) N c, .string into]) day g N c (lnA (closedL M into)) (lnM (closedL M into)) kd mm ff F W csn (0, 0) hA'.bk hA'.ac (h1.ndb ho) (by omega) hLn hcn hl10 hxin (isAt_dis hxin hxd) (fun i hi => by have := hfew i hi; omega) hxb (by omega) (fun w => method_closing w _ _ _ _ _)).mono ?_
        rintro r w' ⟨rfl, hEn⟩
        refine ⟨rfl, ?_⟩
        obtain ⟨Fp', q1, q2, q3⟩ := prog_enter h1 hr.2 (e := .close into) (za := lnA (s.closeLs day into)) (zm := lnM (s.closeLs day into)) (gn' := upd s.gn s.ne false) (tx' := s.tx ++ (⟨#[99, 32]⟩ ++ ⟨(digZ day).toArray⟩ ++ ⟨#[32]⟩ ++ into) ++ ⟨#[10]⟩) hne0 hr.1 hLP ho htw hxin hEn (gn_plain h1 rfl) ⟨Int.le_refl _, by show (0 : Int) ≤ _; omega⟩
        obtain ⟨p1, p2, p3, p4⟩ := prog_lk q1 day (by show s.lk ≤ day; omega)
        refine ⟨_, p3, p4, Fp', ?_, ?_, fun b hb => (q3 b hb).elim (fun hb => .inl ((h2 b).2 hb)) .inr⟩
        · unfold St.closed
          rw [hNe]
          exact p1
        · have t1 : Turn Fp w w' := q2.mono (fun b _ hb => (h2 b).2 hb)
          refine ⟨p2.os.trans t1.os, p2.tape.trans t1.tape, p2.output.trans t1.output, Nat.le_trans t1.size p2.size, fun b hb hs => (p2.block b (Nat.lt_of_lt_of_le hb t1.size) (fun hF => ?_)).trans (t1.block b hb hs)⟩
          rcases q3 b hF with h' | h'
          · exact hs ((h2 b).2 h')
          · omega
      · rintro r w' ⟨rfl, hq⟩
        refine ⟨?_, ?_⟩
        · have : s.closeN day into = ((k.ne + 1 : Nat) : Int) := by unfold St.closeN; rw [if_pos he, hkne]; omega
          rw [he, this]
        · exact hq
    · exact hbad _ _ he rfl e0 CR
end Go.Proofs.YtjnmoddcodnadaaGreat
namespace Go.Annal
open Go.Proofs.YtjnmoddcodnadaaGreat
/-- The names that small books have, in their order. -/
def nmK (i : Nat) : ByteArray := ⟨#[([97, 98, 99, 120, 121, 122] : List UInt8).getD i 0]⟩
theorem nmK_inj : ∀ a, a < 6 → ∀ b, b < 6 → (nmK a).toList = (nmK b).toList → a = b := by
  simp only [ByteArray.toList_eq]
  decide
/-- A step, raw. -/
structure K5 where
  kind : Int
  day : Int
  a : Int
  b : Int
  c : Int
def lsI (q : K5) : Int := pickI q.a 6
def lsK (q : K5) : Int := (lsI q + 1 + pickI q.b 5) % 6
def lsJ (q : K5) : Int := if lsI q ≠ 0 ∧ lsK q ≠ 0 then 0 else if lsI q ≠ 1 ∧ lsK q ≠ 1 then 1 else 2
def lsS (q : K5) : Int := 1 + pickI q.c 1000
def lsP (q : K5) : Int := pickI (q.b.tdiv 6) (lsS q)
def lsN (q : K5) : Nat := if 0 < lsP q then 3 else 2
def lsA (q : K5) (j : Nat) : ByteArray := if j = 0 then nmK (lsI q).toNat else if j = 1 then nmK (lsK q).toNat else nmK (lsJ q).toNat
def lsM (q : K5) (j : Nat) : Int := if j = 0 then - lsS q else if j = 1 then lsS q - lsP q else lsP q
theorem lsI_bd (q : K5) : 0 ≤ lsI q ∧ lsI q < 6 := pickI_bd _ _ (by decide)
theorem lsK_bd (q : K5) : 0 ≤ lsK q ∧ lsK q < 6 := ⟨Int.emod_nonneg _ (by decide), Int.emod_lt_of_pos _ (by decide)⟩
theorem lsK_ne (q : K5) : lsK q ≠ lsI q := by
  have h1 := lsI_bd q
  have h2 := pickI_bd q.b (n := 5) (by decide)
  unfold lsK
  omega
theorem lsJ_bd (q : K5) : 0 ≤ lsJ q ∧ lsJ q < 3 ∧ lsJ q ≠ lsI q ∧ lsJ q ≠ lsK q := by
  have h := lsK_ne q
  unfold lsJ
  split
  · omega
  · split <;> omega
theorem lsS_bd (q : K5) : 1 ≤ lsS q ∧ lsS q ≤ 1000 := by
  have := pickI_bd q.c (n := 1000) (by decide)
  unfold lsS; omega
theorem lsP_bd (q : K5) : 0 ≤ lsP q ∧ lsP q < lsS q := pickI_bd _ _ (by have := lsS_bd q; omega)
/-- A small book: its accounts, and what its steps come to. -/
structure KOk (s : St) : Prop where
  ok : s.Ok
  na : s.na = 6
  fn : ∀ i, i < 6 → s.fn i = nmK i
  kd : ∀ i, i < 6 → s.kd i = if i < 3 then 0 else 1
  dd : ∀ k, k < s.ne → s.dy k ≤ 12
  lk : s.lk ≤ 11
  z : ∀ k, k < s.ne → sumN (s.lm k) (s.ln k) = 0
  nz : ∀ k, k < s.ne → ∀ j, j < s.ln k → s.lm k j ≠ 0
theorem KOk.there {s : St} (h : KOk s) {i : Nat} (hi : i < 6) : s.there (nmK i) = true := (there_iff _ _).2 ⟨i, by rw [h.na]; exact hi, by rw [h.fn i hi]⟩
theorem KOk.at {s : St} (h : KOk s) {i : Nat} (hi : i < 6) : atI s.fn s.na (nmK i) = i := by
  rw [h.na]
  exact atI_found _ _ _ i hi (h.fn i hi) (fun j hj e => by
    rw [h.fn j (by omega)] at e
    have := nmK_inj j (by omega) i hi (by rw [e])
    omega)
theorem ls_three (q : K5) (P : ByteArray → Prop) (h : ∀ i, i < 6 → P (nmK i)) : ∀ l, l < lsN q → P (lsA q l) := fun l hl => by
  have h1 := lsI_bd q
  have h2 := lsK_bd q
  have h3 := lsJ_bd q
  unfold lsA
  split
  · exact h _ (by omega)
  · split <;> exact h _ (by omega)
theorem ls_ne (q : K5) : ∀ a b, a < b → b < lsN q → (lsA q a).toList ≠ (lsA q b).toList := fun a b hab hb e => by
  have h1 := lsI_bd q
  have h2 := lsK_bd q
  have h3 := lsJ_bd q
  have h4 := lsK_ne q
  have hb3 : b < 3 := by unfold lsN at hb; split at hb <;> omega
  unfold lsA at e
  rcases (show (a = 0 ∧ b = 1) ∨ (a = 0 ∧ b = 2) ∨ (a = 1 ∧ b = 2) by omega) with ⟨rfl, rfl⟩ | ⟨rfl, rfl⟩ | ⟨rfl, rfl⟩
  · simp at e; have := nmK_inj _ (by omega) _ (by omega) e; omega
  · simp at e; have := nmK_inj _ (by omega) _ (by omega) e; omega
  · simp at e; have := nmK_inj _ (by omega) _ (by omega) e; omega
theorem ls_amt (q : K5) : ∀ l, l < lsN q → lsM q l ≠ 0 ∧ -1000 ≤ lsM q l ∧ lsM q l ≤ 1000 := fun l hl => by
  have h1 := lsS_bd q
  have h2 := lsP_bd q
  unfold lsN at hl
  unfold lsM
  split
  · omega
  · split
    · omega
    · split at hl <;> omega
theorem ls_sum (q : K5) : sumN (lsM q) (lsN q) = 0 := by
  unfold lsN
  split
  · simp [sumN, lsM]; omega
  · have := lsP_bd q
    simp [sumN, lsM]; omega
theorem ls_wrong {s : St} (h : KOk s) (q : K5) : wrongE s.there (lsA q) (lsM q) (lsN q) = 0 := by
  unfold wrongE
  have hn : 2 ≤ lsN q ∧ lsN q ≤ 3 := by unfold lsN; split <;> omega
  rw [if_neg (by omega), if_neg, if_neg, if_neg, if_pos (ls_sum q)]
  · rw [anyN_false (fun k hk => by
      have := ls_amt q k hk
      simp only [badAmt, Bool.or_eq_false_iff, decide_eq_false_iff_not]
      omega)]
    decide
  · rw [anyN_false (fun k hk => anyN_false (fun j hj => by
      have := ls_ne q j k hj hk
      simp
      exact fun e => this e.symm))]
    decide
  · rw [anyN_false (fun k hk => by rw [ls_three q (fun x => s.there x = true) (fun i hi => h.there hi) k hk]; rfl)]
    decide
/-- What comes behind: nothing that was there has turned; what is new is of days that were not locked. -/
structure St.Le (s t : St) : Prop where
  na : t.na = s.na
  fn : t.fn = s.fn
  kd : t.kd = s.kd
  ne : s.ne ≤ t.ne
  dy : ∀ k, k < s.ne → t.dy k = s.dy k
  ln : ∀ k, k < s.ne → t.ln k = s.ln k
  la : ∀ k, k < s.ne → t.la k = s.la k
  lm : ∀ k, k < s.ne → t.lm k = s.lm k
  lk : s.lk ≤ t.lk
  new : ∀ k, s.ne ≤ k → k < t.ne → s.lk < t.dy k
theorem St.Le.refl (s : St) : s.Le s := ⟨rfl, rfl, rfl, Nat.le_refl _, fun _ _ => rfl, fun _ _ => rfl, fun _ _ => rfl, fun _ _ => rfl, Int.le_refl _, fun k h h' => by omega⟩
theorem St.Le.trans {s t u : St} (h : s.Le t) (g : t.Le u) : s.Le u := by
  have hn := h.ne
  refine ⟨g.na.trans h.na, g.fn.trans h.fn, g.kd.trans h.kd, Nat.le_trans hn g.ne, fun k hk => (g.dy k (by omega)).trans (h.dy k hk), fun k hk => (g.ln k (by omega)).trans (h.ln k hk), fun k hk => (g.la k (by omega)).trans (h.la k hk), fun k hk => (g.lm k (by omega)).trans (h.lm k hk), Int.le_trans h.lk g.lk, fun k h1 h2 => ?_⟩
  by_cases hk : k < t.ne
  · rw [g.dy k hk]; exact h.new k h1 hk
  · have := g.new k (by omega) h2
    have := h.lk
    omega
theorem St.Le.one {s : St} {day : Int} {xa : Nat → ByteArray} {xm : Nat → Int} {n : Nat} {gn : Nat → Bool} {lk : Int} {tx : ByteArray} (hd : s.lk < day) (hl : s.lk ≤ lk) :
    s.Le { s with ne := s.ne + 1, dy := upd s.dy s.ne day, gn := gn, ln := upd s.ln s.ne n, la := upd s.la s.ne xa, lm := upd s.lm s.ne xm, lk := lk, tx := tx } :=
  ⟨rfl, rfl, rfl, Nat.le_succ _, fun k hk => upd_ne _ _ (by omega), fun k hk => upd_ne _ _ (by omega), fun k hk => upd_ne _ _ (by omega), fun k hk => upd_ne _ _ (by omega), hl, fun k h1 h2 => by
    have : k = s.ne := by simp only at h2; omega
    subst this
    simp only [upd_same]; exact hd⟩
theorem St.amt_le {s t : St} (h : s.Le t) (x : ByteArray) {k : Nat} (hk : k < s.ne) : t.amt x k = s.amt x k := by
  unfold St.amt
  rw [h.la k hk, h.lm k hk, h.ln k hk]
/-- WHAT WAS KNOWN STAYS. -/
theorem St.known_le {s t : St} (h : s.Le t) (x : ByteArray) (day : Int) {n : Nat} (hn : n ≤ s.ne) : enS t.dy t.la t.lm x day t.ln n = enS s.dy s.la s.lm x day s.ln n := by
  rw [enS_sF, enS_sF]
  refine sF_congr n (fun k hk => ?_)
  unfold upD
  simp only [h.dy k (by omega), h.la k (by omega), h.lm k (by omega), h.ln k (by omega)]
/-- What is locked stays. -/
theorem St.locked_le {s t : St} (h : s.Le t) (x : ByteArray) {day : Int} (hd : day ≤ s.lk) : enS t.dy t.la t.lm x day t.ln t.ne = enS s.dy s.la s.lm x day s.ln s.ne := by
  have h1 := St.known_le h x day (Nat.le_refl s.ne)
  rw [← h1]
  have key : ∀ j, s.ne + j ≤ t.ne → enS t.dy t.la t.lm x day t.ln (s.ne + j) = enS t.dy t.la t.lm x day t.ln s.ne := by
    intro j
    induction j with
    | zero => intro _; rfl
    | succ j ih =>
      intro hle
      have hi := ih (by omega)
      rw [enS_sF, enS_sF] at hi ⊢
      show sF _ (s.ne + j) + _ = _
      rw [hi]
      have hnw := h.new (s.ne + j) (by omega) (by omega)
      have e : upD t.dy (fun i => am (t.la i) (t.lm i) x (t.ln i)) day (s.ne + j) = 0 := by unfold upD; rw [if_neg (by omega)]
      have e' : upD t.dy (fun i => am (t.la i) (t.lm i) x (t.ln i)) day (s.ne.add j) = 0 := e
      first | rw [e] | rw [e']
      omega
  have := key (t.ne - s.ne) (by have := h.ne; omega)
  rwa [show s.ne + (t.ne - s.ne) = t.ne by have := h.ne; omega] at this
theorem KOk.entered {s : St} (h : KOk s) {day : Int} {xa : Nat → ByteArray} {xm : Nat → Int} {n : Nat} {gn : Nat → Bool} {lk : Int} {tx : ByteArray} (hd : day ≤ 12) (hl : lk ≤ 11) (hz : sumN xm n = 0) (hnz : ∀ j, j < n → xm j ≠ 0)
    (ho : ({ s with ne := s.ne + 1, dy := upd s.dy s.ne day, gn := gn, ln := upd s.ln s.ne n, la := upd s.la s.ne xa, lm := upd s.lm s.ne xm, lk := lk, tx := tx } : St).Ok) :
    KOk { s with ne := s.ne + 1, dy := upd s.dy s.ne day, gn := gn, ln := upd s.ln s.ne n, la := upd s.la s.ne xa, lm := upd s.lm s.ne xm, lk := lk, tx := tx } := by
  refine ⟨ho, h.na, h.fn, h.kd, fun k hk => ?_, hl, fun k hk => ?_, fun k hk j hj => ?_⟩
  · simp only at *
    by_cases e : k = s.ne
    · subst e; rw [upd_same]; exact hd
    · rw [upd_ne _ _ e]; exact h.dd k (by omega)
  · simp only at *
    by_cases e : k = s.ne
    · subst e; rw [upd_same, upd_same]; exact hz
    · rw [upd_ne _ _ e, upd_ne _ _ e]; exact h.z k (by omega)
  · simp only at *
    by_cases e : k = s.ne
    · subst e; rw [upd_same] at *; exact hnz j hj
    · rw [upd_ne _ _ e] at *; exact h.nz k (by omega) j hj
theorem sumN_neg (xm : Nat → Int) : ∀ n, sumN (fun j => - xm j) n = - sumN xm n
  | 0 => rfl
  | n + 1 => by simp only [sumN]; rw [sumN_neg xm n]; omega
theorem sumN_congr {xm ym : Nat → Int} : ∀ n, (∀ k, k < n → xm k = ym k) → sumN xm n = sumN ym n
  | 0, _ => rfl
  | n + 1, h => by simp only [sumN]; rw [sumN_congr n (fun k hk => h k (by omega)), h n (by omega)]
theorem sumL_snoc (A : List Ln) (y : Ln) : sumN (lnM (A ++ [y])) (A ++ [y]).length = sumN (lnM A) A.length + y.2 := by
  rw [List.length_append, List.length_singleton]
  simp only [sumN]
  rw [lnM_last, sumN_congr A.length (fun k hk => lnM_left hk)]
theorem closeL_sum (fn : Nat → ByteArray) (kd : Nat → Int) (bal : ByteArray → Int) : ∀ n, sumN (lnM (closeL fn kd bal n)) (closeL fn kd bal n).length = - closeSum fn kd bal n
  | 0 => rfl
  | n + 1 => by
    simp only [closeL, closeSum]
    by_cases h : kd n = 1 ∧ bal (fn n) ≠ 0
    · rw [if_pos h, if_pos h, sumL_snoc, closeL_sum fn kd bal n]; show _ + - bal (fn n) = _; omega
    · rw [if_neg h, if_neg h, List.append_nil, closeL_sum fn kd bal n]; omega
theorem closeLs_sum (s : St) (day : Int) (into : ByteArray) : sumN (lnM (s.closeLs day into)) (s.closeLs day into).length = 0 := by
  unfold St.closeLs
  have h := closeL_sum s.fn s.kd (s.sum day) s.na
  by_cases e : s.closeS day ≠ 0
  · rw [if_pos e, sumL_snoc]
    unfold St.closeL0 St.closeS
    rw [h]; show - closeSum _ _ _ _ + closeSum _ _ _ _ = 0; omega
  · rw [if_neg e, List.append_nil]
    unfold St.closeL0
    rw [h]
    have : closeSum s.fn s.kd (s.sum day) s.na = 0 := Classical.byContradiction e
    omega
theorem closeL_nz {fn : Nat → ByteArray} {kd : Nat → Int} {bal : ByteArray → Int} : ∀ n y, y ∈ closeL fn kd bal n → y.2 ≠ 0
  | 0, _, h => by simp [closeL] at h
  | n + 1, y, h => by
    simp only [closeL, List.mem_append] at h
    rcases h with h | h
    · exact closeL_nz n y h
    · by_cases hk : kd n = 1 ∧ bal (fn n) ≠ 0
      · rw [if_pos hk] at h; simp at h; subst h; show - bal (fn n) ≠ 0; omega
      · rw [if_neg hk] at h; simp at h
theorem closeLs_nz (s : St) (day : Int) (into : ByteArray) : ∀ j, j < (s.closeLs day into).length → lnM (s.closeLs day into) j ≠ 0 := fun j hj => by
  have hm : ∀ y ∈ s.closeLs day into, y.2 ≠ 0 := fun y hy => by
    rcases List.mem_append.1 hy with hy | hy
    · exact closeL_nz _ _ hy
    · by_cases e : s.closeS day ≠ 0
      · rw [if_pos e] at hy; simp at hy; subst hy; exact e
      · rw [if_neg e] at hy; simp at hy
  have : lnM (s.closeLs day into) j = (s.closeLs day into)[j].2 := by simp [lnM, List.getD_eq_getElem?_getD, List.getElem?_eq_getElem hj]
  rw [this]
  exact hm _ (List.getElem_mem hj)
/-- What a step makes of a book. -/
def St.kstep (s : St) (q : K5) : St :=
  if pickI q.kind 8 < 5 then s.afterPost (pickI q.day 12) (lsA q) (lsM q) (lsN q)
  else if pickI q.kind 8 = 5 ∧ 0 < s.ne then s.afterRev (1 + pickI q.a s.ne)
  else if pickI q.kind 8 = 6 then s.afterLock (pickI q.day 12)
  else if pickI q.kind 8 = 7 then s.afterClose (pickI q.day 12) (nmK (pickI q.a 3).toNat)
  else s
/-- What each call keeps. -/
theorem KOk.post {s : St} (h : KOk s) {day : Int} (hd : day ≤ 12) (q : K5) : KOk (s.afterPost day (lsA q) (lsM q) (lsN q)) ∧ s.Le (s.afterPost day (lsA q) (lsM q) (lsN q)) ∧ (s.afterPost day (lsA q) (lsM q) (lsN q)).ne ≤ s.ne + 1 := by
  have ho := St.afterPost_ok h.ok day (lsA q) (lsM q) (lsN q)
  unfold St.afterPost at *
  by_cases he : s.postE day (lsA q) (lsM q) (lsN q) = 0
  · rw [if_pos he] at *
    have hz := postE_zero he
    have hl : s.lk < day := by have := hz.2.2.1; simp at this; omega
    exact ⟨h.entered hd h.lk (ls_sum q) (fun j hj => (ls_amt q j hj).1) ho, St.Le.one hl (Int.le_refl _), Nat.le_refl _⟩
  · rw [if_neg he]
    exact ⟨h, St.Le.refl s, Nat.le_succ _⟩
theorem KOk.rev {s : St} (h : KOk s) (entry : Int) : KOk (s.afterRev entry) ∧ s.Le (s.afterRev entry) ∧ (s.afterRev entry).ne ≤ s.ne + 1 := by
  have ho := St.afterRev_ok h.ok entry
  unfold St.afterRev at *
  by_cases he : s.revE entry = 0
  · rw [if_pos he] at *
    have hz := revE_zero he
    have h1 : 1 ≤ entry ∧ entry ≤ s.ne := by simpa using hz.1
    generalize hE : (entry - 1).toNat = e at *
    have he' : e < s.ne := by omega
    have hd := h.dd e he'
    have hlk := h.lk
    have hr : s.lk < revDay (s.dy e) s.lk ∧ revDay (s.dy e) s.lk ≤ 12 := by unfold revDay; split <;> omega
    exact ⟨h.entered hr.2 h.lk (by rw [sumN_neg, h.z e he']; rfl) (fun j hj => by have := h.nz e he' j hj; omega) ho, St.Le.one hr.1 (Int.le_refl _), Nat.le_refl _⟩
  · rw [if_neg he]
    exact ⟨h, St.Le.refl s, Nat.le_succ _⟩
theorem lockE_zero {a b : Bool} (h : Go.Annal.lockE a b = 0) : a = true ∧ b = false := by revert h; cases a <;> cases b <;> decide
theorem KOk.lock {s : St} (h : KOk s) {day : Int} (hd : day ≤ 11) : KOk (s.afterLock day) ∧ s.Le (s.afterLock day) ∧ (s.afterLock day).ne ≤ s.ne + 1 := by
  have ho := St.afterLock_ok h.ok day
  unfold St.afterLock at *
  by_cases he : s.lockE day = 0
  · rw [if_pos he] at *
    have hz := lockE_zero he
    have hl : ¬ day ≤ s.lk := of_decide_eq_false hz.2
    exact ⟨⟨ho, h.na, h.fn, h.kd, h.dd, hd, h.z, h.nz⟩, ⟨rfl, rfl, rfl, Nat.le_refl _, fun _ _ => rfl, fun _ _ => rfl, fun _ _ => rfl, fun _ _ => rfl, by show s.lk ≤ day; omega, fun k h1 h2 => by simp only at h2; omega⟩, Nat.le_succ _⟩
  · rw [if_neg he]
    exact ⟨h, St.Le.refl s, Nat.le_succ _⟩
theorem KOk.close {s : St} (h : KOk s) {day : Int} (hd : day ≤ 11) (into : ByteArray) : KOk (s.afterClose day into) ∧ s.Le (s.afterClose day into) ∧ (s.afterClose day into).ne ≤ s.ne + 1 := by
  have ho := St.afterClose_ok h.ok day into
  unfold St.afterClose at *
  by_cases he : s.closeE day into = 0
  · rw [if_pos he] at *
    have hl : s.lk < day := by
      unfold St.closeE at he
      by_cases hF : s.closeF day into = 0
      · have hz := closeE1_zero hF
        have h3 : ¬ day ≤ s.lk := of_decide_eq_false hz.2.2.2
        omega
      · rw [if_pos hF] at he; exact absurd he hF
    exact ⟨h.entered (by omega) hd (closeLs_sum s day into) (closeLs_nz s day into) ho, St.Le.one hl (by omega), Nat.le_refl _⟩
  · rw [if_neg he]
    exact ⟨h, St.Le.refl s, Nat.le_succ _⟩
theorem KOk.step {s : St} (h : KOk s) (q : K5) : KOk (s.kstep q) ∧ s.Le (s.kstep q) ∧ (s.kstep q).ne ≤ s.ne + 1 := by
  have hd := pickI_bd q.day (n := 12) (by decide)
  unfold St.kstep
  split
  · exact h.post (by omega) q
  · split
    · exact h.rev _
    · split
      · exact h.lock (by omega)
      · split
        · exact h.close (by omega) _
        · exact ⟨h, St.Le.refl s, Nat.le_succ _⟩
end Go.Annal
