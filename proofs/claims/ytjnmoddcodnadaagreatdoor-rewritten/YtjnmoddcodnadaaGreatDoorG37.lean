import Derived.Test.YtjnmoddcodnadaaGreatDoorG36
import Derived.Test.YtjnmoddcodnadaaGreatDoorG01
import Derived.Lib.SmallJoins
import Derived.Shelf.Small.Wraps
import Derived.Lib.AppendIntMem
set_option linter.unusedVariables false
set_option linter.unusedSimpArgs false
namespace Go.Proofs.YtjnmoddcodnadaaGreatDoor
open Go.RowKit Go.Annal Go.Sort
/-- Days are locked. -/
theorem prog_lk {w : World} {B : Nat} {s : St} {Fp : Nat → Prop} (h : ProgIs w B s Fp) (day : Int) (hd : s.lk ≤ day) : ProgIs (w.setCell ⟨B, 3, none⟩ (.int .i64 (day + 1))) B { s with lk := day } Fp ∧ Turn Fp w (w.setCell ⟨B, 3, none⟩ (.int .i64 (day + 1))) ∧ w.cell? ⟨B, 3, none⟩ = some (.int .i64 (s.lk + 1)) ∧ w.frozen? ⟨B, 3, none⟩ = false := by
  obtain ⟨k, kd, mm, ff, F, gl, cl, xa, xm, kk, h1, h2⟩ := h
  have hT : Turn (fun b => b = B) w (w.setCell ⟨B, 3, none⟩ (.int .i64 (day + 1))) := (Turn.refl _ _).set _ _ (fun _ => rfl)
  have c3 := blk_cell' h1.bk.bk (o := 3) rfl
  rw [← h1.ul]
  refine ⟨⟨{ k with ul := day + 1 }, kd, mm, ff, F, gl, cl, xa, xm, kk, ⟨⟨blk_set h1.bk.bk 3 _, ?_, ?_, ?_, h1.bk.up⟩, ?_, h1.na, h1.ne, rfl, ?_, h1.ns, h1.kb, h1.ks, h1.it, h1.ev, ?_, h1.pl, h1.gn, h1.un, ⟨h1.tx.tx, by have := h1.tx.sz; show (s.tx.size : Int) ≤ 8000000000 * s.ne + 1100000000 * s.na + 1000 * (day + 1); omega, h1.tx.ns⟩⟩, h2⟩, hT.mono (fun b _ e => (h2 b).2 (.inl (.inl e))), c3, blk_free h1.bk.bk 3⟩
  · exact ownsRow_setCell_other h1.bk.ac (a := ⟨B, 3, none⟩) (owns_ne h1.bk.ac h1.bk.bk (by decide)) _
  · exact ownsRow_setCell_other h1.bk.dn (a := ⟨B, 3, none⟩) (owns_ne h1.bk.dn h1.bk.bk (by decide)) _
  · exact ownsRow_setCell_other h1.bk.en (a := ⟨B, 3, none⟩) (owns_ne h1.bk.en h1.bk.bk (by decide)) _
  · exact h1.ac.turn hT (fun b hb e => h1.bk.apart h1.ac (.inl e) hb)
  · have := h1.nd
    show (k.nd : Int) ≤ (s.na : Int) + s.ne + day + 1
    omega
  · intro i hi
    exact ownsRow_setCell_other (h1.lo i hi) (a := ⟨B, 3, none⟩) (owns_ne (h1.lo i hi) h1.bk.bk (by decide)) _
set_option maxHeartbeats 1000000 in
/-- Close. -/
theorem progClose (B : Nat) (s : St) (Fp : Nat → Prop) (day : Int) (into : ByteArray) (w : World) (h : ProgIs w B s Fp) (ho : s.Ok) :
    Calls Tryz.prog 32 #[.pointer (some ⟨B, 0, none⟩), .int .i64 day, .string into] w fun r w' => r = .returned (.tuple #[.int .i64 (s.closeN day into), .int .i64 (s.closeE day into)]) ∧ ∃ Fp', ProgIs w' B (s.afterClose day into) Fp' ∧ Turn Fp w w' ∧ ∀ b, Fp' b → Fp b ∨ w.heap.size ≤ b := by
  obtain ⟨k, kd, mm, ff, F, gl, cl, xa, xm, kk, h1, h2⟩ := id h
  have hna := ho.na
  have hne := ho.ne
  have hkna := h1.na
  have hkne := h1.ne
  have hul := h1.ul
  have hlk := ho.lk
  obtain ⟨ga, hat⟩ := h1.bk.at h1.ac
  have CF := find_any B ga k.ca k.na k.ada k.pa k.nm into w hat (by omega)
  have hN : s.closeE day into ≠ 0 → s.closeN day into = 0 := fun he => by unfold St.closeN; rw [if_neg he]
  have hbad : ∀ (E : Int) (P : Value), E ≠ 0 → s.closeE day into = E → findV k.pa k.nm k.na into = P → (∀ W, Below w.heap.size w W → Calls Tryz.prog 67 #[.pointer (some ⟨B, 0, none⟩), .int .i64 day, P] W fun r w' => r = .returned (.int .i64 E) ∧ Below W.heap.size W w') → Calls Tryz.prog 32 #[.pointer (some ⟨B, 0, none⟩), .int .i64 day, .string into] w fun r w' => r = .returned (.tuple #[.int .i64 (s.closeN day into), .int .i64 (s.closeE day into)]) ∧ ∃ Fp', ProgIs w' B (s.afterClose day into) Fp' ∧ Turn Fp w w' ∧ ∀ b, Fp' b → Fp b ∨ w.heap.size ≤ b := fun E P hE he hP CR => by
    rw [hP] at CF
    refine (CloseA_err B day E into P w hE CF CR).mono ?_
    rintro r w' ⟨rfl, hb⟩
    refine ⟨by rw [hN (by rw [he]; exact hE), he], Fp, ?_, Turn.of_below hb, fun b hk => .inl hk⟩
    unfold St.afterClose
    rw [if_neg (by rw [he]; exact hE)]
    exact h.turn (S := fun _ => False) (Turn.of_below hb) (fun _ _ h => h)
  have hthere : isAt k.nm k.na into = decide (0 ≤ atI s.fn s.na into) := congrFun h1.there into
  have hdl : decide (day < k.ul) = decide (day ≤ s.lk) := by rw [Bool.eq_iff_iff, decide_eq_true_iff, decide_eq_true_iff]; omega
  cases hi : isAt k.nm k.na into
  · have e0 : findV k.pa k.nm k.na into = .pointer none := by unfold findV; rw [hi]; rfl
    have hE : s.closeE day into = if dayB day then 7 else 5 := by
      have hf : s.closeF day into = if dayB day then 7 else 5 := by
        unfold St.closeF
        rw [← hthere, hi]
        cases dayB day <;> rfl
      unfold St.closeE
      rw [if_pos (by rw [hf]; cases dayB day <;> decide), hf]
    exact hbad _ _ (by cases dayB day <;> decide) hE e0 (fun W _ => refuseClose_nil B day W)
  · have e0 : findV k.pa k.nm k.na into = .pointer (some ⟨k.pa (lessN k.nm k.na into), 0, none⟩) := by unfold findV; rw [hi]; rfl
    obtain ⟨hp, hnm⟩ := isAt_eq hi
    have hat0 : 0 ≤ atI s.fn s.na into := of_decide_eq_true (hthere.symm.trans hi)
    have hkind : kd (lessN k.nm k.na into) = s.kd (atI s.fn s.na into).toNat := by
      rw [h1.ks _ (by rw [← hkna]; exact hp), hnm]
    obtain ⟨_, v0, hv0⟩ := h1.ac.acc hp
    have cK := blk_cell' hv0 (o := 1) rfl
    have cN := blk_cell' hv0 (o := 0) rfl
    rw [hnm] at cN
    rw [hkind] at cK
    have cE : w.cell? ⟨B, 2, none⟩ = some k.nv := blk_cell' h1.bk.bk (o := 2) rfl
    have cU : w.cell? ⟨B, 3, none⟩ = some (.int .i64 k.ul) := blk_cell' h1.bk.bk (o := 3) rfl
    -- what flowed
    obtain ⟨M, hM⟩ : ∃ M, M = (trA k.nm (fun i => enS s.dy s.la s.lm (k.nm i) day s.ln s.ne) k.na).filter (fun y => !(kd (lessN k.nm k.na y.1) == 0)) := ⟨_, rfl⟩
    have hMl : (trA k.nm (fun i => enS s.dy s.la s.lm (k.nm i) day s.ln s.ne) k.na).length ≤ 10 := by have := trA_len k.nm (fun i => enS s.dy s.la s.lm (k.nm i) day s.ln s.ne) k.na; omega
    have hknown : knownB (k.ne : Int) s.ne = true := by unfold knownB; rw [hkne]; simp
    have hFlow : dayB day = true → ∀ W, Below w.heap.size w W → Calls Tryz.prog 111 #[.pointer (some ⟨B, 0, none⟩), .int .i64 day] W fun r w' => ∃ v, r = .returned v ∧ Hid (w'.ownsRow W.heap.size 58 2 v M.length (cells2 M) ∧ Below W.heap.size W w') := fun hd W hW => by
      have hA' := h1.mv hW
      have hT := progTrialK hA' ho day (k.ne : Int) hd hknown
      rw [Int.toNat_natCast, hkne] at hT
      rw [hM]
      refine flowed_any B k kd mm ff F day _ W hA'.bk hA'.ac (by omega) (fun b hb => hA'.lt (.inr (.inl hb))) (by omega) (fun y hy => ?_) (by rw [hkne]; exact hT)
      obtain ⟨i, hi', rfl⟩ := List.mem_map.1 (List.mem_filter.1 hy).1
      have hi'' : i < k.na := by simpa using hi'
      exact (isAt_iff (by rw [hkna]; exact h1.ns.rise) _).2 ⟨i, hi'', rfl⟩
    -- it is what the state says, but for the order
    obtain ⟨fl, hfl⟩ : ∃ fl : ByteArray → Bool, fl = fun x => decide (s.kd (atI s.fn s.na x).toNat = 1) := ⟨_, rfl⟩
    have hclN : s.closeL0 day = closeN (s.sum day) fl ((List.range s.na).map s.fn) := by
      unfold St.closeL0
      refine closeL_names s.fn s.kd (s.sum day) fl s.na (fun i hi' => ?_)
      rw [hfl]
      have : atI s.fn s.na (s.fn i) = i := atI_found _ _ _ i hi' rfl (fun j hj e => ho.nm j i hj hi' (by rw [e]))
      simp only [this, Int.toNat_natCast]
    have hprog : negL M = closeN (s.sum day) fl ((List.range k.na).map k.nm) := by
      rw [hM]
      refine flow_names k.nm (s.sum day) _ fl (fun y => kd (lessN k.nm k.na y.1) == 0) k.na (fun i _ => rfl) (fun i hi' m => ?_)
      have hri : Rise k.nm k.na := by rw [hkna]; exact h1.ns.rise
      show (!(kd (lessN k.nm k.na (k.nm i)) == 0)) = fl (k.nm i)
      rw [lessN_at hri hi', h1.ks i (by rw [← hkna]; exact hi'), hfl]
      simp only
      have hat1 : 0 ≤ atI s.fn s.na (k.nm i) := by
        have := h1.ns.at (k.nm i)
        rw [(isAt_iff h1.ns.rise _).2 ⟨i, by rw [← hkna]; exact hi', rfl⟩] at this
        exact of_decide_eq_true this.symm
      rcases h1.kb _ (atI_at _ _ _ hat1).1 with e | e <;> rw [e] <;> rfl
    have hperm : (negL M).Perm (s.closeL0 day) := by
      rw [hclN, hprog]
      refine closeN_perm ?_
      have : (List.range k.na).map k.nm = nmS s.fn s.na := by rw [hkna]; exact h1.ns.same
      rw [this]
      exact nmS_perm s.fn s.na
    have hsum : sumL M = s.closeS day := sumL_close hperm
    have hemp : M.isEmpty = (s.closeL0 day).isEmpty := by
      have := hperm.length_eq
      unfold negL at this
      rw [List.length_map] at this
      cases hm : M with
      | nil => rw [hm] at this; cases hc : s.closeL0 day with
        | nil => rfl
        | cons a b => rw [hc] at this; simp at this
      | cons a b => rw [hm] at this; cases hc : s.closeL0 day with
        | nil => rw [hc] at this; simp at this
        | cons a b => rfl
    have hE : s.closeE day into = if closeE1 (dayB day) true (decide (s.kd (atI s.fn s.na into).toNat = 1)) (decide (day < k.ul)) ≠ 0 then closeE1 (dayB day) true (decide (s.kd (atI s.fn s.na into).toNat = 1)) (decide (day < k.ul)) else closeE2 M.isEmpty (decide (60 ≤ k.ne)) := by
      unfold St.closeE St.closeF
      rw [hdl, hemp, hkne, decide_eq_true hat0]
    have CR : ∀ W, Below w.heap.size w W → Calls Tryz.prog 67 #[.pointer (some ⟨B, 0, none⟩), .int .i64 day, .pointer (some ⟨k.pa (lessN k.nm k.na into), 0, none⟩)] W fun r w' => r = .returned (.int .i64 (s.closeE day into)) ∧ Below W.heap.size W w' := fun W hW => by
      rw [hE]
      exact refuseClose_some B _ k day _ M W (cell_later hW cK) (cell_later hW cE) (cell_later hW cU) (fun hd => hFlow hd W hW)
    by_cases he : s.closeE day into = 0
    · have he' := he
      unfold St.closeE at he'
      have hF0 : s.closeF day into = 0 := by
        by_cases hF : s.closeF day into = 0
        · exact hF
        · rw [if_pos hF] at he'; exact absurd he' hF
      rw [if_neg (by rw [hF0]; decide)] at he'
      have hz := closeE1_zero hF0
      have hy := closeE2_zero he'
      have hd' := dayB_yes hz.1
      have h3 : ¬ day ≤ s.lk := of_decide_eq_false hz.2.2.2
      have h4 : ¬ 60 ≤ s.ne := of_decide_eq_false hy.2
      have hkd0 : ¬ s.kd (atI s.fn s.na into).toNat = 1 := of_decide_eq_false hz.2.2.1
      have hok := St.afterClose_ok ho day into
      unfold St.afterClose at hok ⊢
      rw [if_pos he] at hok ⊢
      have hMe : M.isEmpty = false := hemp.trans hy.1
      have hinS : into.size ≤ 1000000000 := by
        obtain ⟨i, hi, e⟩ := (atI_iff s.fn s.na into).1 (of_decide_eq_true hz.2.1)
        have hn := h1.tx.ns i hi
        rw [e] at hn; exact hn
      have hszT : ∀ N, (evT day (lnA (closedL M into)) (lnM (closedL M into)) N (.close into)).size ≤ 7000000000 := fun N => by
        have hdl := digZ_len day
        show (⟨#[99, 32]⟩ ++ ⟨(digZ day).toArray⟩ ++ ⟨#[32]⟩ ++ into : ByteArray).size ≤ _
        simp only [ByteArray.size_append, sz_arr, List.size_toArray, List.length_cons, List.length_nil]
        omega
      have heT : ∀ N, s.tx ++ (⟨#[99, 32]⟩ ++ ⟨(digZ day).toArray⟩ ++ ⟨#[32]⟩ ++ into) ++ ⟨#[10]⟩ = s.tx ++ evT day (lnA (closedL M into)) (lnM (closedL M into)) N (.close into) ++ ⟨#[10]⟩ := fun N => rfl
      have hM0 : 0 < M.length := by
        cases hm : M with
        | nil => rw [hm] at hMe; cases hMe
        | cons a b => simp
      have hML : M.length ≤ 10 := by rw [hM]; exact Nat.le_trans (List.length_filter_le _ _) hMl
      have hMb : ∀ j, j < M.length → -100000000000 ≤ lnM M j ∧ lnM M j ≤ 100000000000 := fun j hj => by
        have hmem : (M[j].1, - M[j].2) ∈ negL M := List.mem_map.2 ⟨M[j], List.getElem_mem hj, rfl⟩
        obtain ⟨i, hi', hk1, e⟩ := closeL_mem _ _ (hperm.mem_iff.1 hmem)
        injection e with e1 e2
        have hb := St.flow_bd ho (by omega : s.lk < day) hi' hk1
        have e3 := (lnA_at M j hj).2
        rw [e3]; omega
      have hclen : (closedL M into).length = (s.closeLs day into).length := by
        unfold closedL St.closeLs
        rw [List.length_append, List.length_append, hperm.length_eq, hsum]
      have hLperm : (closedL M into).Perm (s.closeLs day into) := by
        unfold closedL St.closeLs
        rw [hsum]
        exact hperm.append_right _
      have hne0 : 0 < (s.closeLs day into).length := hok.l1 s.ne (by show s.ne < s.ne + 1; omega) |> fun h => by
        have : (s.closed day into).ln s.ne = (s.closeLs day into).length := by show upd s.ln s.ne _ s.ne = _; rw [upd_same]
        rw [this] at h; exact h
      have htw : ∀ a b, a < b → b < (s.closeLs day into).length → (lnA (s.closeLs day into) a).toList ≠ (lnA (s.closeLs day into) b).toList := by
        have := hok.tw s.ne (by show s.ne < s.ne + 1; omega)
        have e1 : (s.closed day into).ln s.ne = (s.closeLs day into).length := by show upd s.ln s.ne _ s.ne = _; rw [upd_same]
        have e2 : (s.closed day into).la s.ne = lnA (s.closeLs day into) := by show upd s.la s.ne _ s.ne = _; rw [upd_same]
        rw [e1, e2] at this
        exact this
      have hl10 : (s.closeLs day into).length ≤ 10 := by
        have := hok.ln s.ne (by show s.ne < s.ne + 1; omega)
        have e1 : (s.closed day into).ln s.ne = (s.closeLs day into).length := by show upd s.ln s.ne _ s.ne = _; rw [upd_same]
        rw [e1] at this
        exact this
      have hcth : ∀ j, j < (s.closeLs day into).length → s.there (lnA (s.closeLs day into) j) = true := fun j hj => by
        have := hok.th s.ne (by show s.ne < s.ne + 1; omega) j (by show j < upd s.ln s.ne _ s.ne; rw [upd_same]; exact hj)
        have e2 : (s.closed day into).la s.ne = lnA (s.closeLs day into) := by show upd s.la s.ne _ s.ne = _; rw [upd_same]
        rw [e2] at this
        exact this
      have hcbd : ∀ j, j < (s.closeLs day into).length → -1000000000000 ≤ lnM (s.closeLs day into) j ∧ lnM (s.closeLs day into) j ≤ 1000000000000 := fun j hj => by
        have := hok.bd s.ne (by show s.ne < s.ne + 1; omega) j (by show j < upd s.ln s.ne _ s.ne; rw [upd_same]; exact hj)
        have e2 : (s.closed day into).lm s.ne = lnM (s.closeLs day into) := by show upd s.lm s.ne _ s.ne = _; rw [upd_same]
        rw [e2] at this
        exact this
      have hLP : (linesL (lnA (closedL M into)) (lnM (closedL M into)) (s.closeLs day into).length).Perm (linesL (lnA (s.closeLs day into)) (lnM (s.closeLs day into)) (s.closeLs day into).length) := by
        have e1 := linesL_ofL (closedL M into)
        rw [hclen] at e1
        rw [e1, linesL_ofL]; exact hLperm
      have hxin : ∀ l, l < (s.closeLs day into).length → isAt k.nm k.na (lnA (closedL M into) l) = true := fun l hl => by
        obtain ⟨i, hi', e1, _⟩ := perm_mem hLP hl
        rw [← e1, h1.there]; exact hcth i hi'
      have hxb : ∀ l, l < (s.closeLs day into).length → -1000000000000 ≤ lnM (closedL M into) l ∧ lnM (closedL M into) l ≤ 1000000000000 := fun l hl => by
        obtain ⟨i, hi', _, e2⟩ := perm_mem hLP hl
        rw [← e2]; exact hcbd i hi'
      have hxd := perm_two hLP htw
      have hfew := h1.few ho
      rw [he] at CR
      rw [e0] at CF
      have hcells : cells2 (closedL M into) = lineCells (lnA (closedL M into)) (lnM (closedL M into)) (s.closeLs day into).length := by
        rw [← hclen, lineCells_ofL]
      generalize hNe : (s.closeLs day into).length = N at *
      refine (CloseA_ok B N (k.ne + 1) day into into _ w (fun g c W => W.ownsRow w.heap.size 58 2 (.slice (some ⟨g, 0, none⟩) N c) N (lineCells (lnA (closedL M into)) (lnM (closedL M into)) N) ∧ Below w.heap.size w W) (fun w' => ∃ Fp', ProgIs w' B (s.closed day into) Fp' ∧ Turn Fp w w' ∧ ∀ b, Fp' b → Fp b ∨ w.heap.size ≤ b) CF CR (fun W hW => ?_) (fun g c W hr => ?_) hd').mono ?_
      · refine (closed_any B _ day into M W (cell_later hW cN) (by omega) hM0 hMb (fun W' hW' => hFlow hz.1 W' (hW.trans (hW'.mono hW.size)))).mono ?_
        rintro r w' ⟨g, c, rfl, hq⟩
        have h5 := hq.out.1
        rw [hclen, hcells] at h5
        refine ⟨g, c, by rw [hclen], owns_le h5 hW.size, hW.trans (hq.out.2.mono hW.size)⟩
      · have hA' := h1.mv hr.2
        obtain ⟨hLn, csn, hcn⟩ := linesK_lines hr.1 hne0
        refine (enterA_any B k 136 (.agg #[.int .i64 day, .slice (some ⟨g, 0, none⟩) N c, .string into]) day g N c (lnA (closedL M into)) (lnM (closedL M into)) kd mm ff F W csn (0, 0) hA'.bk hA'.ac (h1.ndb ho) (by omega) hLn hcn hl10 hxin (isAt_dis hxin hxd) (fun i hi => by have := hfew i hi; omega) hxb (by omega) (fun w => method_closing w _ _ _ _ _)).mono ?_
        rintro r w' ⟨rfl, hEn⟩
        refine ⟨rfl, ?_⟩
        obtain ⟨Fp', q1, q2, q3⟩ := prog_enter h1 hr.2 (e := .close into) (za := lnA (s.closeLs day into)) (zm := lnM (s.closeLs day into)) (gn' := upd s.gn s.ne false) (tx' := s.tx ++ (⟨#[99, 32]⟩ ++ ⟨(digZ day).toArray⟩ ++ ⟨#[32]⟩ ++ into) ++ ⟨#[10]⟩) hne0 hr.1 hLP ho htw hxin hEn (gn_plain h1 rfl) ⟨Int.le_refl _, Int.natCast_nonneg _⟩ (heT N) (hszT N)
        obtain ⟨p1, p2, p3, p4⟩ := prog_lk q1 day (by show s.lk ≤ day; omega)
        refine ⟨_, p3, p4, Fp', ?_, ?_, fun b hb => (q3 b hb).elim (fun hb => .inl ((h2 b).2 hb)) .inr⟩
        · unfold St.closed
          rw [hNe]
          exact p1
        · have t1 : Turn Fp w w' := q2.mono (fun b _ hb => (h2 b).2 hb)
          refine ⟨p2.os.trans t1.os, p2.tape.trans t1.tape, p2.output.trans t1.output, Nat.le_trans t1.size p2.size, fun b hb hs => (p2.block b (Nat.lt_of_lt_of_le hb t1.size) (fun hF => ?_)).trans (t1.block b hb hs)⟩
          rcases q3 b hF with h' | h'
          · exact hs ((h2 b).2 h')
          · omega
      · rintro r w' ⟨rfl, hq⟩
        refine ⟨?_, ?_⟩
        · have : s.closeN day into = ((k.ne + 1 : Nat) : Int) := by unfold St.closeN; rw [if_pos he, hkne]; omega
          rw [he, this]
        · exact hq
    · exact hbad _ _ he rfl e0 CR
end Go.Proofs.YtjnmoddcodnadaaGreatDoor
namespace Go.Annal
open Go.Proofs.YtjnmoddcodnadaaGreatDoor
theorem digL_dec : ∀ f n, n < 10 ^ (f + 1) → digL (f + 1) n = Lib.decDigits n
  | 0, n, h => by
    have h1 : n < 10 := by simpa using h
    rw [digL, Lib.decDigits, if_pos h1, dif_pos h1]
  | f + 1, n, h => by
    rw [digL, Lib.decDigits]
    by_cases h1 : n < 10
    · rw [if_pos h1, dif_pos h1]
    · rw [if_neg h1, dif_neg h1, digL_dec f (n / 10) (by rw [Nat.pow_succ] at h; omega)]
theorem itoa_digZ (n : Int) (h1 : -1000000000000000000 < n) (h2 : n < 1000000000000000000) : Lib.itoa n = digZ n := by
  unfold Lib.itoa digZ
  by_cases h : n < 0
  · rw [if_pos h, if_pos h, digL_dec 17 _ (by have : (10 : Nat) ^ 18 = 1000000000000000000 := rfl; show (-n).toNat < 10 ^ 18; omega), show n.natAbs = (-n).toNat by omega]
  · rw [if_neg h, if_neg h, digL_dec 17 _ (by have : (10 : Nat) ^ 18 = 1000000000000000000 := rfl; show n.toNat < 10 ^ 18; omega)]
end Go.Annal
namespace Go.Proofs.YtjnmoddcodnadaaGreatDoor
open Go.RowKit Go.Annal Go.Sort
theorem Tryz.gPow : (Tryz.prog.globalNamed "internal/strconv.uint64pow10").isSome = true := by kernel_rfl
theorem Tryz.gSyn : (Tryz.prog.globalNamed "strconv.ErrSyntax").isSome = true := by kernel_rfl
theorem Tryz.gRng : (Tryz.prog.globalNamed "strconv.ErrRange").isSome = true := by kernel_rfl
theorem Tryz.gMax : (Tryz.prog.globalNamed "internal/bytealg.MaxLen").isSome = true := by kernel_rfl
/-- The library's own variables, as they were laid. -/
structure Tabs (w : World) : Prop where
  pow : Lib.TabIs Tryz.prog w "internal/strconv.uint64pow10" .u64 Lib.pow10Tab
  syn : ∃ t p, w.var? Tryz.prog "strconv.ErrSyntax" = some #[.iface t p]
  rng : ∃ t p, w.var? Tryz.prog "strconv.ErrRange" = some #[.iface t p]
  mx : ∃ m, w.var? Tryz.prog "internal/bytealg.MaxLen" = some #[.int .i64 m]
theorem Tabs.mv {w w' : World} {B : Nat} (h : Tabs w) (hb : Below B w w') (hB : w.heap.size ≤ B) : Tabs w' := by
  obtain ⟨g1, e1⟩ := Option.isSome_iff_exists.1 Tryz.gPow
  obtain ⟨g2, e2⟩ := Option.isSome_iff_exists.1 Tryz.gSyn
  obtain ⟨g3, e3⟩ := Option.isSome_iff_exists.1 Tryz.gRng
  obtain ⟨g4, e4⟩ := Option.isSome_iff_exists.1 Tryz.gMax
  obtain ⟨t, p, hs⟩ := h.syn
  obtain ⟨t', p', hr⟩ := h.rng
  obtain ⟨m, hm⟩ := h.mx
  exact ⟨Joins.tab_stays e1 h.pow hb hB, ⟨t, p, Joins.var_stays e2 hs hb hB⟩, ⟨t', p', Joins.var_stays e3 hr hb hB⟩, ⟨m, Joins.var_stays e4 hm hb hB⟩⟩
theorem Tabs.below {w w' : World} (h : Tabs w) (hb : Below w.heap.size w w') : Tabs w' := h.mv hb (Nat.le_refl _)
theorem owns_made {w : World} {base : Nat} {cs : Array Value} {e : TypeId} {size n : Nat} (hb : base ≤ w.heap.size) (hm : n ≤ maxLen) (hs : cs.size = n * size) : (w.alloc (.cells cs e)).ownsRow base e size (.slice (some ⟨w.heap.size, 0, none⟩) n n) n cs.toList :=
  ⟨by simp [hs], .inr ⟨w.heap.size, n, cs, rfl, hb, heap_alloc_new w _, Nat.le_refl _, hm, hs, by rw [← hs, List.take_of_length_le (by simp)]⟩⟩
/-- strconv.Itoa of what a book tells. -/
theorem itoa_any (n : Int) (w : World) (ht : Tabs w) (h1 : -1000000000000000000 < n) (h2 : n < 1000000000000000000) :
    Calls Tryz.prog 135 #[.int .i64 n] w fun r w' => r = .returned (.string ⟨(digZ n).toArray⟩) ∧ Below w.heap.size w w' := by
  refine (Any.strconv_Itoa Tryz.itoaL n (by omega) (by omega) w ht.pow).mono ?_
  rintro r w' ⟨rfl, k, os, rfl⟩
  rw [itoa_digZ n h1 h2]
  exact ⟨rfl, Lib.below_grow _ w (Nat.le_refl _) k os⟩
end Go.Proofs.YtjnmoddcodnadaaGreatDoor
namespace Go.Annal
/-- The number that a word is, if it is one: what would be written for it, of at most ten digits. -/
def numB (x : ByteArray) : Option Int :=
  if (Lib.trimPrefix x.data.toList [45]).length > 10 then none
  else match Lib.atoiAll x.data.toList with
    | .ok v => if (⟨(Lib.itoa v).toArray⟩ : ByteArray) = x then some v else none
    | _ => none
end Go.Annal
namespace Go.Proofs.YtjnmoddcodnadaaGreatDoor
open Go.RowKit Go.Annal Go.Sort
theorem beq_bytes (a b : ByteArray) : (a.toList == b.toList) = decide (a = b) := by
  rw [Bool.eq_iff_iff, decide_eq_true_iff]
  constructor
  · intro h
    have := eq_of_beq h
    exact ba_ext this
  · rintro rfl; simp
def NumIs (x : ByteArray) (r : Ending) : Prop := ∃ n b, r = .returned (.tuple #[.int .i64 n, .bool b]) ∧ b = (numB x).isSome ∧ ∀ v, numB x = some v → n = v
theorem numIs_no {x : ByteArray} (h : numB x = none) (n : Int) : NumIs x (.returned (.tuple #[.int .i64 n, .bool false])) := ⟨n, false, rfl, by rw [h]; rfl, fun v e => by rw [h] at e; cases e⟩
set_option maxHeartbeats 1000000 in
set_option maxRecDepth 100000 in
theorem number_any (x : ByteArray) (w : World) (ht : Tabs w) (hx : x.size ≤ 1000000000000) :
    Calls Tryz.prog 99 #[.string x] w fun r w' => NumIs x r ∧ Below w.heap.size w w' := by
  obtain ⟨y, hy⟩ : ∃ y : ByteArray, y = ⟨(Lib.trimPrefix x.data.toList [45]).toArray⟩ := ⟨_, rfl⟩
  have hys : y.size = (Lib.trimPrefix x.data.toList [45]).length := by rw [hy]; show (Lib.trimPrefix x.data.toList [45]).toArray.size = _; rw [List.size_toArray]
  have CT : Hid (Calls Tryz.prog 133 #[.string x, .string ⟨#[45]⟩] w fun r w' => r = .returned (.string y) ∧ w' = w) := by
    rw [hy]; exact Any.strings_TrimPrefix Tryz.trimL x ⟨#[45]⟩ w
  clear hy
  by_cases hl : (Lib.trimPrefix x.data.toList [45]).length > 10
  · have hN : numB x = none := by unfold numB; rw [if_pos hl]
    have hl' : (y.size : Int) > 10 := by omega
    have HN : Hid (type_of% hN) := hN
    clear hys hl hN
    go_enter Tryz.func99, Tryz.ntmps99
    go_wp2_with (go_at_call 133; with_reducible refine Calls.mono CT.out ?_; rintro e wx ⟨rfl, hw⟩; rw [hw]; clear hw wx)
    go_ret2
    exact ⟨numIs_no HN.out 0, Below.refl _ _⟩
  · have hl' : ¬ (y.size : Int) > 10 := by omega
    have hN0 : numB x = (match Lib.atoiAll x.data.toList with | .ok v => if (⟨(Lib.itoa v).toArray⟩ : ByteArray) = x then some v else none | _ => none) := by unfold numB; rw [if_neg hl]
    clear hys hl
    cases hA : Lib.atoiAll x.data.toList with
    | ok v =>
      rw [hA] at hN0
      have hvb := Lib.atoiAll_bounds hA
      have CA : Hid (Calls Tryz.prog 134 #[.string x] w fun r w' => r = .returned (.tuple #[.int .i64 v, .nilIface]) ∧ Below w.heap.size w w') := by
        refine (Any.strconv_Atoi_ok Tryz.atoiL x (by omega) v hA w).mono ?_
        rintro r w' ⟨rfl, hw⟩
        refine ⟨rfl, ?_⟩
        rcases hw with rfl | ⟨t, rfl⟩
        · exact Below.refl _ _
        · exact Lib.bytesWorld_below w _ t
      obtain ⟨z, hz⟩ : ∃ z : ByteArray, (⟨(Lib.itoa v).toArray⟩ : ByteArray) = z := ⟨_, rfl⟩
      have CI : Hid (∀ W, Below w.heap.size w W → Calls Tryz.prog 135 #[.int .i64 v] W fun r w' => r = .returned (.string z) ∧ Below W.heap.size W w') := fun W hW => by
        refine (Any.strconv_Itoa Tryz.itoaL v hvb.1 hvb.2 W (ht.below hW).pow).mono ?_
        rintro r w' ⟨rfl, k, os, rfl⟩
        rw [← hz]
        exact ⟨rfl, Lib.below_grow _ W (Nat.le_refl _) k os⟩
      have HN : Hid (∀ b, b = decide (z = x) → NumIs x (.returned (.tuple #[.int .i64 v, .bool b]))) := fun b hb => by
        have e : numB x = if z = x then some v else none := by rw [hN0]; show (if (⟨(Lib.itoa v).toArray⟩ : ByteArray) = x then some v else none) = _; rw [hz]
        refine ⟨v, b, rfl, ?_, fun v' e' => ?_⟩
        · rw [e, hb]; split <;> simp_all
        · rw [e] at e'; split at e'
          · exact Option.some.inj e'
          · cases e'
      clear hN0 hA hvb ht hz
      go_enter Tryz.func99, Tryz.ntmps99
      go_wp2_with (first
        | (go_at_call 133; with_reducible refine Calls.mono CT.out ?_; rintro e wx ⟨rfl, hw⟩; rw [hw]; clear hw wx)
        | (go_at_call 134; with_reducible refine Calls.mono CA.out ?_; rintro e w1 ⟨rfl, hb1⟩)
        | (go_at_call 135; with_reducible refine Calls.mono (CI.out _ hb1) ?_; rintro e w2 ⟨rfl, hb2⟩))
      go_ret2
      exact ⟨HN.out _ (beq_bytes z x), hb1.trans (hb2.mono hb1.size)⟩
    | «syntax» =>
      rw [hA] at hN0
      obtain ⟨tp, p, hv⟩ := ht.syn
      have CA : Hid (Calls Tryz.prog 134 #[.string x] w fun r w' => ∃ n t v, r = .returned (.tuple #[.int .i64 n, .iface t v]) ∧ Below w.heap.size w w') := by
        refine (Any.strconv_Atoi_syntax_var Tryz.atoiL x (by omega) hA tp p w hv).mono ?_
        rintro r w' ⟨N, rfl, _, _, hb⟩
        exact ⟨_, _, _, rfl, hb⟩
      have HN : Hid (numB x = none) := hN0
      clear hN0 hA hv ht
      go_enter Tryz.func99, Tryz.ntmps99
      go_wp2_with (first
        | (go_at_call 133; with_reducible refine Calls.mono CT.out ?_; rintro e wx ⟨rfl, hw⟩; rw [hw]; clear hw wx)
        | (go_at_call 134; with_reducible refine Calls.mono CA.out ?_; rintro e w1 ⟨n, t, v, rfl, hb1⟩))
      go_ret2
      exact ⟨numIs_no HN.out n, hb1⟩
    | range =>
      rw [hA] at hN0
      obtain ⟨tp, p, hv⟩ := ht.rng
      have CA : Hid (Calls Tryz.prog 134 #[.string x] w fun r w' => ∃ n t v, r = .returned (.tuple #[.int .i64 n, .iface t v]) ∧ Below w.heap.size w w') := by
        refine (Any.strconv_Atoi_range_var Tryz.atoiL x (by omega) hA tp p w hv).mono ?_
        rintro r w' ⟨N, rfl, _, _, hb⟩
        exact ⟨_, _, _, rfl, hb⟩
      have HN : Hid (numB x = none) := hN0
      clear hN0 hA hv ht
      go_enter Tryz.func99, Tryz.ntmps99
      go_wp2_with (first
        | (go_at_call 133; with_reducible refine Calls.mono CT.out ?_; rintro e wx ⟨rfl, hw⟩; rw [hw]; clear hw wx)
        | (go_at_call 134; with_reducible refine Calls.mono CA.out ?_; rintro e w1 ⟨n, t, v, rfl, hb1⟩))
      go_ret2
      exact ⟨numIs_no HN.out n, hb1⟩
end Go.Proofs.YtjnmoddcodnadaaGreatDoor
namespace Go.Annal
def wd (x : ByteArray) : ByteArray := ⟨(Lib.cut x.data.toList [32]).1.toArray⟩
def rs (x : ByteArray) : ByteArray := ⟨(Lib.cut x.data.toList [32]).2.1.toArray⟩
def fd (x : ByteArray) : Bool := (Lib.cut x.data.toList [32]).2.2
end Go.Annal
namespace Go.Proofs.YtjnmoddcodnadaaGreatDoor
open Go.RowKit Go.Annal Go.Sort
/-- A line of a text, of which words are taken. -/
def LineIs (w : World) (l : Nat) (rest : ByteArray) (more wrong : Bool) : Prop := w.heap[l]? = some (.cells #[.string rest, .bool more, .bool wrong] 172 (0, 0))
theorem Tryz.gMax1 : Tryz.prog.globalNamed "internal/bytealg.MaxLen" = some (Tryz.cutL_ren.g 1) := by kernel_rfl
theorem line_notMax {w : World} {l : Nat} {rest : ByteArray} {more wrong : Bool} (h : LineIs w l rest more wrong) (ht : Tabs w) : Tryz.cutL_ren.g 1 ≠ l := fun e => by
  obtain ⟨m, hm⟩ := ht.mx
  have := World.var?_cell Tryz.gMax1 hm 0
  rw [e] at this
  rw [blk_cell' h (o := 0) rfl] at this
  simp at this
set_option maxHeartbeats 1000000 in
theorem demand_any (l : Nat) (rest : ByteArray) (more wrong right : Bool) (w : World) (h : LineIs w l rest more wrong) :
    Calls Tryz.prog 97 #[.pointer (some ⟨l, 0, none⟩), .bool right] w fun r w' => r = .returned (.tuple #[]) ∧ w' = w.setCell ⟨l, 2, none⟩ (.bool (wrong || !right)) := by
  have c2 := blk_cell' h (o := 2) rfl
  have f2 := blk_free h 2
  cases wrong <;> cases right
  all_goals
    go_enter Tryz.func97, Tryz.ntmps97
    go_wp2
    go_end0
    exact ⟨rfl, rfl⟩
set_option maxHeartbeats 1000000 in
theorem of_any (s : ByteArray) (w : World) : Calls Tryz.prog 53 #[.string s] w fun r w' => r = .returned (.pointer (some ⟨w.heap.size, 0, none⟩)) ∧ w' = w.alloc (.cells #[.string s, .bool true, .bool false] 172) := by
  go_enter Tryz.func53, Tryz.ntmps53
  go_wp2
  go_ret
  exact ⟨rfl, rfl⟩
theorem LineIs.set2 {w : World} {l : Nat} {rest : ByteArray} {more wrong : Bool} (h : LineIs w l rest more wrong) (b : Bool) : LineIs (w.setCell ⟨l, 2, none⟩ (.bool b)) l rest more b := blk_set h 2 _
theorem LineIs.mv {w w' : World} {l : Nat} {rest : ByteArray} {more wrong : Bool} (h : LineIs w l rest more wrong) (hb : Below w.heap.size w w') : LineIs w' l rest more wrong := (hb.block _ (blk_lt h)).trans h
theorem LineIs.turn {S : Nat → Prop} {w w' : World} {l : Nat} {rest : ByteArray} {more wrong : Bool} (h : LineIs w l rest more wrong) (ht : Turn S w w') (hs : ¬ S l) : LineIs w' l rest more wrong := ht.blk h hs
theorem LineIs.fz {w : World} {l : Nat} {rest : ByteArray} {more wrong : Bool} (h : LineIs w l rest more wrong) (i : Nat) : w.frozen? ⟨l, i, none⟩ = false := blk_free h i
theorem LineIs.c0 {w : World} {l : Nat} {rest : ByteArray} {more wrong : Bool} (h : LineIs w l rest more wrong) : w.cell? ⟨l, 0, none⟩ = some (.string rest) := blk_cell' h rfl
theorem LineIs.c1 {w : World} {l : Nat} {rest : ByteArray} {more wrong : Bool} (h : LineIs w l rest more wrong) : w.cell? ⟨l, 1, none⟩ = some (.bool more) := blk_cell' h rfl
theorem LineIs.c2 {w : World} {l : Nat} {rest : ByteArray} {more wrong : Bool} (h : LineIs w l rest more wrong) : w.cell? ⟨l, 2, none⟩ = some (.bool wrong) := blk_cell' h rfl
theorem LineIs.lt {w : World} {l : Nat} {rest : ByteArray} {more wrong : Bool} (h : LineIs w l rest more wrong) : l < w.heap.size := blk_lt h
theorem cut_any (x : ByteArray) (w : World) (m : Int) (hx : x.size < 4294967281) (hm : w.cell? ⟨Tryz.cutL_ren.g 1, 0, none⟩ = some (.int .i64 m)) :
    Calls Tryz.prog 98 #[.string x, .string ⟨#[32]⟩] w fun r w' => r = .returned (.tuple #[.string (wd x), .string (rs x), .bool (fd x)]) ∧ ∃ n, w' = w.drewN n :=
  Any.strings_Cut Tryz.cutL x ⟨#[32]⟩ m w hx hm
set_option maxHeartbeats 1000000 in
set_option maxRecDepth 100000 in
theorem word_any (l : Nat) (rest : ByteArray) (more wrong : Bool) (w : World) (h : LineIs w l rest more wrong) (ht : Tabs w) (hx : rest.size < 4294967281) :
    Calls Tryz.prog 54 #[.pointer (some ⟨l, 0, none⟩)] w fun r w' => r = .returned (.string (wd rest)) ∧ Hid (LineIs w' l (rs rest) (fd rest) (wrong || !more) ∧ Turn (fun b => b = l) w w') := by
  obtain ⟨m, hm⟩ := ht.mx
  have hne := line_notMax h ht
  have cM : w.cell? ⟨Tryz.cutL_ren.g 1, 0, none⟩ = some (.int .i64 m) := by have := World.var?_cell Tryz.gMax1 hm 0; exact this
  have c1 : w.cell? ⟨l, 1, none⟩ = some (.bool more) := blk_cell' h rfl
  have C1 : Hid (type_of% (demand_any l rest more wrong more w h)) := demand_any l rest more wrong more w h
  have hT1 : Turn (fun b => b = l) w (w.setCell ⟨l, 2, none⟩ (.bool (wrong || !more))) := (Turn.refl _ _).set _ _ (fun _ => rfl)
  have h1 := h.set2 (wrong || !more)
  have cM1 : (w.setCell ⟨l, 2, none⟩ (.bool (wrong || !more))).cell? ⟨Tryz.cutL_ren.g 1, 0, none⟩ = some (.int .i64 m) := (World.cell?_of_block (w := w) (hT1.block _ (World.block_lt_of_cell? _ _ cM) (fun e => hne e))).trans cM
  obtain ⟨W1, hW1⟩ : ∃ W1, w.setCell ⟨l, 2, none⟩ (.bool (wrong || !more)) = W1 := ⟨_, rfl⟩
  rw [hW1] at C1 hT1 h1 cM1
  have C2 : Hid (type_of% (cut_any rest W1 m hx cM1)) := cut_any rest W1 m hx cM1
  have d0 : W1.cell? ⟨l, 0, none⟩ = some (.string rest) := blk_cell' h1 rfl
  have HT1 : Hid (type_of% hT1) := hT1
  have H1 : Hid (type_of% h1) := h1
  clear hm cM hne hW1 cM1 ht hT1 h1
  go_enter Tryz.func54, Tryz.ntmps54
  go_wp2_with (go_at_call 97; with_reducible refine Calls.mono C1.out ?_; rintro e wx ⟨rfl, hw⟩; rw [hw]; clear hw wx)
  with_reducible refine Calls.mono C2.out ?_
  rintro e w2 ⟨rfl, q, hw2⟩
  have h2 : LineIs w2 l rest more (wrong || !more) := by rw [hw2]; exact H1.out.mv (below_drewN W1 q)
  have T2 : Hid (Turn (fun b => b = l) w w2) := by rw [hw2]; exact HT1.out.trans (Turn.of_below (below_drewN W1 q))
  have f0 := h2.fz 0
  have f1 := h2.fz 1
  have k0 := h2.c0
  have k1 := h2.c1
  have H2 : Hid (type_of% h2) := h2
  clear hw2 h2
  go_wp2
  go_ret
  refine ⟨rfl, ?_⟩
  show _ ∧ _
  refine ⟨?_, (T2.out.set _ _ (fun _ => rfl)).set _ _ (fun _ => rfl)⟩
  exact blk_set (blk_set H2.out 0 (.string (rs rest))) 1 (.bool (fd rest))
set_option maxHeartbeats 1000000 in
theorem more_any (l : Nat) (rest : ByteArray) (more wrong : Bool) (w : World) (h : LineIs w l rest more wrong) :
    Calls Tryz.prog 100 #[.pointer (some ⟨l, 0, none⟩)] w fun r w' => r = .returned (.bool (more && !wrong)) ∧ Below w.heap.size w w' := by
  have c1 := h.c1
  have c2 := h.c2
  cases more <;> cases wrong
  all_goals
    go_enter Tryz.func100, Tryz.ntmps100
    go_wp2
    go_ret
    exact ⟨rfl, Below.refl _ _⟩
set_option maxHeartbeats 1000000 in
theorem lineRight_any (l : Nat) (rest : ByteArray) (more wrong : Bool) (w : World) (h : LineIs w l rest more wrong) :
    Calls Tryz.prog 57 #[.pointer (some ⟨l, 0, none⟩)] w fun r w' => r = .returned (.bool (!more && !wrong)) ∧ Below w.heap.size w w' := by
  have c1 := h.c1
  have c2 := h.c2
  cases more <;> cases wrong
  all_goals
    go_enter Tryz.func57, Tryz.ntmps57
    go_wp2
    go_ret
    exact ⟨rfl, Below.refl _ _⟩
theorem wd_size (x : ByteArray) : (wd x).size ≤ x.size := by
  unfold wd
  show (Lib.cut x.data.toList [32]).1.toArray.size ≤ x.data.size
  rw [List.size_toArray, ← Array.length_toList]
  unfold Lib.cut
  split
  · show (List.take _ _).length ≤ _
    rw [List.length_take]; omega
  · exact Nat.le_refl _
theorem rs_size (x : ByteArray) : (rs x).size ≤ x.size := by
  unfold rs
  show (Lib.cut x.data.toList [32]).2.1.toArray.size ≤ x.data.size
  rw [List.size_toArray, ← Array.length_toList]
  unfold Lib.cut
  split
  · show (List.drop _ _).length ≤ _
    rw [List.length_drop]; omega
  · exact Nat.zero_le _
/-- Behind a demand. -/
theorem demanded {l : Nat} {rest : ByteArray} {more wrong : Bool} {w w1 w2 : World} (h1 : LineIs w1 l rest more wrong) (ht : Turn (fun b => b = l) w w1) (hb : Below w1.heap.size w1 w2) (b : Bool) : LineIs (w2.setCell ⟨l, 2, none⟩ (.bool b)) l rest more b ∧ Turn (fun b => b = l) w (w2.setCell ⟨l, 2, none⟩ (.bool b)) :=
  ⟨(h1.mv hb).set2 b, (ht.trans (Turn.of_below hb)).set _ _ (fun _ => rfl)⟩
set_option maxHeartbeats 1000000 in
set_option maxRecDepth 100000 in
theorem lineName_any (l : Nat) (rest : ByteArray) (more wrong : Bool) (w : World) (h : LineIs w l rest more wrong) (ht : Tabs w) (hx : rest.size ≤ 1000000000) :
    Calls Tryz.prog 55 #[.pointer (some ⟨l, 0, none⟩)] w fun r w' => r = .returned (.string (wd rest)) ∧ Hid (LineIs w' l (rs rest) (fd rest) ((wrong || !more) || !(isName (wd rest))) ∧ Turn (fun b => b = l) w w') := by
  have hwx := wd_size rest
  have C1 : Hid (type_of% (word_any l rest more wrong w h ht (by omega))) := word_any l rest more wrong w h ht (by omega)
  have C2 : Hid (∀ W, _) := fun W => right_any (wd rest) W (by omega)
  clear ht h
  go_enter Tryz.func55, Tryz.ntmps55
  go_wp2_with (first
    | (go_at_call 54; with_reducible refine Calls.mono C1.out ?_; rintro e w1 ⟨rfl, h1⟩)
    | (go_at_call 73; with_reducible refine Calls.mono (C2.out _) ?_; rintro e w2 ⟨rfl, hg2⟩))
  with_reducible refine Calls.mono (demand_any l (rs rest) (fd rest) (wrong || !more) (isName (wd rest)) w2 (h1.out.1.mv hg2.below)) ?_
  rintro e w3 ⟨rfl, hw3⟩
  go_wp2
  go_ret
  refine ⟨rfl, ?_⟩
  exact demanded h1.out.1 h1.out.2 hg2.below _
/-- The number that a word is, or any. -/
def NumOf (x : ByteArray) (n : Int) : Prop := ∀ v, numB x = some v → n = v
set_option maxHeartbeats 1000000 in
set_option maxRecDepth 100000 in
theorem lineNumber_any (l : Nat) (rest : ByteArray) (more wrong : Bool) (w : World) (h : LineIs w l rest more wrong) (ht : Tabs w) (hl : ∀ w', Turn (fun b => b = l) w w' → Tabs w') (hx : rest.size ≤ 1000000000) :
    Calls Tryz.prog 56 #[.pointer (some ⟨l, 0, none⟩)] w fun r w' => ∃ n, r = .returned (.int .i64 n) ∧ Hid (NumOf (wd rest) n ∧ LineIs w' l (rs rest) (fd rest) ((wrong || !more) || !(numB (wd rest)).isSome) ∧ Turn (fun b => b = l) w w') := by
  have hwx := wd_size rest
  have C1 : Hid (type_of% (word_any l rest more wrong w h ht (by omega))) := word_any l rest more wrong w h ht (by omega)
  have C2 : Hid (∀ W, Turn (fun b => b = l) w W → Calls Tryz.prog 99 #[.string (wd rest)] W fun r w' => ∃ n b, r = .returned (.tuple #[.int .i64 n, .bool b]) ∧ Hid (b = (numB (wd rest)).isSome ∧ NumOf (wd rest) n ∧ Below W.heap.size W w')) := fun W hW => by
    refine (number_any (wd rest) W (hl W hW) (by omega)).mono ?_
    rintro r w' ⟨⟨n, b, rfl, e1, e2⟩, hb⟩
    exact ⟨n, b, rfl, e1, e2, hb⟩
  clear ht h hl
  go_enter Tryz.func56, Tryz.ntmps56
  go_wp2_with (first
    | (go_at_call 54; with_reducible refine Calls.mono C1.out ?_; rintro e w1 ⟨rfl, h1⟩)
    | (go_at_call 99; with_reducible refine Calls.mono (C2.out _ h1.out.2) ?_; rintro e w2 ⟨n, b, rfl, hq2⟩))
  with_reducible refine Calls.mono (demand_any l (rs rest) (fd rest) (wrong || !more) b w2 (h1.out.1.mv hq2.out.2.2)) ?_
  rintro e w3 ⟨rfl, hw3⟩
  go_wp2
  go_ret
  refine ⟨n, rfl, hq2.out.2.1, ?_⟩
  rw [← hq2.out.1]
  exact demanded h1.out.1 h1.out.2 hq2.out.2.2 _
end Go.Proofs.YtjnmoddcodnadaaGreatDoor
