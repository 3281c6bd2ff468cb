import Derived.Test.YtjnmoddcodnadaaGreatDoorG33
import Derived.Test.YtjnmoddcodnadaaGreatDoorG17
import Derived.Test.YtjnmoddcodnadaaGreatDoorG32
import Derived.Test.YtjnmoddcodnadaaGreatDoorG00
import Derived.Deep.AppendLies
set_option linter.unusedVariables false
set_option linter.unusedSimpArgs false
namespace Go.Proofs.YtjnmoddcodnadaaGreatDoor
open Go.RowKit Go.Annal Go.Sort
/-- Days are locked. -/
theorem prog_lk {w : World} {B : Nat} {s : St} {Fp : Nat → Prop} (h : ProgIs w B s Fp) (day : Int) (hd : s.lk ≤ day) : ProgIs (w.setCell ⟨B, 3, none⟩ (.int .i64 (day + 1))) B { s with lk := day } Fp ∧ Turn Fp w (w.setCell ⟨B, 3, none⟩ (.int .i64 (day + 1))) ∧ w.cell? ⟨B, 3, none⟩ = some (.int .i64 (s.lk + 1)) ∧ w.frozen? ⟨B, 3, none⟩ = false := by
  obtain ⟨k, kd, mm, ff, F, gl, cl, xa, xm, kk, h1, h2⟩ := h
  have hT : Turn (fun b => b = B) w (w.setCell ⟨B, 3, none⟩ (.int .i64 (day + 1))) := (Turn.refl _ _).set _ _ (fun _ => rfl)
  have c3 := blk_cell' h1.bk.bk (o := 3) rfl
  rw [← h1.ul]
  refine ⟨⟨{ k with ul := day + 1 }, kd, mm, ff, F, gl, cl, xa, xm, kk, ⟨⟨blk_set h1.bk.bk 3 _, ?_, ?_, ?_, h1.bk.up⟩, ?_, h1.na, h1.ne, rfl, ?_, h1.ns, h1.kb, h1.ks, h1.it, h1.ev, ?_, h1.pl, h1.gn, h1.un⟩, h2⟩, hT.mono (fun b _ e => (h2 b).2 (.inl (.inl e))), c3, blk_free h1.bk.bk 3⟩
  · exact ownsRow_setCell_other h1.bk.ac (a := ⟨B, 3, none⟩) (owns_ne h1.bk.ac h1.bk.bk (by decide)) _
  · exact ownsRow_setCell_other h1.bk.dn (a := ⟨B, 3, none⟩) (owns_ne h1.bk.dn h1.bk.bk (by decide)) _
  · exact ownsRow_setCell_other h1.bk.en (a := ⟨B, 3, none⟩) (owns_ne h1.bk.en h1.bk.bk (by decide)) _
  · exact h1.ac.turn hT (fun b hb e => h1.bk.apart h1.ac (.inl e) hb)
  · have := h1.nd
    show (k.nd : Int) ≤ (s.na : Int) + s.ne + day + 1
    omega
  · intro i hi
    exact ownsRow_setCell_other (h1.lo i hi) (a := ⟨B, 3, none⟩) (owns_ne (h1.lo i hi) h1.bk.bk (by decide)) _
/-- Close. -/
theorem progClose (B : Nat) (s : St) (Fp : Nat → Prop) (day : Int) (into : ByteArray) (w : World) (h : ProgIs w B s Fp) (ho : s.Ok) :
    Calls Tryz.prog 32 #[.pointer (some ⟨B, 0, none⟩), .int .i64 day, .string into] w fun r w' => r = .returned (.tuple #[.int .i64 (s.closeN day into), .int .i64 (s.closeE day into)]) ∧ ∃ Fp', ProgIs w' B (s.afterClose day into) Fp' ∧ Turn Fp w w' ∧ ∀ b, Fp' b → Fp b ∨ w.heap.size ≤ b := by
  obtain ⟨k, kd, mm, ff, F, gl, cl, xa, xm, kk, h1, h2⟩ := id h
  have hna := ho.na
  have hne := ho.ne
  have hkna := h1.na
  have hkne := h1.ne
  have hul := h1.ul
  have hlk := ho.lk
  obtain ⟨ga, hat⟩ := h1.bk.at h1.ac
  have CF := find_any B ga k.ca k.na k.ada k.pa k.nm into w hat (by omega)
  have hN : s.closeE day into ≠ 0 → s.closeN day into = 0 := fun he => by unfold St.closeN; rw [if_neg he]
  have hbad : ∀ (E : Int) (P : Value), E ≠ 0 → s.closeE day into = E → findV k.pa k.nm k.na into = P → (∀ W, Below w.heap.size w W → Calls Tryz.prog 67 #[.pointer (some ⟨B, 0, none⟩), .int .i64 day, P] W fun r w' => r = .returned (.int .i64 E) ∧ Below W.heap.size W w') → Calls Tryz.prog 32 #[.pointer (some ⟨B, 0, none⟩), .int .i64 day, .string into] w fun r w' => r = .returned (.tuple #[.int .i64 (s.closeN day into), .int .i64 (s.closeE day into)]) ∧ ∃ Fp', ProgIs w' B (s.afterClose day into) Fp' ∧ Turn Fp w w' ∧ ∀ b, Fp' b → Fp b ∨ w.heap.size ≤ b := fun E P hE he hP CR => by
    rw [hP] at CF
    refine (CloseA_err B day E into P w hE CF CR).mono ?_
    rintro r w' ⟨rfl, hb⟩
    refine ⟨by rw [hN (by rw [he]; exact hE), he], Fp, ?_, Turn.of_below hb, fun b hk => .inl hk⟩
    unfold St.afterClose
    rw [if_neg (by rw [he]; exact hE)]
    exact h.turn (S := fun _ => False) (Turn.of_below hb) (fun _ _ h => h)
  have hthere : isAt k.nm k.na into = decide (0 ≤ atI s.fn s.na into) := congrFun h1.there into
  have hdl : decide (day < k.ul) = decide (day ≤ s.lk) := by rw [Bool.eq_iff_iff, decide_eq_true_iff, decide_eq_true_iff]; omega
  cases hi : isAt k.nm k.na into
  · have e0 : findV k.pa k.nm k.na into = .pointer none := by unfold findV; rw [hi]; rfl
    have hE : s.closeE day into = if dayB day then 7 else 5 := by
      have hf : s.closeF day into = if dayB day then 7 else 5 := by
        unfold St.closeF
        rw [← hthere, hi]
        cases dayB day <;> rfl
      unfold St.closeE
      rw [if_pos (by rw [hf]; cases dayB day <;> decide), hf]
    exact hbad _ _ (by cases dayB day <;> decide) hE e0 (fun W _ => refuseClose_nil B day W)
  · have e0 : findV k.pa k.nm k.na into = .pointer (some ⟨k.pa (lessN k.nm k.na into), 0, none⟩) := by unfold findV; rw [hi]; rfl
    obtain ⟨hp, hnm⟩ := isAt_eq hi
    have hat0 : 0 ≤ atI s.fn s.na into := of_decide_eq_true (hthere.symm.trans hi)
    have hkind : kd (lessN k.nm k.na into) = s.kd (atI s.fn s.na into).toNat := by
      rw [h1.ks _ (by rw [← hkna]; exact hp), hnm]
    obtain ⟨_, v0, hv0⟩ := h1.ac.acc hp
    have cK := blk_cell' hv0 (o := 1) rfl
    have cN := blk_cell' hv0 (o := 0) rfl
    rw [hnm] at cN
    rw [hkind] at cK
    have cE : w.cell? ⟨B, 2, none⟩ = some k.nv := blk_cell' h1.bk.bk (o := 2) rfl
    have cU : w.cell? ⟨B, 3, none⟩ = some (.int .i64 k.ul) := blk_cell' h1.bk.bk (o := 3) rfl
    -- what flowed
    obtain ⟨M, hM⟩ : ∃ M, M = (trA k.nm (fun i => enS s.dy s.la s.lm (k.nm i) day s.ln s.ne) k.na).filter (fun y => !(kd (lessN k.nm k.na y.1) == 0)) := ⟨_, rfl⟩
    have hMl : (trA k.nm (fun i => enS s.dy s.la s.lm (k.nm i) day s.ln s.ne) k.na).length ≤ 10 := by have := trA_len k.nm (fun i => enS s.dy s.la s.lm (k.nm i) day s.ln s.ne) k.na; omega
    have hknown : knownB (k.ne : Int) s.ne = true := by unfold knownB; rw [hkne]; simp
    have hFlow : dayB day = true → ∀ W, Below w.heap.size w W → Calls Tryz.prog 111 #[.pointer (some ⟨B, 0, none⟩), .int .i64 day] W fun r w' => ∃ v, r = .returned v ∧ Hid (w'.ownsRow W.heap.size 58 2 v M.length (cells2 M) ∧ Below W.heap.size W w') := fun hd W hW => by
      have hA' := h1.mv hW
      have hT := progTrialK hA' ho day (k.ne : Int) hd hknown
      rw [Int.toNat_natCast, hkne] at hT
      rw [hM]
      refine flowed_any B k kd mm ff F day _ W hA'.bk hA'.ac (by omega) (fun b hb => hA'.lt (.inr (.inl hb))) (by omega) (fun y hy => ?_) (by rw [hkne]; exact hT)
      obtain ⟨i, hi', rfl⟩ := List.mem_map.1 (List.mem_filter.1 hy).1
      have hi'' : i < k.na := by simpa using hi'
      exact (isAt_iff (by rw [hkna]; exact h1.ns.rise) _).2 ⟨i, hi'', rfl⟩
    -- it is what the state says, but for the order
    obtain ⟨fl, hfl⟩ : ∃ fl : ByteArray → Bool, fl = fun x => decide (s.kd (atI s.fn s.na x).toNat = 1) := ⟨_, rfl⟩
    have hclN : s.closeL0 day = closeN (s.sum day) fl ((List.range s.na).map s.fn) := by
      unfold St.closeL0
      refine closeL_names s.fn s.kd (s.sum day) fl s.na (fun i hi' => ?_)
      rw [hfl]
      have : atI s.fn s.na (s.fn i) = i := atI_found _ _ _ i hi' rfl (fun j hj e => ho.nm j i hj hi' (by rw [e]))
      simp only [this, Int.toNat_natCast]
    have hprog : negL M = closeN (s.sum day) fl ((List.range k.na).map k.nm) := by
      rw [hM]
      refine flow_names k.nm (s.sum day) _ fl (fun y => kd (lessN k.nm k.na y.1) == 0) k.na (fun i _ => rfl) (fun i hi' m => ?_)
      have hri : Rise k.nm k.na := by rw [hkna]; exact h1.ns.rise
      show (!(kd (lessN k.nm k.na (k.nm i)) == 0)) = fl (k.nm i)
      rw [lessN_at hri hi', h1.ks i (by rw [← hkna]; exact hi'), hfl]
      simp only
      have hat1 : 0 ≤ atI s.fn s.na (k.nm i) := by
        have := h1.ns.at (k.nm i)
        rw [(isAt_iff h1.ns.rise _).2 ⟨i, by rw [← hkna]; exact hi', rfl⟩] at this
        exact of_decide_eq_true this.symm
      rcases h1.kb _ (atI_at _ _ _ hat1).1 with e | e <;> rw [e] <;> rfl
    have hperm : (negL M).Perm (s.closeL0 day) := by
      rw [hclN, hprog]
      refine closeN_perm ?_
      have : (List.range k.na).map k.nm = nmS s.fn s.na := by rw [hkna]; exact h1.ns.same
      rw [this]
      exact nmS_perm s.fn s.na
    have hsum : sumL M = s.closeS day := sumL_close hperm
    have hemp : M.isEmpty = (s.closeL0 day).isEmpty := by
      have := hperm.length_eq
      unfold negL at this
      rw [List.length_map] at this
      cases hm : M with
      | nil => rw [hm] at this; cases hc : s.closeL0 day with
        | nil => rfl
        | cons a b => rw [hc] at this; simp at this
      | cons a b => rw [hm] at this; cases hc : s.closeL0 day with
        | nil => rw [hc] at this; simp at this
        | cons a b => rfl
    have hE : s.closeE day into = if closeE1 (dayB day) true (decide (s.kd (atI s.fn s.na into).toNat = 1)) (decide (day < k.ul)) ≠ 0 then closeE1 (dayB day) true (decide (s.kd (atI s.fn s.na into).toNat = 1)) (decide (day < k.ul)) else closeE2 M.isEmpty (decide (60 ≤ k.ne)) := by
      unfold St.closeE St.closeF
      rw [hdl, hemp, hkne, decide_eq_true hat0]
    have CR : ∀ W, Below w.heap.size w W → Calls Tryz.prog 67 #[.pointer (some ⟨B, 0, none⟩), .int .i64 day, .pointer (some ⟨k.pa (lessN k.nm k.na into), 0, none⟩)] W fun r w' => r = .returned (.int .i64 (s.closeE day into)) ∧ Below W.heap.size W w' := fun W hW => by
      rw [hE]
      exact refuseClose_some B _ k day _ M W (cell_later hW cK) (cell_later hW cE) (cell_later hW cU) (fun hd => hFlow hd W hW)
    by_cases he : s.closeE day into = 0
    · have he' := he
      unfold St.closeE at he'
      have hF0 : s.closeF day into = 0 := by
        by_cases hF : s.closeF day into = 0
        · exact hF
        · rw [if_pos hF] at he'; exact absurd he' hF
      rw [if_neg (by rw [hF0]; decide)] at he'
      have hz := closeE1_zero hF0
      have hy := closeE2_zero he'
      have hd' := dayB_yes hz.1
      have h3 : ¬ day ≤ s.lk := of_decide_eq_false hz.2.2.2
      have h4 : ¬ 60 ≤ s.ne := of_decide_eq_false hy.2
      have hkd0 : ¬ s.kd (atI s.fn s.na into).toNat = 1 := of_decide_eq_false hz.2.2.1
      have hok := St.afterClose_ok ho day into
      unfold St.afterClose at hok ⊢
      rw [if_pos he] at hok ⊢
      have hMe : M.isEmpty = false := hemp.trans hy.1
      have hM0 : 0 < M.length := by
        cases hm : M with
        | nil => rw [hm] at hMe; cases hMe
        | cons a b => simp
      have hML : M.length ≤ 10 := by rw [hM]; exact Nat.le_trans (List.length_filter_le _ _) hMl
      have hMb : ∀ j, j < M.length → -100000000000 ≤ lnM M j ∧ lnM M j ≤ 100000000000 := fun j hj => by
        have hmem : (M[j].1, - M[j].2) ∈ negL M := List.mem_map.2 ⟨M[j], List.getElem_mem hj, rfl⟩
        obtain ⟨i, hi', hk1, e⟩ := closeL_mem _ _ (hperm.mem_iff.1 hmem)
        injection e with e1 e2
        have hb := St.flow_bd ho (by omega : s.lk < day) hi' hk1
        have e3 := (lnA_at M j hj).2
        rw [e3]; omega
      have hclen : (closedL M into).length = (s.closeLs day into).length := by
        unfold closedL St.closeLs
        rw [List.length_append, List.length_append, hperm.length_eq, hsum]
      have hLperm : (closedL M into).Perm (s.closeLs day into) := by
        unfold closedL St.closeLs
        rw [hsum]
        exact hperm.append_right _
      have hne0 : 0 < (s.closeLs day into).length := hok.l1 s.ne (by show s.ne < s.ne + 1; omega) |> fun h => by
        have : (s.closed day into).ln s.ne = (s.closeLs day into).length := by show upd s.ln s.ne _ s.ne = _; rw [upd_same]
        rw [this] at h; exact h
      have htw : ∀ a b, a < b → b < (s.closeLs day into).length → (lnA (s.closeLs day into) a).toList ≠ (lnA (s.closeLs day into) b).toList := by
        have := hok.tw s.ne (by show s.ne < s.ne + 1; omega)
        have e1 : (s.closed day into).ln s.ne = (s.closeLs day into).length := by show upd s.ln s.ne _ s.ne = _; rw [upd_same]
        have e2 : (s.closed day into).la s.ne = lnA (s.closeLs day into) := by show upd s.la s.ne _ s.ne = _; rw [upd_same]
        rw [e1, e2] at this
        exact this
      have hl10 : (s.closeLs day into).length ≤ 10 := by
        have := hok.ln s.ne (by show s.ne < s.ne + 1; omega)
        have e1 : (s.closed day into).ln s.ne = (s.closeLs day into).length := by show upd s.ln s.ne _ s.ne = _; rw [upd_same]
        rw [e1] at this
        exact this
      have hcth : ∀ j, j < (s.closeLs day into).length → s.there (lnA (s.closeLs day into) j) = true := fun j hj => by
        have := hok.th s.ne (by show s.ne < s.ne + 1; omega) j (by show j < upd s.ln s.ne _ s.ne; rw [upd_same]; exact hj)
        have e2 : (s.closed day into).la s.ne = lnA (s.closeLs day into) := by show upd s.la s.ne _ s.ne = _; rw [upd_same]
        rw [e2] at this
        exact this
      have hcbd : ∀ j, j < (s.closeLs day into).length → -1000000000000 ≤ lnM (s.closeLs day into) j ∧ lnM (s.closeLs day into) j ≤ 1000000000000 := fun j hj => by
        have := hok.bd s.ne (by show s.ne < s.ne + 1; omega) j (by show j < upd s.ln s.ne _ s.ne; rw [upd_same]; exact hj)
        have e2 : (s.closed day into).lm s.ne = lnM (s.closeLs day into) := by show upd s.lm s.ne _ s.ne = _; rw [upd_same]
        rw [e2] at this
        exact this
      have hLP : (linesL (lnA (closedL M into)) (lnM (closedL M into)) (s.closeLs day into).length).Perm (linesL (lnA (s.closeLs day into)) (lnM (s.closeLs day into)) (s.closeLs day into).length) := by
        have e1 := linesL_ofL (closedL M into)
        rw [hclen] at e1
        rw [e1, linesL_ofL]; exact hLperm
      have hxin : ∀ l, l < (s.closeLs day into).length → isAt k.nm k.na (lnA (closedL M into) l) = true := fun l hl => by
        obtain ⟨i, hi', e1, _⟩ := perm_mem hLP hl
        rw [← e1, h1.there]; exact hcth i hi'
      have hxb : ∀ l, l < (s.closeLs day into).length → -1000000000000 ≤ lnM (closedL M into) l ∧ lnM (closedL M into) l ≤ 1000000000000 := fun l hl => by
        obtain ⟨i, hi', _, e2⟩ := perm_mem hLP hl
        rw [← e2]; exact hcbd i hi'
      have hxd := perm_two hLP htw
      have hfew := h1.few ho
      rw [he] at CR
      rw [e0] at CF
      have hcells : cells2 (closedL M into) = lineCells (lnA (closedL M into)) (lnM (closedL M into)) (s.closeLs day into).length := by
        rw [← hclen, lineCells_ofL]
      generalize hNe : (s.closeLs day into).length = N at *
      refine (CloseA_ok B N (k.ne + 1) day into into _ w (fun g c W => W.ownsRow w.heap.size 58 2 (.slice (some ⟨g, 0, none⟩) N c) N (lineCells (lnA (closedL M into)) (lnM (closedL M into)) N) ∧ Below w.heap.size w W) (fun w' => ∃ Fp', ProgIs w' B (s.closed day into) Fp' ∧ Turn Fp w w' ∧ ∀ b, Fp' b → Fp b ∨ w.heap.size ≤ b) CF CR (fun W hW => ?_) (fun g c W hr => ?_) hd').mono ?_
      · refine (closed_any B _ day into M W (cell_later hW cN) (by omega) hM0 hMb (fun W' hW' => hFlow hz.1 W' (hW.trans (hW'.mono hW.size)))).mono ?_
        rintro r w' ⟨g, c, rfl, hq⟩
        have h5 := hq.out.1
        rw [hclen, hcells] at h5
        refine ⟨g, c, by rw [hclen], owns_le h5 hW.size, hW.trans (hq.out.2.mono hW.size)⟩
      · have hA' := h1.mv hr.2
        obtain ⟨hLn, csn, hcn⟩ := linesK_lines hr.1 hne0
        refine (enterA_any B k 136 (.agg #[.int .i64 day, .slice (some ⟨g, 0, none⟩) N c, .string into]) day g N c (lnA (closedL M into)) (lnM (closedL M into)) kd mm ff F W csn (0, 0) hA'.bk hA'.ac (h1.ndb ho) (by omega) hLn hcn hl10 hxin (isAt_dis hxin hxd) (fun i hi => by have := hfew i hi; omega) hxb (by omega) (fun w => method_closing w _ _ _ _ _)).mono ?_
        rintro r w' ⟨rfl, hEn⟩
        refine ⟨rfl, ?_⟩
        obtain ⟨Fp', q1, q2, q3⟩ := prog_enter h1 hr.2 (e := .close into) (za := lnA (s.closeLs day into)) (zm := lnM (s.closeLs day into)) (gn' := upd s.gn s.ne false) (tx' := s.tx ++ (⟨#[99, 32]⟩ ++ ⟨(digZ day).toArray⟩ ++ ⟨#[32]⟩ ++ into) ++ ⟨#[10]⟩) hne0 hr.1 hLP ho htw hxin hEn (gn_plain h1 rfl) ⟨Int.le_refl _, by show (0 : Int) ≤ _; omega⟩
        obtain ⟨p1, p2, p3, p4⟩ := prog_lk q1 day (by show s.lk ≤ day; omega)
        refine ⟨_, p3, p4, Fp', ?_, ?_, fun b hb => (q3 b hb).elim (fun hb => .inl ((h2 b).2 hb)) .inr⟩
        · unfold St.closed
          rw [hNe]
          exact p1
        · have t1 : Turn Fp w w' := q2.mono (fun b _ hb => (h2 b).2 hb)
          refine ⟨p2.os.trans t1.os, p2.tape.trans t1.tape, p2.output.trans t1.output, Nat.le_trans t1.size p2.size, fun b hb hs => (p2.block b (Nat.lt_of_lt_of_le hb t1.size) (fun hF => ?_)).trans (t1.block b hb hs)⟩
          rcases q3 b hF with h' | h'
          · exact hs ((h2 b).2 h')
          · omega
      · rintro r w' ⟨rfl, hq⟩
        refine ⟨?_, ?_⟩
        · have : s.closeN day into = ((k.ne + 1 : Nat) : Int) := by unfold St.closeN; rw [if_pos he, hkne]; omega
          rw [he, this]
        · exact hq
    · exact hbad _ _ he rfl e0 CR
end Go.Proofs.YtjnmoddcodnadaaGreatDoor
namespace Go.Proofs.YtjnmoddcodnadaaGreatDoor
open Go.RowKit Go.Annal
set_option maxHeartbeats 1000000 in
theorem sameLen_any (a b : Option Addr) (n m c d : Nat) (w : World) (h : n ≠ m) :
    Calls Tryz.prog 87 #[.slice a n c, .slice b m d] w fun r w' => r = .returned (.bool false) ∧ w' = w := by
  have h' : ¬ (n : Int) = (m : Int) := by omega
  have h2 : ((n : Int) != (m : Int)) = true := by simpa using h'
  go_enter Tryz.func87, Tryz.ntmps87
  go_wp2
  go_ret
  exact ⟨rfl, rfl⟩
set_option maxHeartbeats 1000000 in
/-- Two lists of lines that are alike. -/
theorem sameLines_yes (ga gb n c d : Nat) (oa ob : Nat) (xa : Nat → ByteArray) (xm : Nat → Int) (w : World) (hA : LinesAt w ga oa n xa xm) (hB : LinesAt w gb ob n xa xm) (hn : n ≤ 1000) :
    Calls Tryz.prog 87 #[.slice (some ⟨ga, oa, none⟩) n c, .slice (some ⟨gb, ob, none⟩) n d] w fun r w' => r = .returned (.bool true) ∧ ∃ q, w' = w.drewN q := by
  go_enter Tryz.func87, Tryz.ntmps87
  go_wp2
  go_loopw [5] (fun iv wr => ∃ k q : Nat, k ≤ n ∧ iv = .int .i64 k ∧ wr = w.drewN q) (fun iv _ => n - (intOf iv).toNat)
  case atStart => exact ⟨0, 0, Nat.zero_le _, rfl, rfl⟩
  case round =>
    obtain ⟨k, q, hk, rfl, rfl⟩ := hrel
    by_cases hlt : k < n
    · have hlt' : (k : Int) < (n : Int) := by omega
      have hk0 : (0 : Int) ≤ (k : Int) := by omega
      have a0 := hA.ca k hlt
      have a1 := hA.cm k hlt
      have b0 := hB.ca k hlt
      have b1 := hB.cm k hlt
      go_wp2
      go_quiet (fail)
      go_wp2
      exact ⟨⟨k + 1, q + nq, by omega, by go_num, rfl⟩, by simp [intOf]; omega⟩
    · have hlt' : ¬ (k : Int) < (n : Int) := by omega
      go_wp2
      go_ret
      exact ⟨rfl, q, rfl⟩
/-- Items that lie at an address: n of them. -/
structure ItemsAt (w : World) (g o n : Nat) (e d a : Nat → Int) : Prop where
  ce : ∀ k, k < n → w.cell? ⟨g, o + k * 3, none⟩ = some (.int .i64 (e k))
  cd : ∀ k, k < n → w.cell? ⟨g, o + k * 3 + 1, none⟩ = some (.int .i64 (d k))
  ca : ∀ k, k < n → w.cell? ⟨g, o + k * 3 + 2, none⟩ = some (.int .i64 (a k))
set_option maxHeartbeats 1000000 in
/-- Two lists of items that are alike. -/
theorem sameItems_yes (ga gb n c d' : Nat) (oa ob : Nat) (e d a : Nat → Int) (w : World) (hA : ItemsAt w ga oa n e d a) (hB : ItemsAt w gb ob n e d a) (hn : n ≤ 1000) :
    Calls Tryz.prog 91 #[.slice (some ⟨ga, oa, none⟩) n c, .slice (some ⟨gb, ob, none⟩) n d'] w fun r w' => r = .returned (.bool true) ∧ ∃ q, w' = w.drewN q := by
  go_enter Tryz.func91, Tryz.ntmps91
  go_wp2
  go_loopw [5] (fun iv wr => ∃ k q : Nat, k ≤ n ∧ iv = .int .i64 k ∧ wr = w.drewN q) (fun iv _ => n - (intOf iv).toNat)
  case atStart => exact ⟨0, 0, Nat.zero_le _, rfl, rfl⟩
  case round =>
    obtain ⟨k, q, hk, rfl, rfl⟩ := hrel
    by_cases hlt : k < n
    · have hlt' : (k : Int) < (n : Int) := by omega
      have hk0 : (0 : Int) ≤ (k : Int) := by omega
      have a0 := hA.ce k hlt
      have a1 := hA.cd k hlt
      have a2 := hA.ca k hlt
      have b0 := hB.ce k hlt
      have b1 := hB.cd k hlt
      have b2 := hB.ca k hlt
      go_wp2
      go_quiet (fail)
      go_wp2
      exact ⟨⟨k + 1, q + nq, by omega, by go_num, rfl⟩, by simp [intOf]; omega⟩
    · have hlt' : ¬ (k : Int) < (n : Int) := by omega
      go_wp2
      go_ret
      exact ⟨rfl, q, rfl⟩
set_option maxHeartbeats 1000000 in
/-- Two lists of nothing. -/
theorem sameLines_none (a b : Option Addr) (c d : Nat) (w : World) :
    Calls Tryz.prog 87 #[.slice a 0 c, .slice b 0 d] w fun r w' => r = .returned (.bool true) ∧ w' = w := by
  go_enter Tryz.func87, Tryz.ntmps87
  go_wp2
  refine wp_loop_rounds 2 ?_; rw [rounds_succ]; go_wp2
  go_ret
  exact ⟨rfl, rfl⟩
set_option maxHeartbeats 1000000 in
theorem sameItems_none (a b : Option Addr) (c d : Nat) (w : World) :
    Calls Tryz.prog 91 #[.slice a 0 c, .slice b 0 d] w fun r w' => r = .returned (.bool true) ∧ w' = w := by
  go_enter Tryz.func91, Tryz.ntmps91
  go_wp2
  refine wp_loop_rounds 2 ?_; rw [rounds_succ]; go_wp2
  go_ret
  exact ⟨rfl, rfl⟩
end Go.Proofs.YtjnmoddcodnadaaGreatDoor
namespace Go.Proofs.YtjnmoddcodnadaaGreatDoor
open Go.RowKit Go.Annal
set_option maxHeartbeats 400000 in
theorem over_any (w : World) : Calls Tryz.prog 46 #[] w fun r w' => r = .returned (.agg #[.string ⟨#[111, 118, 101, 114]⟩, .int .i64 (-99)]) ∧ Grew w w' := by
  go_enter Tryz.func46, Tryz.ntmps46
  go_wp2
  refine bodyPost_ret (v := .agg #[.string ⟨#[111, 118, 101, 114]⟩, .int .i64 (-99)]) ?_ rfl ?_
  · simp [results, Tryz.f46]
    go_simp
  · exact ⟨rfl, (Grew.refl _).alloc _⟩
end Go.Proofs.YtjnmoddcodnadaaGreatDoor
namespace Go.Proofs.YtjnmoddcodnadaaGreatDoor
open Go.RowKit Go.Annal Go.Sort
/-- The types of the blocks of a program's book, and of a document's. -/
abbrev progK (t : TypeId) : Prop := t = 68 ∨ t = 132 ∨ t = 70 ∨ t = 181 ∨ t = 145 ∨ t = 193 ∨ t = 195 ∨ t = 58
abbrev docK (t : TypeId) : Prop := t = 103 ∨ t = 154 ∨ t = 158 ∨ t = 58
theorem ProgIs.kind {w : World} {B : Nat} {s : St} {Fp : Nat → Prop} (h : ProgIs w B s Fp) {b : Nat} (hb : Fp b) : ∃ cs t fz, w.heap[b]? = some (.cells cs t fz) ∧ progK t := by
  obtain ⟨k, kd, mm, ff, F, gl, cl, xa, xm, kk, h1, h2⟩ := h
  rcases (h2 b).1 hb with hb | hb | ⟨i, hi, rfl⟩
  · obtain ⟨cs, t, fz, hc, ht⟩ := h1.bk.kind hb
    exact ⟨cs, t, fz, hc, by rcases ht with rfl | rfl | rfl | rfl <;> decide⟩
  · obtain ⟨cs, t, hc, ht⟩ := h1.ac.kind hb
    exact ⟨cs, t, _, hc, by rcases ht with rfl | rfl | rfl <;> decide⟩
  · obtain ⟨c, fz, hc⟩ := owns_kind (h1.lo i hi) (gl i) rfl
    exact ⟨c, _, fz, hc, by decide⟩
def markB : ByteArray := ⟨#[109, 97, 114, 107]⟩
def overB : ByteArray := ⟨#[111, 118, 101, 114]⟩
/-- A list whose n elements all read alike, of sz cells each, in blocks of type e; P: what is known of its block. -/
def Full (w : World) (e : TypeId) (sz : Nat) (c : List Value) (P : Nat → Prop) (v : Value) : Prop :=
  ∃ ad n cap, v = .slice ad n cap ∧ n ≤ 2000000000 ∧ n ≤ cap ∧ (0 < n → ∃ g cs fz, ad = some ⟨g, 0, none⟩ ∧ w.heap[g]? = some (.cells cs e fz) ∧ P g ∧ ∀ k, k < n → ∀ o, o < sz → w.cell? ⟨g, k * sz + o, none⟩ = c[o]?)
theorem Full.turn {w w' : World} {e : TypeId} {sz : Nat} {c : List Value} {P P' : Nat → Prop} {v : Value} (h : Full w e sz c P v) {S : Nat → Prop} (ht : Turn S w w') (hs : ∀ g cs fz, w.heap[g]? = some (.cells cs e fz) → P g → ¬ S g) (hP : ∀ g, g < w.heap.size → P g → P' g) : Full w' e sz c P' v := by
  obtain ⟨ad, n, cap, rfl, h1, h2, h3⟩ := h
  refine ⟨ad, n, cap, rfl, h1, h2, fun hn => ?_⟩
  obtain ⟨g, cs, fz, rfl, hg, hp, hc⟩ := h3 hn
  have hb := ht.block g (blk_lt hg) (hs g cs fz hg hp)
  exact ⟨g, cs, fz, rfl, hb.trans hg, hP g (blk_lt hg) hp, fun k hk o ho => (World.cell?_of_block (w := w) (a := ⟨g, k * sz + o, none⟩) hb).trans (hc k hk o ho)⟩
/-- All that a script has made. -/
structure Ls where
  nb : Nat
  B : Nat → Nat
  R : Nat → Nat
  st : Nat → St
  Fp : Nat → Nat → Prop
  Fd : Nat → Nat → Prop
  nl : Nat
  lv : Nat → Value
  lm : Nat → Int
  ni : Nat
  iv : Nat → Value
  im : Nat → Int
  nt : Nat
  tv : Nat → Value
  vb : Value
  vl : Value
  vi : Value
  vt : Value
  v0 : Value
  v1 : Value
def Ls.apart (d : Ls) (g : Nat) : Prop := ∀ j, j < d.nb → ¬ (d.Fd j g ∨ d.Fp j g)
def pairCells (B R : Nat → Nat) (n : Nat) : List Value := (List.range n).flatMap (fun i => [.pointer (some ⟨B i, 0, none⟩), .pointer (some ⟨R i, 0, none⟩)])
structure LawIs (H : Nat) (w : World) (L : Nat) (d : Ls) : Prop where
  lo : H ≤ L
  bk : w.heap[L]? = some (.cells #[d.vb, d.vl, d.vi, d.vt, d.v0, d.v1] 52 (0, 0))
  rb : w.ownsRow H 94 2 d.vb d.nb (pairCells d.B d.R d.nb)
  rl : w.ownsRow H 54 1 d.vl d.nl ((List.range d.nl).map d.lv)
  ri : w.ownsRow H 104 1 d.vi d.ni ((List.range d.ni).map d.iv)
  rt : w.ownsRow H 54 1 d.vt d.nt ((List.range d.nt).map d.tv)
  r0 : w.ownsRow H 3 1 d.v0 d.nl ((List.range d.nl).map (fun i => .int .i64 (d.lm i)))
  r1 : w.ownsRow H 3 1 d.v1 d.ni ((List.range d.ni).map (fun i => .int .i64 (d.im i)))
  a1 : ∀ k, d.vl.ownBlock = some k → d.vt.ownBlock ≠ some k
  a2 : ∀ k, d.v0.ownBlock = some k → d.v1.ownBlock ≠ some k
  pr : ∀ i, i < d.nb → ProgIs w (d.B i) (d.st i) (d.Fp i)
  dc : ∀ i, i < d.nb → DocIs w (d.R i) (d.st i) (d.Fd i)
  ok : ∀ i, i < d.nb → (d.st i).Ok
  pp : ∀ i j k, i < d.nb → j < d.nb → i ≠ j → d.Fp i k → ¬ d.Fp j k
  dd : ∀ i j k, i < d.nb → j < d.nb → i ≠ j → d.Fd i k → ¬ d.Fd j k
  pd : ∀ i j k, i < d.nb → j < d.nb → d.Fp i k → ¬ d.Fd j k
  pH : ∀ i k, i < d.nb → d.Fp i k → H ≤ k
  dH : ∀ i k, i < d.nb → d.Fd i k → H ≤ k
  cl : ∀ i, i < d.nl → Full w 58 2 [.string markB, .int .i64 (d.lm i)] d.apart (d.lv i)
  ci : ∀ i, i < d.ni → Full w 106 3 [.int .i64 (d.im i), .int .i64 (d.im i), .int .i64 (d.im i)] d.apart (d.iv i)
  ct : ∀ i, i < d.nt → Full w 58 2 [.string overB, .int .i64 (-99)] d.apart (d.tv i)
theorem LawIs.mv {H : Nat} {w w' : World} {L : Nat} {d : Ls} (h : LawIs H w L d) (hb : Below w.heap.size w w') : LawIs H w' L d := by
  have ht : Turn (fun _ => False) w w' := Turn.of_below hb
  exact ⟨h.lo, ht.blk h.bk (fun h => h), owns_turn h.rb ht (fun _ _ h => h), owns_turn h.rl ht (fun _ _ h => h), owns_turn h.ri ht (fun _ _ h => h), owns_turn h.rt ht (fun _ _ h => h), owns_turn h.r0 ht (fun _ _ h => h), owns_turn h.r1 ht (fun _ _ h => h), h.a1, h.a2,
    fun i hi => (h.pr i hi).turn ht (fun _ _ h => h), fun i hi => (h.dc i hi).turn ht (fun _ _ h => h), h.ok, h.pp, h.dd, h.pd, h.pH, h.dH, fun i hi => (h.cl i hi).turn ht (fun _ _ _ _ _ h => h) (fun _ _ h => h), fun i hi => (h.ci i hi).turn ht (fun _ _ _ _ _ h => h) (fun _ _ h => h), fun i hi => (h.ct i hi).turn ht (fun _ _ _ _ _ h => h) (fun _ _ h => h)⟩
end Go.Proofs.YtjnmoddcodnadaaGreatDoor
namespace Go.Proofs.YtjnmoddcodnadaaGreatDoor
open Go.RowKit Go.Annal Go.Sort
theorem range_map_get (f : Nat → Value) (n i : Nat) (h : i < n) : ((List.range n).map f)[i]? = some (f i) := by simp [h]
/-- What is read of a row. -/
theorem owns_view {w : World} {B : Nat} {e : TypeId} {sz : Nat} {v : Value} {n : Nat} {xs : List Value} (h : w.ownsRow B e sz v n xs) : ∃ ad cap g, v = .slice ad n cap ∧ n ≤ cap ∧ (0 < n → ad = some ⟨g, 0, none⟩ ∧ B ≤ g ∧ ∃ cs, w.heap[g]? = some (.cells cs e (0, 0))) ∧ ∀ j, j < n * sz → w.cell? ⟨g, j, none⟩ = xs[j]? := by
  rcases h.2 with ⟨rfl, rfl⟩ | ⟨g, cap, cur, rfl, hb, hg, hnc, hcm, hcs, htk⟩
  · exact ⟨none, 0, 0, rfl, Nat.le_refl _, fun h => by omega, fun j hj => by omega⟩
  · refine ⟨_, cap, g, rfl, hnc, fun _ => ⟨rfl, hb, _, hg⟩, fun j hj => ?_⟩
    have h1 : n * sz ≤ cap * sz := Nat.mul_le_mul_right _ hnc
    have hjc : j < cur.size := by omega
    rw [← htk, List.getElem?_take, if_pos hj, Array.getElem?_toList, blk_cell' (o := j) hg (Array.getElem?_eq_getElem hjc), Array.getElem?_eq_getElem hjc]
set_option maxHeartbeats 4000000 in
set_option maxRecDepth 100000 in
theorem looks_any (H : Nat) (w : World) (L : Nat) (d : Ls) (h : LawIs H w L d) (hl : d.nl ≤ 100000000) (hi : d.ni ≤ 100000000) (ht : d.nt ≤ 100000000) :
    Calls Tryz.prog 18 #[.pointer (some ⟨L, 0, none⟩)] w fun r w' => r = .returned (.bool true) ∧ Below w.heap.size w w' := by
  obtain ⟨adl, cl, gl, el, cle, hal, hcl⟩ := owns_view h.rl
  obtain ⟨adi, ci, gi, ei, cie, hai, hci⟩ := owns_view h.ri
  obtain ⟨adt, ct, gt, et, cte, hat, hct⟩ := owns_view h.rt
  obtain ⟨ad0, c0, g0, e0, c0e, ha0, hc0⟩ := owns_view h.r0
  obtain ⟨ad1, c1, g1, e1, c1e, ha1, hc1⟩ := owns_view h.r1
  have hbk := h.bk
  rw [el, ei, et, e0, e1] at hbk
  have HL := h.cl
  have HI := h.ci
  have HT := h.ct
  have x1 := blk_cell' hbk (o := 1) rfl
  have x2 := blk_cell' hbk (o := 2) rfl
  have x3 := blk_cell' hbk (o := 3) rfl
  have x4 := blk_cell' hbk (o := 4) rfl
  have x5 := blk_cell' hbk (o := 5) rfl
  have HH : Hid (type_of% h) := h
  clear h hbk el ei et e0 e1
  go_enter Tryz.func18, Tryz.ntmps18
  go_wp2
  go_loopw [3, 4] (fun iv _ wr => ∃ k : Nat, k ≤ d.nl ∧ iv = .int .i64 k ∧ Grew w wr) (fun iv _ _ => d.nl - (intOf iv).toNat)
  case atStart => exact ⟨0, Nat.zero_le _, rfl, Grew.refl _⟩
  case round =>
    obtain ⟨i, hi', rfl, hg⟩ := hrel
    have y1 := hg.cell' x1
    by_cases hlt : i < d.nl
    · have hlt' : (i : Int) < (d.nl : Int) := by omega
      have hi0 : (0 : Int) ≤ (i : Int) := by omega
      obtain ⟨rfl, _, _⟩ := hal (by omega)
      obtain ⟨rfl, _, _⟩ := ha0 (by omega)
      have y4 := hg.cell' x4
      have z1 := hg.cell' ((hcl i (by omega)).trans (range_map_get _ _ _ hlt))
      have z4 := hg.cell' ((hc0 i (by omega)).trans (range_map_get _ _ _ hlt))
      obtain ⟨ad, n, cap, ev, hn, hnc, hfull⟩ := HL i hlt
      rw [ev] at z1
      go_wp2
      rename World => wo
      go_loopw [4] (fun kv w2 => ∃ k : Nat, k ≤ n ∧ kv = .int .i64 k ∧ Grew wo w2) (fun kv _ => n - (intOf kv).toNat)
      case atStart => exact ⟨0, Nat.zero_le _, rfl, Grew.refl _⟩
      case round =>
        obtain ⟨k, hk, rfl, hg2⟩ := hrel
        have u1 := hg2.cell' y1
        have v1 := hg2.cell' z1
        by_cases hkn : k < n
        · have hkn' : (k : Int) < (n : Int) := by omega
          have hk0 : (0 : Int) ≤ (k : Int) := by omega
          have u4 := hg2.cell' y4
          have v4 := hg2.cell' z4
          obtain ⟨gg, cs, fz, rfl, _, _, hcc⟩ := hfull (by omega)
          have q0 : wr.cell? ⟨gg, k * 2, none⟩ = some (.string ⟨#[109, 97, 114, 107]⟩) := hg2.cell' (hg.cell' (hcc k hkn 0 (by omega)))
          have q1 : wr.cell? ⟨gg, k * 2 + 1, none⟩ = some (.int .i64 (d.lm i)) := hg2.cell' (hg.cell' (hcc k hkn 1 (by omega)))
          have v1' : wr.cell? ⟨gl, i, none⟩ = some (.slice (some ⟨gg, 0, none⟩) n cap) := v1
          have v4' : wr.cell? ⟨g0, i, none⟩ = some (.int .i64 (d.lm i)) := v4
          clear v1 v4 hcc hcl hci hct hc0 hc1
          go_wp2
          go_quiet (fail)
          go_wp2
          exact ⟨⟨k + 1, by omega, by go_num, hg2.drewN _⟩, by simp [intOf]; omega⟩
        · have hkn' : ¬ (k : Int) < (n : Int) := by omega
          go_wp2
          exact ⟨⟨i + 1, by omega, by go_num, hg.trans hg2⟩, by simp [intOf]; omega⟩
    · have hlt' : ¬ (i : Int) < (d.nl : Int) := by omega
      clear hcl hc0 HL
      go_wp2
      rename World => wa
      have hga := hg
      clear hg
      go_loopw [5, 6, 7] (fun iv _ _ wr => ∃ k : Nat, k ≤ d.ni ∧ iv = .int .i64 k ∧ Grew w wr) (fun iv _ _ _ => d.ni - (intOf iv).toNat)
      case atStart => exact ⟨0, Nat.zero_le _, rfl, hga⟩
      case round =>
        clear hga
        obtain ⟨i, hi', rfl, hg⟩ := hrel
        have y2 := hg.cell' x2
        by_cases hlt : i < d.ni
        · have hlt' : (i : Int) < (d.ni : Int) := by omega
          have hi0 : (0 : Int) ≤ (i : Int) := by omega
          obtain ⟨rfl, _, _⟩ := hai (by omega)
          obtain ⟨rfl, _, _⟩ := ha1 (by omega)
          have y5 := hg.cell' x5
          have z2 := hg.cell' ((hci i (by omega)).trans (range_map_get _ _ _ hlt))
          have z5 : wr.cell? ⟨g1, i, none⟩ = some (.int .i64 (d.im i)) := hg.cell' ((hc1 i (by omega)).trans (range_map_get _ _ _ hlt))
          obtain ⟨ad, n, cap, ev, hn, hnc, hfull⟩ := HI i hlt
          rw [ev] at z2
          clear hci hc1 hct
          go_wp2
          rename World => wo
          go_loopw [7] (fun kv w2 => ∃ k : Nat, k ≤ n ∧ kv = .int .i64 k ∧ Grew wo w2) (fun kv _ => n - (intOf kv).toNat)
          case atStart => exact ⟨0, Nat.zero_le _, rfl, Grew.refl _⟩
          case round =>
            obtain ⟨k, hk, rfl, hg2⟩ := hrel
            have u2 := hg2.cell' y2
            have v2 := hg2.cell' z2
            by_cases hkn : k < n
            · have hkn' : (k : Int) < (n : Int) := by omega
              have hk0 : (0 : Int) ≤ (k : Int) := by omega
              obtain ⟨gg, cs, fz, rfl, _, _, hcc⟩ := hfull (by omega)
              have q0 : wr.cell? ⟨gg, k * 3, none⟩ = some (.int .i64 (d.im i)) := hg2.cell' (hg.cell' (hcc k hkn 0 (by omega)))
              have q1 : wr.cell? ⟨gg, k * 3 + 1, none⟩ = some (.int .i64 (d.im i)) := hg2.cell' (hg.cell' (hcc k hkn 1 (by omega)))
              have q2 : wr.cell? ⟨gg, k * 3 + 2, none⟩ = some (.int .i64 (d.im i)) := hg2.cell' (hg.cell' (hcc k hkn 2 (by omega)))
              have v2' : wr.cell? ⟨gi, i, none⟩ = some (.slice (some ⟨gg, 0, none⟩) n cap) := v2
              clear v2 hcc
              go_wp2
              exact ⟨⟨k + 1, by omega, by go_num, hg2⟩, by simp [intOf]; omega⟩
            · have hkn' : ¬ (k : Int) < (n : Int) := by omega
              go_wp2
              exact ⟨⟨i + 1, by omega, by go_num, hg.trans hg2⟩, by simp [intOf]; omega⟩
        · have hlt' : ¬ (i : Int) < (d.ni : Int) := by omega
          clear hci hc1 HI
          go_wp2
          rename World => wb
          have hgb := hg
          clear hg
          go_loopw [8, 9] (fun iv _ wr => ∃ k : Nat, k ≤ d.nt ∧ iv = .int .i64 k ∧ Grew w wr) (fun iv _ _ => d.nt - (intOf iv).toNat)
          case atStart => exact ⟨0, Nat.zero_le _, rfl, hgb⟩
          case round =>
            clear hgb
            obtain ⟨i, hi', rfl, hg⟩ := hrel
            have y3 := hg.cell' x3
            by_cases hlt : i < d.nt
            · have hlt' : (i : Int) < (d.nt : Int) := by omega
              have hi0 : (0 : Int) ≤ (i : Int) := by omega
              obtain ⟨rfl, _, _⟩ := hat (by omega)
              have z3 := hg.cell' ((hct i (by omega)).trans (range_map_get _ _ _ hlt))
              obtain ⟨ad, n, cap, ev, hn, hnc, hfull⟩ := HT i hlt
              rw [ev] at z3
              clear hct
              go_wp2
              rename World => wo
              go_loopw [9] (fun kv w2 => ∃ k : Nat, k ≤ n ∧ kv = .int .i64 k ∧ Grew wo w2) (fun kv _ => n - (intOf kv).toNat)
              case atStart => exact ⟨0, Nat.zero_le _, rfl, Grew.refl _⟩
              case round =>
                obtain ⟨k, hk, rfl, hg2⟩ := hrel
                have u3 := hg2.cell' y3
                have v3 := hg2.cell' z3
                by_cases hkn : k < n
                · have hkn' : (k : Int) < (n : Int) := by omega
                  have hk0 : (0 : Int) ≤ (k : Int) := by omega
                  obtain ⟨gg, cs, fz, rfl, _, _, hcc⟩ := hfull (by omega)
                  have q0 : wr.cell? ⟨gg, k * 2, none⟩ = some (.string ⟨#[111, 118, 101, 114]⟩) := hg2.cell' (hg.cell' (hcc k hkn 0 (by omega)))
                  have q1 : wr.cell? ⟨gg, k * 2 + 1, none⟩ = some (.int .i64 (-99)) := hg2.cell' (hg.cell' (hcc k hkn 1 (by omega)))
                  have v3' : wr.cell? ⟨gt, i, none⟩ = some (.slice (some ⟨gg, 0, none⟩) n cap) := v3
                  clear v3 hcc
                  go_wp2
                  have hgd : Grew wr wr.drew := (Grew.refl _).drew
                  go_region_with (go_at_call 46; refine Calls.mono (over_any _) ?_; rintro e w5 ⟨rfl, hg5⟩; have h5 := hgd.trans hg5; have u3' := h5.cell' u3; have q0' := h5.cell' q0; have q1' := h5.cell' q1; have v3'' := h5.cell' v3')
                  all_goals go_wp2
                  all_goals exact ⟨⟨k + 1, by omega, by go_num, hg2.trans h5⟩, by simp [intOf]; omega⟩
                · have hkn' : ¬ (k : Int) < (n : Int) := by omega
                  go_wp2
                  exact ⟨⟨i + 1, by omega, by go_num, hg.trans hg2⟩, by simp [intOf]; omega⟩
            · have hlt' : ¬ (i : Int) < (d.nt : Int) := by omega
              go_wp2
              go_ret
              exact ⟨rfl, hg.below⟩
end Go.Proofs.YtjnmoddcodnadaaGreatDoor
namespace Go.Annal
open Go.RowKit Go.Proofs
section
variable {P : Program} (w : World)
/-- append, and what was there still reads as it did. -/
theorem run_append_keep (t ty : TypeId) (base : Nat) (e : TypeId) (i : TypeInfo) (z : Value) (size bytes : Nat) (ht : P.underlying t = some (.slice e)) (hi : P.info? e = some i) (hz : i.zero = some z)
    (hsize : i.size = size) (hby : i.bytes = bytes) (hzs : z.cells.size = size) (hsz : 0 < size)
    (v : Value) (n : Nat) (xs : List Value) (hown : w.ownsRow base e size v n xs)
    (ad : Addr) (m c : Nat) (news : List Value) (hl : news.length = m * size) (hnews : ∀ j u, news[j]? = some u → w.cell? (ad.add j) = some u) (h1 : ∀ u ∈ news, u.oneCell' = true)
    (hm : 0 < m) (h63 : n + m ≤ maxLen) (hbytes : (n + m) * bytes ≤ 140737488355328) (hbase : base ≤ w.heap.size) (H : Nat) (hH : w.heap.size = H) :
    ∃ g cap w', (Builtin.append_ #[t, t] ty #[v, .slice (some ad) m c]).run P w = .ok (.slice (some ⟨g, 0, none⟩) (n + m) cap) w' ∧
      w'.ownsRow base e size (.slice (some ⟨g, 0, none⟩) (n + m) cap) (n + m) (xs ++ news) ∧ w.grownBy w' v.ownBlock ∧ (v.ownBlock = some g ∨ g = H) ∧ g < w'.heap.size ∧ w'.ownsRow base e size v n xs ∧ (v.ownBlock = some g ∨ ∀ k, k < w.heap.size → w'.heap[k]? = w.heap[k]?) := by
  obtain ⟨g, cap, w', hr, h2, h3, h4, h5⟩ := run_append_lies (P := P) w t ty base e i z size bytes ht hi hz hsize hby hzs hsz v n xs hown ad m c news hl hnews h1 hm h63 hbytes hbase H hH
  refine ⟨g, cap, w', hr, h2, h3, h4, h5, ?_⟩
  have hsmall : n + m ≤ 9223372036854775807 := by simp only [maxLen] at h63; omega
  rcases hown.2 with ⟨rfl, rfl⟩ | ⟨g0, cap0, cur, rfl, hbg, hg, hnc, hcm, hcs, htake⟩
  · exact ⟨⟨hown.1, .inl ⟨rfl, rfl⟩⟩, .inr (fun k hk => h3.block k hk (by simp [Value.ownBlock]))⟩
  · by_cases hroom : n + m ≤ cap0
    · have hfit : n * i.size + news.length ≤ cur.size := by rw [hl, hcs, hsize, ← Nat.add_mul]; exact Nat.mul_le_mul_right _ hroom
      have hr' := run_append_room (P := P) w t ty e i ht hi g0 n cap0 cur hg ad m c news (by rw [hsize]; exact hl) hnews h1 hroom hfit
      rw [hr] at hr'
      injection hr' with e1 e2
      refine ⟨⟨hown.1, .inr ⟨g0, cap0, _, rfl, hbg, by rw [e2]; exact setRow_heap w g0 cur _ e _ hg, hnc, hcm, ?_, ?_⟩⟩, .inl (by injection e1 with e1; have := congrArg (Option.map Addr.block) e1; simpa [Value.ownBlock] using this.symm)⟩
      · simp only [List.size_toArray, List.length_append, List.length_take, List.length_drop, Array.length_toList]
        omega
      · rw [hsize]
        show List.take (n * size) (List.take (n * size) cur.toList ++ news ++ List.drop (n * size + news.length) cur.toList) = xs
        rw [htake, List.append_assoc]
        have := hown.1
        rw [← this]
        exact List.take_left
    · have holds : ∀ j u, xs[j]? = some u → w.cell? ((⟨g0, 0, none⟩ : Addr).add j) = some u := hown.cells (g := g0) rfl
      have hr' := run_append_grow (P := P) w t ty e i z ht hi hz ⟨g0, 0, none⟩ n cap0 xs (by rw [hsize]; exact hown.1) holds ad m c news (by rw [hsize]; exact hl) hnews (by omega) (by omega) (by rw [hby]; exact growslice_fits (by omega) hbytes)
      rw [hr] at hr'
      injection hr' with _ e2
      have hk : ∀ k, k < w.heap.size → w'.heap[k]? = w.heap[k]? := fun k hk => by rw [e2]; exact heap_alloc_old w.drew _ hk
      exact ⟨⟨hown.1, .inr ⟨g0, cap0, cur, rfl, hbg, (hk g0 (blk_lt hg)).trans hg, hnc, hcm, hcs, htake⟩⟩, .inr hk⟩
theorem wp_append_keep {o : Oper} {a : Act} {K : Act → World → Prop} {Q : Exit → Act → World → Prop} (s x : Operand) (t : TypeId)
    (ho : o.op = .call { callee := .builtin .append, args := #[s, x], argTypes := #[t, t] })
    (base : Nat) (e : TypeId) (i : TypeInfo) (z : Value) (size bytes : Nat) (ht : P.underlying t = some (.slice e)) (hi : P.info? e = some i) (hz : i.zero = some z)
    (hsize : i.size = size) (hby : i.bytes = bytes) (hzs : z.cells.size = size) (hsz : 0 < size)
    (v : Value) (n : Nat) (xs : List Value) (hs : a.eval s = v) (hown : w.ownsRow base e size v n xs)
    (ad : Addr) (m c : Nat) (news : List Value) (hx : a.eval x = .slice (some ad) m c) (hl : news.length = m * size) (hnews : ∀ j u, news[j]? = some u → w.cell? (ad.add j) = some u) (h1 : ∀ u ∈ news, u.oneCell' = true)
    (hm : 0 < m) (h63 : n + m ≤ maxLen) (hbytes : (n + m) * bytes ≤ 140737488355328) (hbase : base ≤ w.heap.size) (H : Nat) (hH : w.heap.size = H)
    (h : ∀ g cap w', w'.ownsRow base e size (.slice (some ⟨g, 0, none⟩) (n + m) cap) (n + m) (xs ++ news) → w.grownBy w' v.ownBlock → (v.ownBlock = some g ∨ g = H) → g < w'.heap.size → w'.ownsRow base e size v n xs → (v.ownBlock = some g ∨ ∀ k, k < w.heap.size → w'.heap[k]? = w.heap[k]?) → K (a.put o.dst (.slice (some ⟨g, 0, none⟩) (n + m) cap)) w') : o.wp P a w K Q := by
  obtain ⟨g, cap, w', hr, h2, h3, h4, h5, h6, h7⟩ := run_append_keep (P := P) w t o.type base e i z size bytes ht hi hz hsize hby hzs hsz v n xs hown ad m c news hl hnews h1 hm h63 hbytes hbase H hH
  unfold Oper.wp execOp
  simp only [ho, resolve, invoke, builtin, Sem.run_bind, Sem.run_pure, Result.andThen_ok, List.map_toArray, List.map_cons, List.map_nil, hs, hx, hr]
  exact h g cap w' h2 h3 h4 h5 h6 h7
theorem wpList_append_keep {ops : Array Oper} {rest : List Oper} {o : Oper} {a : Act} {Q : Exit → Act → World → Prop} (hgd : o.guard = none) (s x : Operand) (t : TypeId)
    (ho : o.op = .call { callee := .builtin .append, args := #[s, x], argTypes := #[t, t] })
    (base : Nat) (e : TypeId) (i : TypeInfo) (z : Value) (size bytes : Nat) (ht : P.underlying t = some (.slice e)) (hi : P.info? e = some i) (hz : i.zero = some z)
    (hsize : i.size = size) (hby : i.bytes = bytes) (hzs : z.cells.size = size) (hsz : 0 < size)
    (v : Value) (n : Nat) (xs : List Value) (hs : a.eval s = v) (hown : w.ownsRow base e size v n xs)
    (ad : Addr) (m c : Nat) (news : List Value) (hx : a.eval x = .slice (some ad) m c) (hl : news.length = m * size) (hnews : ∀ j u, news[j]? = some u → w.cell? (ad.add j) = some u) (h1 : ∀ u ∈ news, u.oneCell' = true)
    (hm : 0 < m) (h63 : n + m ≤ maxLen) (hbytes : (n + m) * bytes ≤ 140737488355328) (hbase : base ≤ w.heap.size) (H : Nat) (hH : w.heap.size = H)
    (h : ∀ g cap w', w'.ownsRow base e size (.slice (some ⟨g, 0, none⟩) (n + m) cap) (n + m) (xs ++ news) → w.grownBy w' v.ownBlock → (v.ownBlock = some g ∨ g = H) → g < w'.heap.size → w'.ownsRow base e size v n xs → (v.ownBlock = some g ∨ ∀ k, k < w.heap.size → w'.heap[k]? = w.heap[k]?) → wpList P ops Q rest (a.put o.dst (.slice (some ⟨g, 0, none⟩) (n + m) cap)) w') : wpList P ops Q (o :: rest) a w :=
  wpList_plain hgd fun _ hK => wp_append_keep w s x t ho base e i z size bytes ht hi hz hsize hby hzs hsz v n xs hs hown ad m c news hx hl hnews h1 hm h63 hbytes hbase H hH fun g cap w' h2 h3 h4 h5 h6 h7 => hK _ _ (h g cap w' h2 h3 h4 h5 h6 h7)
end
end Go.Annal
