import Derived.Test.YtjnmoddcodnadaaGreatG25
set_option linter.unusedVariables false
set_option linter.unusedSimpArgs false
namespace Go.Annal
open Go.Proofs.YtjnmoddcodnadaaGreat
theorem dayB_small {d : Int} (h0 : 0 ≤ d) (h1 : d ≤ 12) : dayB d = true := by
  unfold dayB; simp; omega
theorem KOk.postE {s : St} (h : KOk s) (q : K5) {day : Int} (h0 : 0 ≤ day) (h1 : day ≤ 12) (hn : s.ne < 60) : s.postE day (lsA q) (lsM q) (lsN q) = if day ≤ s.lk then 11 else 0 := by
  unfold St.postE
  rw [dayB_small h0 h1, ls_wrong h q, decide_eq_false (show ¬ 60 ≤ s.ne by omega)]
  by_cases hl : day ≤ s.lk
  · rw [if_pos hl, decide_eq_true hl]; rfl
  · rw [if_neg hl, decide_eq_false hl]; rfl
theorem KOk.lockE {s : St} (_h : KOk s) {day : Int} (h0 : 0 ≤ day) (h1 : day ≤ 12) : s.lockE day = if day ≤ s.lk then 11 else 0 := by
  unfold St.lockE
  rw [dayB_small h0 h1]
  by_cases hl : day ≤ s.lk
  · rw [if_pos hl, decide_eq_true hl]; rfl
  · rw [if_neg hl, decide_eq_false hl]; rfl
theorem KOk.revE {s : St} (h : KOk s) {entry : Int} (h0 : 1 ≤ entry) (h1 : entry ≤ s.ne) (hn : s.ne < 60) : s.revE entry = if s.gn (entry - 1).toNat then 12 else 0 := by
  unfold St.revE
  have hd := h.dd (entry - 1).toNat (by omega)
  have hl := h.lk
  have hr : ¬ 9999 < revDay (s.dy (entry - 1).toNat) s.lk := by unfold revDay; split <;> omega
  rw [decide_eq_true ⟨h0, h1⟩, decide_eq_false hr, decide_eq_false (show ¬ 60 ≤ s.ne by omega)]
  cases s.gn (entry - 1).toNat <;> rfl
theorem KOk.closeE {s : St} (h : KOk s) {day : Int} (h0 : 0 ≤ day) (h1 : day ≤ 12) {i : Nat} (hi : i < 3) (hn : s.ne < 60) : s.closeE day (nmK i) = if day ≤ s.lk then 11 else if (s.closeL0 day).isEmpty then 7 else 0 := by
  have hf : s.closeF day (nmK i) = if day ≤ s.lk then 11 else 0 := by
    unfold St.closeF
    rw [h.at (show i < 6 by omega), dayB_small h0 h1, Int.toNat_natCast, h.kd i (by omega), if_pos hi, decide_eq_true (show (0 : Int) ≤ (i : Int) by omega), decide_eq_false (show ¬ (0 : Int) = 1 by decide)]
    by_cases hl : day ≤ s.lk
    · rw [if_pos hl, decide_eq_true hl]; rfl
    · rw [if_neg hl, decide_eq_false hl]; rfl
  unfold St.closeE
  rw [decide_eq_false (show ¬ 60 ≤ s.ne by omega)]
  by_cases hl : day ≤ s.lk
  · simp [hf, hl]
  · simp only [hf, if_neg hl]
    cases (s.closeL0 day).isEmpty <;> rfl
end Go.Annal
namespace Go.Proofs.YtjnmoddcodnadaaGreat
open Go.RowKit Go.Annal Go.Sort
/-- What a step makes of a run. -/
def SteppedTo (w w' : World) (R B : Nat) (t : St) (Fp : Nat → Prop) : Prop := ∃ Fp', RunIs w' R B t Fp' ∧ Turn (fun b => b = R ∨ Fp b) w w' ∧ (∀ b, Fp' b → Fp b ∨ w.heap.size ≤ b)
theorem linesV_owns {w : World} {base : Nat} {v : Value} {n : Nat} {ya : Nat → ByteArray} {ym : Nat → Int} (h : w.ownsRow base 47 2 v n (lineCells ya ym n)) (h0 : 0 < n) (hn : n ≤ 1000) (hs : ∀ k, k < n → (ya k).size ≤ 1000) : ∃ g c, v = .slice (some ⟨g, 0, none⟩) n c ∧ LinesV w (some ⟨g, 0, none⟩) n c ya ym := by
  obtain ⟨g, c, rfl, _, hc, hL, _⟩ := owns_lines h h0
  exact ⟨g, c, rfl, hc, by omega, fun k hk => by have := hs k hk; omega, fun _ => ⟨g, 0, rfl, hL⟩⟩
theorem stepped_same {w w' : World} {R B : Nat} {s : St} {Fp : Nat → Prop} (h : RunIs w R B s Fp) (hb : Below w.heap.size w w') : SteppedTo w w' R B s Fp := ⟨Fp, h.mv hb, Turn.of_below hb, fun _ h => .inl h⟩
/-- Behind a call that has made t of the book, in which the run's own numbers are put right. -/
theorem stepped_by {w W w' w'' : World} {R B : Nat} {s t : St} {Fp Fp' : Nat → Prop} (h : RunIs w R B s Fp) (hW : Below w.heap.size w W) (hP : ProgIs w' B t Fp') (hT : Turn Fp W w') (hF : ∀ b, Fp' b → Fp b ∨ W.heap.size ≤ b)
    (hw : w''.heap[R]? = some (.cells #[.pointer (some ⟨B, 0, none⟩), .int .i64 t.ne, .int .i64 t.lk] 29 (0, 0))) (ht : Turn (fun b => b = R) w' w'') : SteppedTo w w'' R B t Fp := by
  have hRlt := blk_lt h.rn
  have hWs := hW.size
  have hap : ¬ Fp' R := fun hb => (hF R hb).elim h.ap (fun h' => by omega)
  have t0 : Turn (fun b => b = R ∨ Fp b) w w' := (Turn.of_below hW).trans (hT.mono (fun b _ hb => .inr hb))
  refine ⟨Fp', ⟨hw, hP.turn ht (fun b hb e => hap (e ▸ hb)), hap⟩, ?_, fun b hb => (hF b hb).elim .inl (fun h' => .inr (by omega))⟩
  exact t0.trans (ht.mono (fun b _ hb => .inl hb))
theorem run_kept {w W w' : World} {R B : Nat} {s : St} {Fp : Nat → Prop} (h : RunIs w R B s Fp) (hW : Below w.heap.size w W) (hT : Turn Fp W w') : w'.heap[R]? = some (.cells #[.pointer (some ⟨B, 0, none⟩), .int .i64 s.ne, .int .i64 s.lk] 29 (0, 0)) :=
  hT.blk ((hW.block _ (blk_lt h.rn)).trans h.rn) h.ap
set_option maxHeartbeats 4000000 in
set_option maxRecDepth 100000 in
theorem step_post (R B : Nat) (s : St) (Fp : Nat → Prop) (q : K5) (w : World) (h : RunIs w R B s Fp) (hk : KOk s) (hne : s.ne < 60) (hq : q.ok) (hK : pickI q.kind 8 < 5) :
    Calls Tryz.prog 12 #[.pointer (some ⟨R, 0, none⟩), .agg q.v] w fun r w' => r = .returned (.bool true) ∧ SteppedTo w w' R B (s.kstep q) Fp := by
  have hks : s.kstep q = s.afterPost (pickI q.day 12) (lsA q) (lsM q) (lsN q) := by unfold St.kstep; rw [if_pos hK]
  rw [hks]
  obtain ⟨hq1, hq2, hq3, hq4, hq5⟩ := id hq
  have hd := pickI_bd q.day 12 (by decide)
  have hpe := hk.postE q (day := pickI q.day 12) hd.1 (by omega) hne
  have hlk := hk.lk
  have hka : Grew w (w.alloc (.cells q.v 35)) := (Grew.refl _).alloc _
  have hbp := heap_alloc_new w (.cells q.v 35)
  have p0 : (w.alloc (.cells q.v 35)).cell? ⟨w.heap.size, 0, none⟩ = some (.int .i64 q.kind) := blk_cell' hbp rfl
  have p1 : (w.alloc (.cells q.v 35)).cell? ⟨w.heap.size, 1, none⟩ = some (.int .i64 q.day) := blk_cell' hbp rfl
  have p2 : (w.alloc (.cells q.v 35)).cell? ⟨w.heap.size, 2, none⟩ = some (.int .i64 q.a) := blk_cell' hbp rfl
  have p3 : (w.alloc (.cells q.v 35)).cell? ⟨w.heap.size, 3, none⟩ = some (.int .i64 q.b) := blk_cell' hbp rfl
  have p4 : (w.alloc (.cells q.v 35)).cell? ⟨w.heap.size, 4, none⟩ = some (.int .i64 q.c) := blk_cell' hbp rfl
  have rB := hka.cell' (blk_cell' h.rn (o := 0) rfl)
  have hkb := hka.below
  obtain ⟨W1, hW1⟩ : ∃ W1, w.alloc (.cells q.v 35) = W1 := ⟨_, rfl⟩
  have hW1' : w.alloc (.cells #[.int .i64 q.kind, .int .i64 q.day, .int .i64 q.a, .int .i64 q.b, .int .i64 q.c] 35) = W1 := hW1
  rw [hW1] at hka hbp p0 p1 p2 p3 p4 rB hkb
  have CL : Hid (∀ W, Calls Tryz.prog 19 #[.agg #[.int .i64 q.kind, .int .i64 q.day, .int .i64 q.a, .int .i64 q.b, .int .i64 q.c]] W fun r w' => ∃ v, r = .returned v ∧ w'.ownsRow W.heap.size 47 2 v (lsN q) (lineCells (lsA q) (lsM q) (lsN q)) ∧ Below W.heap.size W w') := fun W => linesK_any q W hq
  have hn2 : 2 ≤ lsN q ∧ lsN q ≤ 3 := by unfold lsN; split <;> omega
  have HLV : Hid (∀ W2 v base, W2.ownsRow base 47 2 v (lsN q) (lineCells (lsA q) (lsM q) (lsN q)) → ∃ g c, v = .slice (some ⟨g, 0, none⟩) (lsN q) c ∧ LinesV W2 (some ⟨g, 0, none⟩) (lsN q) c (lsA q) (lsM q)) := fun W2 v base ho => linesV_owns ho (by omega) (by omega) (ls_three q (fun x => x.size ≤ 1000) (fun i _ => by show (1 : Nat) ≤ 1000; decide))
  have HP : Hid (∀ W2 g c, Below w.heap.size w W2 → LinesV W2 (some ⟨g, 0, none⟩) (lsN q) c (lsA q) (lsM q) → Calls Tryz.prog 18 #[.pointer (some ⟨B, 0, none⟩), .int .i64 (pickI q.day 12), .slice (some ⟨g, 0, none⟩) (lsN q) c] W2 fun r w' => r = .returned (.tuple #[.int .i64 (s.postN (pickI q.day 12) (lsA q) (lsM q) (lsN q)), .int .i64 (s.postE (pickI q.day 12) (lsA q) (lsM q) (lsN q))]) ∧ w'.heap[R]? = some (.cells #[.pointer (some ⟨B, 0, none⟩), .int .i64 s.ne, .int .i64 s.lk] 29 (0, 0)) ∧ Hid (∃ Fp', ProgIs w' B (s.afterPost (pickI q.day 12) (lsA q) (lsM q) (lsN q)) Fp' ∧ Turn Fp W2 w' ∧ ∀ b, Fp' b → Fp b ∨ W2.heap.size ≤ b)) := fun W2 g c hW hLv => by
    refine (progPost B s Fp (pickI q.day 12) (some ⟨g, 0, none⟩) (lsN q) c (lsA q) (lsM q) W2 (h.pg.turn (S := fun _ => False) (Turn.of_below hW) (fun _ _ h => h)) hk.ok hLv).mono ?_
    rintro r w' ⟨rfl, Fp', q1, q2, q3⟩
    exact ⟨rfl, run_kept h hW q2, ⟨Fp', q1, q2, q3⟩⟩
  have HH : Hid (type_of% h) := h
  have HK : Hid (type_of% hk) := hk
  have HPE : Hid (type_of% hpe) := hpe
  clear h hk hpe hks hbp hq
  by_cases hl : pickI q.day 12 ≤ s.lk
  · have e11 : s.postE (pickI q.day 12) (lsA q) (lsM q) (lsN q) = 11 := by rw [HPE.out, if_pos hl]
    have en : s.postN (pickI q.day 12) (lsA q) (lsM q) (lsN q) = 0 := by unfold St.postN; rw [e11]; rfl
    have ea : Hid (s.afterPost (pickI q.day 12) (lsA q) (lsM q) (lsN q) = s) := by show _ = _; unfold St.afterPost; rw [e11]; rfl
    rw [e11, en] at HP
    show Calls _ _ #[_, .agg #[.int .i64 q.kind, .int .i64 q.day, .int .i64 q.a, .int .i64 q.b, .int .i64 q.c]] _ _
    go_enter Tryz.func12, Tryz.ntmps12
    go_wp2_with (go_at_call 10; refine Calls.mono (pickK_any _ _ _ (by omega) (by omega) (by omega) (by omega)) ?_; rintro e wx ⟨rfl, hw⟩; rw [hw]; clear hw wx)
    go_region_with (first
      | (go_at_call 19; refine Calls.mono (CL.out _) ?_; rintro e w2 ⟨v, rfl, ho2, hb2⟩; obtain ⟨g, c, rfl, hlv⟩ := HLV.out w2 v _ ho2; have hb12 : Below W1.heap.size W1 w2 := (by first | exact below_drew hb2 | exact hb2); have hb02 := hkb.trans (hb12.mono hkb.size); have rB2 := cell_later hb12 rB)
      | (go_at_call 18; refine Calls.mono (HP.out _ g c hb02 hlv) ?_; rintro e w3 ⟨rfl, hrn, hq3⟩; have x0 := blk_cell' hrn (o := 0) rfl; have x1 := blk_cell' hrn (o := 1) rfl; have x2 := blk_cell' hrn (o := 2) rfl; have z1 := blk_free hrn 1))
    all_goals go_wp2
    all_goals go_ret
    all_goals
      refine ⟨by first | rfl | (simp; done), ?_⟩
      obtain ⟨Fp', q1, q2, q3⟩ := hq3.out
      rw [ea.out] at q1 ⊢
      exact stepped_by HH.out hb02 q1 q2 q3 hrn (Turn.refl _ _)
  · have e0 : s.postE (pickI q.day 12) (lsA q) (lsM q) (lsN q) = 0 := by rw [HPE.out, if_neg hl]
    have en : s.postN (pickI q.day 12) (lsA q) (lsM q) (lsN q) = (s.ne : Int) + 1 := by unfold St.postN; rw [if_pos e0]
    have ea : Hid (s.afterPost (pickI q.day 12) (lsA q) (lsM q) (lsN q) = s.posted (pickI q.day 12) (lsA q) (lsM q) (lsN q)) := by show _ = _; unfold St.afterPost; rw [if_pos e0]
    rw [e0, en] at HP
    show Calls _ _ #[_, .agg #[.int .i64 q.kind, .int .i64 q.day, .int .i64 q.a, .int .i64 q.b, .int .i64 q.c]] _ _
    go_enter Tryz.func12, Tryz.ntmps12
    go_wp2_with (go_at_call 10; refine Calls.mono (pickK_any _ _ _ (by omega) (by omega) (by omega) (by omega)) ?_; rintro e wx ⟨rfl, hw⟩; rw [hw]; clear hw wx)
    go_region_with (first
      | (go_at_call 19; refine Calls.mono (CL.out _) ?_; rintro e w2 ⟨v, rfl, ho2, hb2⟩; obtain ⟨g, c, rfl, hlv⟩ := HLV.out w2 v _ ho2; have hb12 : Below W1.heap.size W1 w2 := (by first | exact below_drew hb2 | exact hb2); have hb02 := hkb.trans (hb12.mono hkb.size); have rB2 := cell_later hb12 rB)
      | (go_at_call 18; refine Calls.mono (HP.out _ g c hb02 hlv) ?_; rintro e w3 ⟨rfl, hrn, hq3⟩; have x0 := blk_cell' hrn (o := 0) rfl; have x1 := blk_cell' hrn (o := 1) rfl; have x2 := blk_cell' hrn (o := 2) rfl; have z1 := blk_free hrn 1))
    all_goals go_wp2
    all_goals go_ret
    all_goals
      refine ⟨by first | rfl | (simp; done), ?_⟩
      obtain ⟨Fp', q1, q2, q3⟩ := hq3.out
      rw [ea.out] at q1 ⊢
      exact stepped_by HH.out hb02 q1 q2 q3 (blk_set hrn 1 (.int .i64 ((s.ne : Int) + 1))) ((Turn.refl _ _).set _ _ (fun _ => rfl))
end Go.Proofs.YtjnmoddcodnadaaGreat
