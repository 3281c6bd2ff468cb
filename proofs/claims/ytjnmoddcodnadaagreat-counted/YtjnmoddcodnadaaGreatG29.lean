import Derived.Test.YtjnmoddcodnadaaGreatG27
set_option linter.unusedVariables false
set_option linter.unusedSimpArgs false
namespace Go.Proofs.YtjnmoddcodnadaaGreat
open Go.RowKit Go.Annal Go.Sort
set_option maxHeartbeats 4000000 in
set_option maxRecDepth 100000 in
theorem step_rev (R B : Nat) (s : St) (Fp : Nat → Prop) (q : K5) (w : World) (h : RunIs w R B s Fp) (hk : KOk s) (hne : s.ne < 60) (hq : q.ok) (hK : pickI q.kind 8 = 5) (h0 : 0 < s.ne) :
    Calls Tryz.prog 12 #[.pointer (some ⟨R, 0, none⟩), .agg q.v] w fun r w' => r = .returned (.bool true) ∧ SteppedTo w w' R B (s.kstep q) Fp := by
  have hks : s.kstep q = s.afterRev (1 + pickI q.a s.ne) := by
    unfold St.kstep
    rw [if_neg (by omega), if_pos ⟨hK, h0⟩]
  rw [hks]
  obtain ⟨hq1, hq2, hq3, hq4, hq5⟩ := id hq
  have hd := pickI_bd q.day 12 (by decide)
  have hlk := hk.lk
  have hka : Grew w (w.alloc (.cells q.v 35)) := (Grew.refl _).alloc _
  have hbp := heap_alloc_new w (.cells q.v 35)
  have p0 : (w.alloc (.cells q.v 35)).cell? ⟨w.heap.size, 0, none⟩ = some (.int .i64 q.kind) := blk_cell' hbp rfl
  have p1 : (w.alloc (.cells q.v 35)).cell? ⟨w.heap.size, 1, none⟩ = some (.int .i64 q.day) := blk_cell' hbp rfl
  have p2 : (w.alloc (.cells q.v 35)).cell? ⟨w.heap.size, 2, none⟩ = some (.int .i64 q.a) := blk_cell' hbp rfl
  have rB : (w.alloc (.cells q.v 35)).cell? ⟨R, 0, none⟩ = some (.pointer (some ⟨B, 0, none⟩)) := hka.cell' (blk_cell' h.rn (o := 0) rfl)
  have rN : (w.alloc (.cells q.v 35)).cell? ⟨R, 1, none⟩ = some (.int .i64 s.ne) := hka.cell' (blk_cell' h.rn (o := 1) rfl)
  have hkb := hka.below
  obtain ⟨W1, hW1⟩ : ∃ W1, w.alloc (.cells q.v 35) = W1 := ⟨_, rfl⟩
  have hW1' : w.alloc (.cells #[.int .i64 q.kind, .int .i64 q.day, .int .i64 q.a, .int .i64 q.b, .int .i64 q.c] 35) = W1 := hW1
  rw [hW1] at hka hbp p0 p1 p2 rB rN hkb
  have hn0 : (0 : Int) < (s.ne : Int) := by omega
  have hpa := pickI_bd q.a s.ne hn0
  have hpe := hk.revE (entry := 1 + pickI q.a s.ne) (by omega) (by omega) hne
  have HP : Hid (∀ W2, Below w.heap.size w W2 → W2.cell? ⟨w.heap.size, 2, none⟩ = some (.int .i64 q.a) → Calls Tryz.prog 20 #[.pointer (some ⟨B, 0, none⟩), .int .i64 (1 + pickI q.a s.ne)] W2 fun r w' => r = .returned (.tuple #[.int .i64 (s.revN (1 + pickI q.a s.ne)), .int .i64 (s.revE (1 + pickI q.a s.ne))]) ∧ w'.heap[R]? = some (.cells #[.pointer (some ⟨B, 0, none⟩), .int .i64 s.ne, .int .i64 s.lk] 29 (0, 0)) ∧ w'.cell? ⟨w.heap.size, 2, none⟩ = some (.int .i64 q.a) ∧ Hid (∃ Fp', ProgIs w' B (s.afterRev (1 + pickI q.a s.ne)) Fp' ∧ Turn Fp W2 w' ∧ ∀ b, Fp' b → Fp b ∨ W2.heap.size ≤ b)) := fun W2 hW hp2 => by
    refine (progRev B s Fp (1 + pickI q.a s.ne) W2 (h.pg.turn (S := fun _ => False) (Turn.of_below hW) (fun _ _ h => h)) hk.ok).mono ?_
    rintro r w' ⟨rfl, Fp', q1, q2, q3⟩
    exact ⟨rfl, run_kept h hW q2, (World.cell?_of_block (w := W2) (q2.block w.heap.size (World.block_lt_of_cell? _ _ hp2) (fun hF => by have := h.pg.lt hF; omega))).trans hp2, ⟨Fp', q1, q2, q3⟩⟩
  have HH : Hid (type_of% h) := h
  have HPE : Hid (type_of% hpe) := hpe
  clear h hk hq hbp hks hpe
  clear hW1
  obtain ⟨hpa1, hpa2⟩ := hpa
  have hwr : IntKind.i64.wrap (1 + pickI q.a s.ne) = 1 + pickI q.a s.ne := wrap_id _ (by omega) (by omega)
  cases hg : s.gn (1 + pickI q.a s.ne - 1).toNat
  · have e0 : s.revE (1 + pickI q.a s.ne) = 0 := by rw [HPE.out, hg]; rfl
    have en : s.revN (1 + pickI q.a s.ne) = (s.ne : Int) + 1 := by unfold St.revN; rw [if_pos e0]
    have ea : Hid ((s.afterRev (1 + pickI q.a s.ne)).ne = s.ne + 1 ∧ (s.afterRev (1 + pickI q.a s.ne)).lk = s.lk) := by show _ ∧ _; unfold St.afterRev; rw [if_pos e0]; exact ⟨rfl, rfl⟩
    rw [e0, en] at HP
    clear hg
    show Calls _ _ #[_, .agg #[.int .i64 q.kind, .int .i64 q.day, .int .i64 q.a, .int .i64 q.b, .int .i64 q.c]] _ _
    go_enter Tryz.func12, Tryz.ntmps12
    go_wp2_with (go_at_call 10; refine Calls.mono (pickK_any _ _ _ (by omega) (by omega) (by omega) (by omega)) ?_; rintro e wx ⟨rfl, hw⟩; rw [hw]; clear hw wx)
    go_region_held3 (fun w' => w'.cell? ⟨R, 0, none⟩ = some (.pointer (some ⟨B, 0, none⟩)) ∧ w'.cell? ⟨R, 1, none⟩ = some (.int .i64 s.ne) ∧ w'.cell? ⟨w.heap.size, 2, none⟩ = some (.int .i64 q.a)) (first | exact ⟨x0, x1, y2⟩ | exact ⟨rB, rN, p2⟩ | go_keep)
      (first
        | (go_at_call 10; with_reducible refine Calls.mono (pickK_any _ _ _ (by omega) (by omega) (by omega) (by omega)) ?_; rintro e wx ⟨rfl, hw⟩; rw [hw]; clear hw wx)
        | (go_at_call 20; (try rw [hwr]); go_loud (with_reducible refine Calls.mono (HP.out _ ?_ ?_) ?_); go_loud (first | exact (hka.drew).below | exact hka.below); go_loud (exact p2); rintro e w3 ⟨rfl, hrn, y2, hq3⟩; have x0 := blk_cell' hrn (o := 0) rfl; have x1 := blk_cell' hrn (o := 1) rfl; have x2 := blk_cell' hrn (o := 2) rfl; have z1 := blk_free hrn 1; have z2 := blk_free hrn 2))
    all_goals go_wp2
    all_goals go_ret
    all_goals
      refine ⟨by first | rfl | (simp; done), ?_⟩
      obtain ⟨Fp', q1, q2, q3⟩ := hq3.out
      exact stepped_by HH.out (hka.drew).below q1 q2 q3 (by rw [ea.out.1, ea.out.2]; exact blk_set hrn 1 (.int .i64 ((s.ne : Int) + 1))) ((Turn.refl _ _).set _ _ (fun _ => rfl))
  · have e12 : s.revE (1 + pickI q.a s.ne) = 12 := by rw [HPE.out, hg]; rfl
    have en : s.revN (1 + pickI q.a s.ne) = 0 := by unfold St.revN; rw [e12]; rfl
    have ea : Hid (s.afterRev (1 + pickI q.a s.ne) = s) := by show _ = _; unfold St.afterRev; rw [e12]; rfl
    rw [e12, en] at HP
    clear hg
    show Calls _ _ #[_, .agg #[.int .i64 q.kind, .int .i64 q.day, .int .i64 q.a, .int .i64 q.b, .int .i64 q.c]] _ _
    go_enter Tryz.func12, Tryz.ntmps12
    go_wp2_with (go_at_call 10; refine Calls.mono (pickK_any _ _ _ (by omega) (by omega) (by omega) (by omega)) ?_; rintro e wx ⟨rfl, hw⟩; rw [hw]; clear hw wx)
    go_region_held3 (fun w' => w'.cell? ⟨R, 0, none⟩ = some (.pointer (some ⟨B, 0, none⟩)) ∧ w'.cell? ⟨R, 1, none⟩ = some (.int .i64 s.ne) ∧ w'.cell? ⟨w.heap.size, 2, none⟩ = some (.int .i64 q.a)) (first | exact ⟨x0, x1, y2⟩ | exact ⟨rB, rN, p2⟩ | go_keep)
      (first
        | (go_at_call 10; with_reducible refine Calls.mono (pickK_any _ _ _ (by omega) (by omega) (by omega) (by omega)) ?_; rintro e wx ⟨rfl, hw⟩; rw [hw]; clear hw wx)
        | (go_at_call 20; (try rw [hwr]); go_loud (with_reducible refine Calls.mono (HP.out _ ?_ ?_) ?_); go_loud (first | exact (hka.drew).below | exact hka.below); go_loud (exact p2); rintro e w3 ⟨rfl, hrn, y2, hq3⟩; have x0 := blk_cell' hrn (o := 0) rfl; have x1 := blk_cell' hrn (o := 1) rfl; have x2 := blk_cell' hrn (o := 2) rfl; have z1 := blk_free hrn 1; have z2 := blk_free hrn 2))
    all_goals go_wp2
    all_goals go_ret
    all_goals
      refine ⟨by first | rfl | (simp; done), ?_⟩
      obtain ⟨Fp', q1, q2, q3⟩ := hq3.out
      rw [ea.out] at q1 ⊢
      exact stepped_by HH.out (hka.drew).below q1 q2 q3 hrn (Turn.refl _ _)
end Go.Proofs.YtjnmoddcodnadaaGreat
