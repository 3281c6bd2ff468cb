import Derived.Test.YtjnmoddcodnadaaGreatDoorG32
set_option linter.unusedVariables false
set_option linter.unusedSimpArgs false
namespace Go.Proofs.YtjnmoddcodnadaaGreatDoor
open Go.RowKit Go.Annal Go.Sort
set_option maxHeartbeats 1000000 in
theorem refuseRev_out (B : Nat) (k : Bk) (entry : Int) (w : World) (cE : w.cell? ⟨B, 2, none⟩ = some k.nv) (hout : entry < 1 ∨ (k.ne : Int) < entry) :
    Calls Tryz.prog 62 #[.pointer (some ⟨B, 0, none⟩), .int .i64 entry] w fun r w' => r = .returned (.int .i64 7) ∧ Below w.heap.size w w' := by
  by_cases h1 : entry < 1
  · go_enter Tryz.func62, Tryz.ntmps62
    go_wp2
    go_ret
    exact ⟨rfl, Below.refl _ _⟩
  · have h2 : (k.ne : Int) < entry := hout.resolve_left h1
    go_enter Tryz.func62, Tryz.ntmps62
    go_wp2
    go_ret
    exact ⟨rfl, Below.refl _ _⟩
set_option maxHeartbeats 2000000 in
theorem refuseRev_in (B : Nat) (k : Bk) (entry : Int) (gone : Bool) (w : World) (cE : w.cell? ⟨B, 2, none⟩ = some k.nv) (cU : w.cell? ⟨B, 3, none⟩ = some (.int .i64 k.ul)) (h1 : 1 ≤ entry) (h2 : entry ≤ (k.ne : Int))
    (CR : ∀ W, Below w.heap.size w W → Calls Tryz.prog 109 #[.pointer (some ⟨B, 0, none⟩), .int .i64 entry] W fun r w' => r = .returned (.bool gone) ∧ Below W.heap.size W w') :
    Calls Tryz.prog 62 #[.pointer (some ⟨B, 0, none⟩), .int .i64 entry] w fun r w' => r = .returned (.int .i64 (revE true gone (decide (9999 < k.ul)) (decide (60 ≤ k.ne)))) ∧ Below w.heap.size w w' := by
  have C : Hid (type_of% (CR w (Below.refl _ _))) := CR w (Below.refl _ _)
  clear CR
  have h1' : ¬ entry < 1 := by omega
  have h2' : ¬ (k.ne : Int) < entry := by omega
  have e12 : Hid (gone = true → revE true gone (decide (9999 < k.ul)) (decide (60 ≤ k.ne)) = 12) := fun h => by show revE _ _ _ _ = _; rw [h]; rfl
  have e11 : Hid (gone = false → 9999 < k.ul → revE true gone (decide (9999 < k.ul)) (decide (60 ≤ k.ne)) = 11) := fun h h' => by show revE _ _ _ _ = _; rw [h, decide_eq_true h']; rfl
  have e4 : Hid (gone = false → ¬ 9999 < k.ul → 60 ≤ k.ne → revE true gone (decide (9999 < k.ul)) (decide (60 ≤ k.ne)) = 4) := fun h h' h'' => by show revE _ _ _ _ = _; rw [h, decide_eq_false h', decide_eq_true h'']; rfl
  have e0 : Hid (gone = false → ¬ 9999 < k.ul → ¬ 60 ≤ k.ne → revE true gone (decide (9999 < k.ul)) (decide (60 ≤ k.ne)) = 0) := fun h h' h'' => by show revE _ _ _ _ = _; rw [h, decide_eq_false h', decide_eq_false h'']; rfl
  generalize revE true gone (decide (9999 < k.ul)) (decide (60 ≤ k.ne)) = E at *
  cases gone
  · by_cases hu : 9999 < k.ul
    · obtain rfl := e11.out rfl hu
      go_enter Tryz.func62, Tryz.ntmps62
      go_wp2_with (first
        | (go_at_call 109; refine Calls.mono C.out ?_; rintro e w1 ⟨rfl, hb1⟩; have cU1 := cell_later hb1 cU; have cE1 := cell_later hb1 cE)
        | (go_at_call 65; refine Calls.mono (isLocked_any B k.ul _ _ cU1) ?_; rintro e wx ⟨rfl, hw⟩; rw [hw]; clear hw wx)
        | (go_at_call 106; refine Calls.mono (isFull_any B k.ne k.ce k.ade _ cE1) ?_; rintro e wx ⟨rfl, hw⟩; rw [hw]; clear hw wx))
      go_ret
      exact ⟨rfl, hb1⟩
    · by_cases hf : 60 ≤ k.ne
      · obtain rfl := e4.out rfl hu hf
        go_enter Tryz.func62, Tryz.ntmps62
        go_wp2_with (first
          | (go_at_call 109; refine Calls.mono C.out ?_; rintro e w1 ⟨rfl, hb1⟩; have cU1 := cell_later hb1 cU; have cE1 := cell_later hb1 cE)
          | (go_at_call 65; refine Calls.mono (isLocked_any B k.ul _ _ cU1) ?_; rintro e wx ⟨rfl, hw⟩; rw [hw]; clear hw wx)
          | (go_at_call 106; refine Calls.mono (isFull_any B k.ne k.ce k.ade _ cE1) ?_; rintro e wx ⟨rfl, hw⟩; rw [hw]; clear hw wx))
        go_ret
        exact ⟨rfl, hb1⟩
      · obtain rfl := e0.out rfl hu hf
        go_enter Tryz.func62, Tryz.ntmps62
        go_wp2_with (first
          | (go_at_call 109; refine Calls.mono C.out ?_; rintro e w1 ⟨rfl, hb1⟩; have cU1 := cell_later hb1 cU; have cE1 := cell_later hb1 cE)
          | (go_at_call 65; refine Calls.mono (isLocked_any B k.ul _ _ cU1) ?_; rintro e wx ⟨rfl, hw⟩; rw [hw]; clear hw wx)
          | (go_at_call 106; refine Calls.mono (isFull_any B k.ne k.ce k.ade _ cE1) ?_; rintro e wx ⟨rfl, hw⟩; rw [hw]; clear hw wx))
        go_ret
        exact ⟨rfl, hb1⟩
  · obtain rfl := e12.out rfl
    go_enter Tryz.func62, Tryz.ntmps62
    go_wp2_with (go_at_call 109; refine Calls.mono C.out ?_; rintro e w1 ⟨rfl, hb1⟩)
    go_ret
    exact ⟨rfl, hb1⟩
set_option maxHeartbeats 2000000 in
set_option maxRecDepth 100000 in
theorem reversed_any (B ge : Nat) (k : Bk) (dy : Nat → Int) (gl ln cl : Nat → Nat) (kk : Nat → EvK) (e : Nat) (N : Int) (xa : Nat → ByteArray) (xm : Nat → Int) (w : World) (h : EntsIs w B ge k dy gl ln cl kk) (cU : w.cell? ⟨B, 3, none⟩ = some (.int .i64 k.ul)) (hne : k.ne ≤ 1000) (he : e < k.ne) (hN : N = (e : Int) + 1)
    (hL : LinesAt w (gl e) 0 (ln e) xa xm) (hn : ln e ≤ 1000) (h0 : 0 < ln e) (hb : ∀ j, j < ln e → -1000000000000 ≤ xm j ∧ xm j ≤ 1000000000000) (M : Int) (hM : max (dy e) k.ul = M) :
    Calls Tryz.prog 63 #[.pointer (some ⟨B, 0, none⟩), .int .i64 N] w fun r w' => ∃ g c, r = .returned (.agg #[.int .i64 M, .slice (some ⟨g, 0, none⟩) (ln e) c, .int .i64 N]) ∧ w'.ownsRow w.heap.size 58 2 (.slice (some ⟨g, 0, none⟩) (ln e) c) (ln e) (lineCells xa (fun j => - xm j) (ln e)) ∧ Below w.heap.size w w' := by
  have hk1 : Grew w (w.alloc (.cells #[.int .i64 0, .slice none 0 0, .int .i64 0] 127)) := (Grew.refl _).alloc _
  have hEn := h.hE (by omega)
  have cE := hk1.cell' h.cE
  have ce := hk1.cell' (h.ce e he)
  have cU1 := hk1.cell' cU
  obtain ⟨t, v, e1, e3⟩ := ev_entered (dy e) (gl e) (ln e) (cl e) (kk e)
  rw [e1] at ce
  have hcE : k.nv = .slice (some ⟨ge, 0, none⟩) k.ne k.ce := by unfold Bk.nv; rw [hEn]
  rw [hcE] at cE
  have he0 : (0 : Int) ≤ (e : Int) := by omega
  have hen : (e : Int) < (k.ne : Int) := by omega
  have hN1 : N - 1 = (e : Int) := by omega
  have hwe : IntKind.i64.wrap (e : Int) = (e : Int) := wrap_id _ (by omega) (by omega)
  have hN2 : 1 ≤ N := by omega
  have hN3 : N ≤ 1000 := by omega
  have HO : Hid (∀ W, Below w.heap.size w W → Calls Tryz.prog 110 #[.slice (some ⟨gl e, 0, none⟩) (ln e) (cl e)] W fun r w' => ∃ v', r = .returned v' ∧ w'.ownsRow W.heap.size 58 2 v' (ln e) (lineCells xa (fun j => - xm j) (ln e)) ∧ Below W.heap.size W w') := fun W hW => opposite_any (gl e) 0 (ln e) (cl e) xa xm W (hL.mv hW) hn h0 hb
  have HR0 := heap_alloc_new w (.cells #[.int .i64 0, .slice none 0 0, .int .i64 0] 127)
  obtain ⟨W1, hW1⟩ : ∃ W1, w.alloc (.cells #[.int .i64 0, .slice none 0 0, .int .i64 0] 127) = W1 := ⟨_, rfl⟩
  rw [hW1] at hk1 cE ce cU1 HR0
  generalize gl e = G at *
  generalize ln e = n at *
  generalize cl e = c at *
  generalize dy e = d at *
  clear h hEn e1 hcE hN hL hb
  go_enter Tryz.func63, Tryz.ntmps63
  go_wp2_with ((go_at_call 240; refine Calls.mono (entered_any _ _ _ _ _) ?_; rintro e w2 ⟨rfl, hg2⟩; have cU2 := hg2.cell' cU1; have HR2 := hg2.blk HR0; have hg02 := hk1.trans hg2; have cU3 := ((Grew.refl w2).alloc (.cells #[.int .i64 d, .slice (some ⟨G, 0, none⟩) n c] 122)).cell' cU2))
  obtain ⟨W3, hW3⟩ : ∃ W3, w2.alloc (.cells #[.int .i64 d, .slice (some ⟨G, 0, none⟩) n c] 122) = W3 := ⟨_, rfl⟩
  have hg3 : Grew w W3 := by rw [← hW3]; exact hg02.alloc _
  have hb3 := heap_alloc_new w2 (.cells #[.int .i64 d, .slice (some ⟨G, 0, none⟩) n c] 122)
  have HR3 := ((Grew.refl w2).alloc (.cells #[.int .i64 d, .slice (some ⟨G, 0, none⟩) n c] 122)).blk HR2
  rw [hW3] at hb3 HR3 cU3 ⊢
  have u0 := blk_cell' hb3 (o := 0) rfl
  have u1 := blk_cell' hb3 (o := 1) rfl
  clear hW3
  go_quiet (fail)
  have hg4 := hg3.drewN nq
  have u0' : (W3.drewN nq).cell? ⟨w2.heap.size, 0, none⟩ = _ := u0
  have u1' : (W3.drewN nq).cell? ⟨w2.heap.size, 1, none⟩ = _ := u1
  have HR4 : (W3.drewN nq).heap[w.heap.size]? = _ := HR3
  have hs2 : w.heap.size < w2.heap.size := blk_lt HR2
  obtain ⟨W4, hW4⟩ : ∃ W4, W3.drewN nq = W4 := ⟨_, rfl⟩
  rw [hW4] at hg4 u0' u1' HR4 ⊢
  clear hW4 u0 u1 HR3 hg3 cU3
  have CO : Hid (type_of% (HO.out W4 hg4.below)) := HO.out W4 hg4.below
  go_wp2_with (go_at_call 110; refine Calls.mono CO.out ?_; rintro e w5 ⟨v', rfl, hown, hb5⟩; obtain ⟨g, c', rfl, hgB, hcap, hL5, cs5, hcs5⟩ := owns_lines hown h0; have HR5 := (hb5.block _ (blk_lt HR4)).trans HR4; have r0 := blk_cell' HR5 (o := 0) rfl; have r1 := blk_cell' HR5 (o := 1) rfl; have r2 := blk_cell' HR5 (o := 2) rfl; have f0 := blk_free HR5 0; have f1 := blk_free HR5 1; have f2 := blk_free HR5 2)
  have hgw : w.heap.size < g := by have := blk_lt HR4; omega
  refine bodyPost_ret (v := .agg #[.int .i64 M, .slice (some ⟨g, 0, none⟩) n c', .int .i64 N]) (results_cell_row Tryz.results63 _ _ w.heap.size _ #[.int .i64 M, .slice (some ⟨g, 0, none⟩) n c', .int .i64 N] _ _ rfl (blk_set (blk_set (blk_set HR5 0 _) 1 _) 2 _) Tryz.underlying127 rfl (by kernel_rfl)) rfl ⟨g, c', rfl, ?_, ?_⟩
  · exact owns_le (ownsRow_setCell_other (ownsRow_setCell_other (ownsRow_setCell_other hown (a := ⟨w.heap.size, 0, none⟩) (by simp [Value.ownBlock]; omega) _) (a := ⟨w.heap.size, 1, none⟩) (by simp [Value.ownBlock]; omega) _) (a := ⟨w.heap.size, 2, none⟩) (by simp [Value.ownBlock]; omega) _) hg4.size
  · exact (((hg4.below.trans (hb5.mono hg4.size)).setCell (Nat.le_refl _) _).setCell (Nat.le_refl _) _).setCell (Nat.le_refl _) _
set_option maxHeartbeats 1000000 in
theorem ReverseA_err (B : Nat) (entry E : Int) (w : World) (hE : E ≠ 0)
    (CR : Calls Tryz.prog 62 #[.pointer (some ⟨B, 0, none⟩), .int .i64 entry] w fun r w' => r = .returned (.int .i64 E) ∧ Below w.heap.size w w') :
    Calls Tryz.prog 30 #[.pointer (some ⟨B, 0, none⟩), .int .i64 entry] w fun r w' => r = .returned (.tuple #[.int .i64 0, .int .i64 E]) ∧ Below w.heap.size w w' := by
  have C : Hid (type_of% CR) := CR
  clear CR
  have hE' : (E != 0) = true := by simpa using hE
  go_enter Tryz.func30, Tryz.ntmps30
  go_wp2_with (go_at_call 62; refine Calls.mono C.out ?_; rintro e wx ⟨rfl, hw⟩)
  go_ret2
  exact ⟨rfl, hw⟩
set_option maxHeartbeats 1000000 in
theorem ReverseA_ok (B n ne : Nat) (entry M : Int) (w : World) (R : Nat → Nat → World → Prop) (Q : World → Prop)
    (CR : Calls Tryz.prog 62 #[.pointer (some ⟨B, 0, none⟩), .int .i64 entry] w fun r w' => r = .returned (.int .i64 0) ∧ Below w.heap.size w w')
    (CP : ∀ W, Below w.heap.size w W → Calls Tryz.prog 63 #[.pointer (some ⟨B, 0, none⟩), .int .i64 entry] W fun r w' => ∃ g c, r = .returned (.agg #[.int .i64 M, .slice (some ⟨g, 0, none⟩) n c, .int .i64 entry]) ∧ R g c w')
    (CE : ∀ g c W, R g c W → Calls Tryz.prog 60 #[.pointer (some ⟨B, 0, none⟩), .iface 127 (.agg #[.int .i64 M, .slice (some ⟨g, 0, none⟩) n c, .int .i64 entry])] W fun r w' => r = .returned (.int .i64 ne) ∧ Q w') :
    Calls Tryz.prog 30 #[.pointer (some ⟨B, 0, none⟩), .int .i64 entry] w fun r w' => r = .returned (.tuple #[.int .i64 ne, .int .i64 0]) ∧ Q w' := by
  have C : Hid (type_of% CR) := CR
  have C1 : Hid (type_of% CP) := CP
  have C2 : Hid (type_of% CE) := CE
  clear CR CE CP
  go_enter Tryz.func30, Tryz.ntmps30
  go_wp2_with (first
    | (go_at_call 62; refine Calls.mono C.out ?_; rintro e wx ⟨rfl, hw⟩)
    | (go_at_call 63; refine Calls.mono (C1.out _ hw) ?_; rintro e wz ⟨g, c, rfl, hr⟩)
    | (go_at_call 60; refine Calls.mono (C2.out g c _ hr) ?_; rintro e wy ⟨rfl, hq⟩))
  go_ret2
  exact ⟨rfl, hq⟩
end Go.Proofs.YtjnmoddcodnadaaGreatDoor
