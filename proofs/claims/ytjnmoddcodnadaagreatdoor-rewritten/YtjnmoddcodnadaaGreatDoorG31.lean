import Derived.Test.YtjnmoddcodnadaaGreatDoorG30
import Derived.Test.YtjnmoddcodnadaaGreatDoorG27
import Derived.Test.YtjnmoddcodnadaaGreatDoorG11
import Derived.Test.YtjnmoddcodnadaaGreatDoorG12
import Derived.Test.YtjnmoddcodnadaaGreatDoorG20
import Derived.Test.YtjnmoddcodnadaaGreatDoorG25
set_option linter.unusedVariables false
set_option linter.unusedSimpArgs false
namespace Go.Proofs.YtjnmoddcodnadaaGreatDoor
open Go.RowKit Go.Annal
set_option maxHeartbeats 1000000 in
theorem PostA_err (B n cap : Nat) (lad : Option Addr) (day E : Int) (w : World) (hE : E ≠ 0)
    (CR : Calls Tryz.prog 59 #[.pointer (some ⟨B, 0, none⟩), .int .i64 day, .slice lad n cap] w fun r w' => r = .returned (.int .i64 E) ∧ Below w.heap.size w w') :
    Calls Tryz.prog 28 #[.pointer (some ⟨B, 0, none⟩), .int .i64 day, .slice lad n cap] w fun r w' => r = .returned (.tuple #[.int .i64 0, .int .i64 E]) ∧ Below w.heap.size w w' := by
  have C : Hid (type_of% CR) := CR
  clear CR
  have hE' : (E != 0) = true := by simpa using hE
  go_enter Tryz.func28, Tryz.ntmps28
  go_wp2_with (go_at_call 59; refine Calls.mono C.out ?_; rintro e wx ⟨rfl, hw⟩)
  go_ret2
  exact ⟨rfl, hw⟩
set_option maxHeartbeats 1000000 in
/-- An entry is written: what posted and enter do behind a refusal that is none. -/
theorem PostA_ok (B n cap ne : Nat) (lad : Option Addr) (day : Int) (w : World) (R : Nat → Nat → World → Prop) (Q : World → Prop)
    (CR : Calls Tryz.prog 59 #[.pointer (some ⟨B, 0, none⟩), .int .i64 day, .slice lad n cap] w fun r w' => r = .returned (.int .i64 0) ∧ Below w.heap.size w w')
    (CP : ∀ W, Below w.heap.size w W → Calls Tryz.prog 61 #[.pointer (some ⟨B, 0, none⟩), .int .i64 day, .slice lad n cap] W fun r w' => ∃ g c, r = .returned (.agg #[.int .i64 day, .slice (some ⟨g, 0, none⟩) n c]) ∧ R g c w')
    (CE : ∀ g c W, R g c W → Calls Tryz.prog 60 #[.pointer (some ⟨B, 0, none⟩), .iface 124 (.agg #[.int .i64 day, .slice (some ⟨g, 0, none⟩) n c])] W fun r w' => r = .returned (.int .i64 ne) ∧ Q w') :
    Calls Tryz.prog 28 #[.pointer (some ⟨B, 0, none⟩), .int .i64 day, .slice lad n cap] w fun r w' => r = .returned (.tuple #[.int .i64 ne, .int .i64 0]) ∧ Q w' := by
  have C : Hid (type_of% CR) := CR
  have C1 : Hid (type_of% CP) := CP
  have C2 : Hid (type_of% CE) := CE
  clear CR CE CP
  go_enter Tryz.func28, Tryz.ntmps28
  go_wp2_with (first
    | (go_at_call 59; refine Calls.mono C.out ?_; rintro e wx ⟨rfl, hw⟩)
    | (go_at_call 61; refine Calls.mono (C1.out _ hw) ?_; rintro e wz ⟨g, c, rfl, hr⟩)
    | (go_at_call 60; refine Calls.mono (C2.out g c _ hr) ?_; rintro e wy ⟨rfl, hq⟩))
  go_ret2
  exact ⟨rfl, hq⟩
end Go.Proofs.YtjnmoddcodnadaaGreatDoor
namespace Go.Proofs.YtjnmoddcodnadaaGreatDoor
open Go.RowKit Go.Annal Go.Sort
set_option maxHeartbeats 2000000 in
set_option maxRecDepth 100000 in
/-- A copy of the lines, with the names that the accounts have. -/
theorem posted_any (B : Nat) (k : Bk) (day : Int) (lg lo n cap : Nat) (xa : Nat → ByteArray) (xm : Nat → Int) (kd : Nat → Int) (mm : Nat → Nat) (ff : Nat → Nat → It) (F : Nat → Prop) (w : World)
    (h : BookIs w B k) (hA : Accs w k.na k.pa k.nm kd mm ff F) (hna : k.na ≤ 1000) (hL : LinesAt w lg lo n xa xm) (hn : n ≤ 1000) (h0 : 0 < n) (hin : ∀ l, l < n → isAt k.nm k.na (xa l) = true) :
    Calls Tryz.prog 61 #[.pointer (some ⟨B, 0, none⟩), .int .i64 day, .slice (some ⟨lg, lo, none⟩) n cap] w fun r w' => ∃ g c, r = .returned (.agg #[.int .i64 day, .slice (some ⟨g, 0, none⟩) n c]) ∧ w'.ownsRow w.heap.size 58 2 (.slice (some ⟨g, 0, none⟩) n c) n (lineCells xa xm n) ∧ Below w.heap.size w w' := by
  obtain ⟨ga, hat⟩ := h.at hA
  have HAT : Hid (type_of% hat) := hat
  have HA : Hid (type_of% hA) := hA
  have HIN : Hid (type_of% hin) := hin
  have hka : Grew w (w.alloc (.cells #[.int .i64 0, .slice none 0 0] 124)) := (Grew.refl w).alloc _
  have CL : Hid (type_of% (cloneL_any lg lo n cap xa xm _ (hL.mv hka.below) hn)) := cloneL_any lg lo n cap xa xm _ (hL.mv hka.below) hn
  have HR0 := heap_alloc_new w (.cells #[.int .i64 0, .slice none 0 0] 124)
  have HR : Hid (type_of% HR0) := HR0
  clear h hA hat hin hL HR0
  go_enter Tryz.func61, Tryz.ntmps61
  go_wp2_with (go_at_call 108; refine Calls.mono CL.out ?_; rintro e w1 ⟨v', rfl, hown, hb1⟩; obtain ⟨g, cap', rfl, hg, hcap, hL1, cs, hcs⟩ := owns_lines hown h0; clear hcs hL1)
  rw [World.size_alloc] at hown hg
  have HO : Hid (type_of% (owns_le hown (Nat.le_succ w.heap.size))) := owns_le hown (Nat.le_succ w.heap.size)
  have hB1 : Hid (Below w.heap.size w w1) := hka.below.trans (hb1.mono hka.size)
  have hR1 : Hid (w1.heap[w.heap.size]? = some (.cells #[.int .i64 0, .slice none 0 0] 124 (0, 0))) := (hb1.block _ (by simp)).trans HR.out
  clear hown hb1 CL HR hka
  go_loopw [8, 13] (fun _ iv wr => ∃ l : Nat, l ≤ n ∧ iv = .int .i64 l ∧ Hid (wr.ownsRow w.heap.size 58 2 (.slice (some ⟨g, 0, none⟩) n cap') n (lineCells xa xm n)) ∧ Hid (Below w.heap.size w wr) ∧ Hid (wr.heap[w.heap.size]? = some (.cells #[.int .i64 0, .slice none 0 0] 124 (0, 0)))) (fun _ iv _ => n - (intOf iv).toNat)
  case atStart => exact ⟨0, Nat.zero_le _, rfl, HO, hB1, hR1⟩
  case round =>
    obtain ⟨l, hln, rfl, ho, hb, hr⟩ := hrel
    by_cases hlk : l < n
    · have hlt' : (l : Int) < (n : Int) := by omega
      have hl0 : (0 : Int) ≤ (l : Int) := by omega
      have ca := (ho.out.cellAt (l * 2) (by omega)).trans (lineCells_a xa xm n l hlk)
      have hat2 := HAT.out.mv hb.out
      have hisl := HIN.out l hlk
      have hpk : lessN k.nm k.na (xa l) < k.na ∧ k.nm (lessN k.nm k.na (xa l)) = xa l := isAt_eq hisl
      have hfi := find_any B ga k.ca k.na k.ada k.pa k.nm (xa l) wr hat2 hna
      have e0 : findV k.pa k.nm k.na (xa l) = .pointer (some ⟨k.pa (lessN k.nm k.na (xa l)), 0, none⟩) := by unfold findV; rw [hisl]; rfl
      rw [e0] at hfi
      have CF : Hid (type_of% hfi) := hfi
      have cn := hat2.cn _ hpk.1
      rw [hpk.2] at cn
      have HW : Hid (∀ w2, Grew wr w2 → w2.cell? ⟨k.pa (lessN k.nm k.na (xa l)), 0, none⟩ = some (.string (xa l)) ∧ w2.cell? ⟨g, l * 2, none⟩ = some (.string (xa l)) ∧ w2.frozen? ⟨g, l * 2, none⟩ = false ∧ ∀ w3, w3 = w2.setCell ⟨g, l * 2, none⟩ (.string (xa l)) → Hid (w3.ownsRow w.heap.size 58 2 (.slice (some ⟨g, 0, none⟩) n cap') n (lineCells xa xm n)) ∧ Hid (Below w.heap.size w w3) ∧ Hid (w3.heap[w.heap.size]? = some (.cells #[.int .i64 0, .slice none 0 0] 124 (0, 0)))) := by
        intro w2 hg2
        have ho2 := owns_mv ho.out hg2.below
        have hb2 := hb.out.trans (hg2.below.mono hb.out.size)
        have hst := ho2.stored (l * 2) (.string (xa l))
        rw [lineCells_set_a _ _ _ _ hlk _ rfl] at hst
        refine ⟨hg2.cell' cn, hg2.cell' ca, ho2.frozenAt (l * 2), ?_⟩
        rintro w3 rfl
        exact ⟨hst.1, hb2.setCell (by show w.heap.size ≤ g; omega) _, blk_set_other (hg2.blk hr.out) (by show w.heap.size ≠ g; omega) _⟩
      clear hfi e0 hat2 hisl hpk cn
      go_wp2_with (go_at_call 66; refine Calls.mono CF.out ?_; rintro e w2 ⟨rfl, hg2⟩; obtain ⟨y1, y2, y3, y4⟩ := HW.out w2 hg2)
      go_roundw
      case rel => exact ⟨l + 1, by omega, by go_num, y4 _ rfl⟩
      case measure => simp [intOf]; omega
    · have hlt' : ¬ (l : Int) < (n : Int) := by omega
      have r0 := blk_cell' hr.out (o := 0) rfl
      have r1 := blk_cell' hr.out (o := 1) rfl
      have f0 := blk_free hr.out 0
      have f1 := blk_free hr.out 1
      go_wp2
      refine bodyPost_ret (v := .agg #[.int .i64 day, .slice (some ⟨g, 0, none⟩) n cap']) (results_cell_row Tryz.results61 _ _ w.heap.size _ #[.int .i64 day, .slice (some ⟨g, 0, none⟩) n cap'] _ _ rfl (blk_set (blk_set hr.out 0 _) 1 _) Tryz.underlying124 rfl (by kernel_rfl)) rfl ⟨g, cap', rfl, ?_, ?_⟩
      · exact ownsRow_setCell_other (ownsRow_setCell_other ho.out (a := ⟨w.heap.size, 0, none⟩) (by simp [Value.ownBlock]; omega) _) (a := ⟨w.heap.size, 1, none⟩) (by simp [Value.ownBlock]; omega) _
      · exact (hb.out.setCell (Nat.le_refl _) _).setCell (Nat.le_refl _) _
end Go.Proofs.YtjnmoddcodnadaaGreatDoor
namespace Go.Proofs.YtjnmoddcodnadaaGreatDoor
open Go.RowKit Go.Annal Go.Sort
set_option maxHeartbeats 1000000 in
theorem LockA_err (B : Nat) (k : Bk) (day : Int) (w : World) (h : BookIs w B k) (he : lockE (dayB day) (decide (day < k.ul)) ≠ 0) :
    Calls Tryz.prog 31 #[.pointer (some ⟨B, 0, none⟩), .int .i64 day] w fun r w' => r = .returned (.int .i64 (lockE (dayB day) (decide (day < k.ul)))) ∧ w' = w := by
  have cU : w.cell? ⟨B, 3, none⟩ = some (.int .i64 k.ul) := blk_cell' h.bk rfl
  clear h
  cases hd : dayB day
  · clear he
    go_enter Tryz.func31, Tryz.ntmps31
    go_wp2_with (go_at_call 64; refine Calls.mono (isDay_any _ _) ?_; rintro e wx ⟨rfl, hw⟩; rw [hw]; clear hw wx; rw [hd])
    go_ret
    exact ⟨rfl, rfl⟩
  · rw [hd] at he
    have hu : day < k.ul := Classical.byContradiction fun hu => by
      rw [decide_eq_false hu] at he; exact he rfl
    rw [decide_eq_true hu]
    clear he
    go_enter Tryz.func31, Tryz.ntmps31
    go_wp2_with (first
      | (go_at_call 64; refine Calls.mono (isDay_any _ _) ?_; rintro e wx ⟨rfl, hw⟩; rw [hw]; clear hw wx; rw [hd])
      | (go_at_call 65; refine Calls.mono (isLocked_any B k.ul day _ cU) ?_; rintro e wx ⟨rfl, hw⟩; rw [hw]; clear hw wx))
    go_ret
    exact ⟨rfl, rfl⟩
set_option maxHeartbeats 1000000 in
set_option maxRecDepth 100000 in
theorem LockA_ok (B : Nat) (k : Bk) (day : Int) (w : World) (h : BookIs w B k) (hnd : k.nd ≤ 100000) (hd : dayB day = true) (hu : ¬ day < k.ul) :
    Calls Tryz.prog 31 #[.pointer (some ⟨B, 0, none⟩), .int .i64 day] w fun r w' => r = .returned (.int .i64 0) ∧ Hid (∃ g cap, BookIs w' B { k.did g cap (.iface 131 (.agg #[.int .i64 day])) with ul := day + 1 } ∧ Turn (fun b => k.own B b) w w' ∧ (k.dv.ownBlock = some g ∨ w.heap.size ≤ g)) := by
  obtain ⟨i0, hi, hz0, hz1, hz2⟩ := info_parts Tryz.infoDeed
  have cU : w.cell? ⟨B, 3, none⟩ = some (.int .i64 k.ul) := blk_cell' h.bk rfl
  have c1 : w.cell? ⟨B, 1, none⟩ = some k.dv := blk_cell' h.bk (o := 1) rfl
  have hdd := dayB_yes hd
  have hx1 : ∀ u ∈ [Value.iface 131 (.agg #[.int .i64 day])], u.oneCell' = true := by simp [Value.oneCell']
  have HB : Hid (type_of% h) := h
  have hdn := h.dn
  have H2 : Hid (∀ w2 g cap, w2.ownsRow 0 70 1 (.slice (some ⟨g, 0, none⟩) (k.nd + 1) cap) (k.nd + 1) (k.ds ++ [.iface 131 (.agg #[.int .i64 day])]) → (w.alloc (.cells #[.iface 131 (.agg #[.int .i64 day])] 70)).grownBy w2 k.dv.ownBlock → w2.cell? ⟨B, 1, none⟩ = some k.dv ∧ w2.frozen? ⟨B, 1, none⟩ = false ∧ ∃ w3, w2.setCell ⟨B, 1, none⟩ (.slice (some ⟨g, 0, none⟩) (k.nd + 1) cap) = w3 ∧ w3.cell? ⟨B, 3, none⟩ = some (.int .i64 k.ul) ∧ w3.frozen? ⟨B, 3, none⟩ = false ∧ Hid (BookIs (w3.setCell ⟨B, 3, none⟩ (.int .i64 (day + 1))) B { k.did g cap (.iface 131 (.agg #[.int .i64 day])) with ul := day + 1 } ∧ Turn (fun b => k.own B b) w (w3.setCell ⟨B, 3, none⟩ (.int .i64 (day + 1))))) := by
    intro w2 g cap ho hg
    obtain ⟨q1, q2⟩ := book_did h (((Grew.refl w).alloc _).below) ho hg
    obtain ⟨q3, q4⟩ := q2 _ rfl
    have hns : ∀ b, (k.did g cap (.iface 131 (.agg #[.int .i64 day]))).own B b → b ≠ B → ¬ b = B := fun _ _ h => h
    have T3 : Turn (fun b => k.own B b) w (w2.setCell ⟨B, 1, none⟩ (.slice (some ⟨g, 0, none⟩) (k.nd + 1) cap)) := q4.mono (fun b _ hb => hb.elim .inl (fun h => .inr (.inr (.inl h))))
    refine ⟨blk_cell' q1 rfl, blk_free q1 1, _, rfl, blk_cell' q3.bk rfl, blk_free q3.bk 3, ⟨blk_set q3.bk 3 _, ?_, ?_, ?_, q3.up⟩, T3.set _ _ (fun _ => .inl rfl)⟩
    · exact ownsRow_setCell_other q3.ac (a := ⟨B, 3, none⟩) (owns_ne q3.ac q3.bk (by decide)) _
    · exact ownsRow_setCell_other q3.dn (a := ⟨B, 3, none⟩) (owns_ne q3.dn q3.bk (by decide)) _
    · exact ownsRow_setCell_other q3.en (a := ⟨B, 3, none⟩) (owns_ne q3.en q3.bk (by decide)) _
  clear h
  go_enter Tryz.func31, Tryz.ntmps31
  go_wp2_with (first
    | (go_at_call 64; refine Calls.mono (isDay_any _ _) ?_; rintro e wx ⟨rfl, hw⟩; rw [hw]; clear hw wx; rw [hd])
    | (go_at_call 65; refine Calls.mono (isLocked_any B k.ul day _ cU) ?_; rintro e wx ⟨rfl, hw⟩; rw [hw]; clear hw wx)
    | (at_builtin; go_loud (refine wpList_append_lies _ rfl _ _ 65 rfl 0 70 i0 _ 1 16 Tryz.underlying65 hi hz0 hz1 hz2 rfl (by decide) k.dv k.nd k.ds rfl (hdn.alloc _) ⟨w.heap.size, 0, none⟩ 1 1 [.iface 131 (.agg #[.int .i64 day])] rfl rfl (one_new _ _ _) hx1 (by decide) (by unfold maxLen; omega) (by omega) (Nat.zero_le _) (w.heap.size + 1) (by simp) ?_); intro g2 cap2 w2 ho2 hg2 hat2 hlt2; obtain ⟨b1, b2, w3, hw3, b3, b4, hq3⟩ := H2.out w2 g2 cap2 ho2 hg2))
  go_ret
  exact ⟨rfl, ⟨g2, cap2, hq3.out.1, hq3.out.2, hat2.elim .inl (fun h => .inr (by omega))⟩⟩
end Go.Proofs.YtjnmoddcodnadaaGreatDoor
