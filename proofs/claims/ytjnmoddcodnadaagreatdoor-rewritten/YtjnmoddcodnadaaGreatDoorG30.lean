import Derived.Test.YtjnmoddcodnadaaGreatDoorG10
import Derived.Test.YtjnmoddcodnadaaGreatDoorG23
set_option linter.unusedVariables false
set_option linter.unusedSimpArgs false
namespace Go.Proofs.YtjnmoddcodnadaaGreatDoor
open Go.RowKit Go.Annal
set_option maxHeartbeats 1000000 in
theorem refuse_day (B n cap : Nat) (lad : Option Addr) (day : Int) (w : World) (hd : dayB day = false) :
    Calls Tryz.prog 59 #[.pointer (some ⟨B, 0, none⟩), .int .i64 day, .slice lad n cap] w fun r w' => r = .returned (.int .i64 5) ∧ w' = w := by
  go_enter Tryz.func59, Tryz.ntmps59
  go_wp2_with (go_at_call 64; refine Calls.mono (isDay_any _ _) ?_; rintro e wx ⟨rfl, hw⟩; rw [hw]; clear hw wx; rw [hd])
  go_ret
  exact ⟨rfl, rfl⟩
set_option maxHeartbeats 1000000 in
theorem refuse_len (B n cap : Nat) (lad : Option Addr) (day : Int) (w : World) (hd : dayB day = true) (hn : n < 2 ∨ 6 < n) :
    Calls Tryz.prog 59 #[.pointer (some ⟨B, 0, none⟩), .int .i64 day, .slice lad n cap] w fun r w' => r = .returned (.int .i64 6) ∧ w' = w := by
  rcases hn with hn | hn
  · have h1 : (n : Int) < 2 := by omega
    go_enter Tryz.func59, Tryz.ntmps59
    go_wp2_with (go_at_call 64; refine Calls.mono (isDay_any _ _) ?_; rintro e wx ⟨rfl, hw⟩; rw [hw]; clear hw wx; rw [hd])
    go_ret
    exact ⟨rfl, rfl⟩
  · have h1 : ¬ (n : Int) < 2 := by omega
    have h2 : (6 : Int) < (n : Int) := by omega
    go_enter Tryz.func59, Tryz.ntmps59
    go_wp2_with (go_at_call 64; refine Calls.mono (isDay_any _ _) ?_; rintro e wx ⟨rfl, hw⟩; rw [hw]; clear hw wx; rw [hd])
    go_ret
    exact ⟨rfl, rfl⟩
set_option maxRecDepth 100000 in
set_option maxHeartbeats 4000000 in
theorem refuse_any {ade : Option Addr} {ce : Nat} (B ga ca na ne lg lo n cap : Nat) (ada : Option Addr) (pa : Nat → Nat) (nm xa : Nat → ByteArray) (xm : Nat → Int) (day ul : Int) (w : World) (h : BookAt w B ga ca na ada pa nm) (hna : na ≤ 1000) (hE : w.cell? ⟨B, 2, none⟩ = some (.slice ade ne ce)) (hU : w.cell? ⟨B, 3, none⟩ = some (.int .i64 ul))
    (hL : LinesAt w lg lo n xa xm) (hd : dayB day = true) (hn : 2 ≤ n) (hn6 : n ≤ 6) (hcap : n ≤ cap) :
    Calls Tryz.prog 59 #[.pointer (some ⟨B, 0, none⟩), .int .i64 day, .slice (some ⟨lg, lo, none⟩) n cap] w fun r w' =>
      r = .returned (.int .i64 (postE true (wrongE (isAt nm na) xa xm n) (decide (day < ul)) (decide (60 ≤ ne)))) ∧ Below w.heap.size w w' := by
  have CM : Hid (∀ W, Below w.heap.size w W → Calls Tryz.prog 101 #[.slice (some ⟨lg, lo, none⟩) n cap, .func (.func 102) #[.pointer (some ⟨B, 0, none⟩)] #[]] W fun r w' => r = .returned (.bool (anyN n (fun i => !isAt nm na (xa i)))) ∧ Below W.heap.size W w') := fun W hW =>
    contains_any 102 #[.pointer (some ⟨B, 0, none⟩)] #[] lg lo n cap xa xm (fun i => !isAt nm na (xa i)) W (enters_of Tryz.func102 (by kernel_rfl) rfl) (hL.mv hW) (by omega) (fun i _ W' hW' => isMissing_any B ga ca na ada pa nm (xa i) (xm i) W' ((h.mv hW).mv hW') hna)
  have CT : Hid (∀ W, Below w.heap.size w W → Calls Tryz.prog 103 #[.slice (some ⟨lg, lo, none⟩) n cap] W fun r w' => r = .returned (.bool (anyN n (fun i => anyN i (fun k => (xa i).toList == (xa k).toList)))) ∧ Below W.heap.size W w') := fun W hW => anyTwice_any lg lo n cap xa xm W (hL.mv hW) hn6 hcap
  have CA : Hid (∀ W, Below w.heap.size w W → Calls Tryz.prog 101 #[.slice (some ⟨lg, lo, none⟩) n cap, .func (.func 104) #[] #[]] W fun r w' => r = .returned (.bool (anyN n (fun i => badAmt (xm i)))) ∧ Below W.heap.size W w') := fun W hW =>
    contains_any 104 #[] #[] lg lo n cap xa xm (fun i => badAmt (xm i)) W (enters_of Tryz.func104 (by kernel_rfl) rfl) (hL.mv hW) (by omega) (fun i _ W' _ => (wrongAmt_any (xa i) (xm i) W').mono (by rintro e w' ⟨rfl, rfl⟩; exact ⟨rfl, ((Grew.refl _).alloc _).below⟩))
  have CS : Hid (anyN n (fun i => badAmt (xm i)) = false → ∀ W, Below w.heap.size w W → Calls Tryz.prog 105 #[.slice (some ⟨lg, lo, none⟩) n cap] W fun r w' => r = .returned (.int .i64 (sumN xm n)) ∧ Below W.heap.size W w') := fun hf W hW =>
    (sum_any lg lo n cap xa xm W (hL.mv hW) (by omega) (fun j hj => by
      cases hb : badAmt (xm j)
      · simp only [badAmt, Bool.or_eq_false_iff, decide_eq_false_iff_not] at hb; omega
      · rw [anyN_true hj hb] at hf; cases hf)).mono (by rintro e w' ⟨rfl, hg⟩; exact ⟨rfl, hg.below⟩)
  have h1 : ¬ (n : Int) < 2 := by omega
  have h2 : ¬ (6 : Int) < (n : Int) := by omega
  have hW : Hid (wrongE (isAt nm na) xa xm n = if anyN n (fun i => !isAt nm na (xa i)) then 7 else if anyN n (fun i => anyN i (fun k => (xa i).toList == (xa k).toList)) then 8 else if anyN n (fun i => badAmt (xm i)) then 9 else if sumN xm n = 0 then 0 else 10) := by
    show wrongE _ _ _ _ = _
    unfold wrongE
    rw [if_neg (by omega)]
  generalize wrongE (isAt nm na) xa xm n = E at *
  generalize anyN n (fun i => !isAt nm na (xa i)) = b7 at *
  generalize anyN n (fun i => anyN i (fun k => (xa i).toList == (xa k).toList)) = b8 at *
  generalize anyN n (fun i => badAmt (xm i)) = b9 at *
  generalize sumN xm n = S at *
  clear hL h
  cases b7
  case true =>
    obtain rfl : E = 7 := hW.out
    go_enter Tryz.func59, Tryz.ntmps59
    go_wp2_with (first | (go_at_call 64; refine Calls.mono (isDay_any _ _) ?_; rintro e wx ⟨rfl, hw⟩; rw [hw]; clear hw wx; rw [hd]) | (go_at_call 101; refine Calls.mono (CM.out _ (Below.refl _ _)) ?_; rintro e w1 ⟨rfl, hb1⟩))
    go_ret
    exact ⟨rfl, hb1⟩
  case false =>
  cases b8
  case true =>
    obtain rfl : E = 8 := hW.out
    go_enter Tryz.func59, Tryz.ntmps59
    go_wp2_with (first | (go_at_call 64; refine Calls.mono (isDay_any _ _) ?_; rintro e wx ⟨rfl, hw⟩; rw [hw]; clear hw wx; rw [hd]) | (go_at_call 101; refine Calls.mono (CM.out _ (Below.refl _ _)) ?_; rintro e w1 ⟨rfl, hb1⟩) | (go_at_call 103; refine Calls.mono (CT.out _ hb1) ?_; rintro e w2 ⟨rfl, hb2⟩; replace hb2 := hb1.trans (hb2.mono hb1.size)))
    go_ret
    exact ⟨rfl, hb2⟩
  case false =>
  cases b9
  case true =>
    obtain rfl : E = 9 := hW.out
    go_enter Tryz.func59, Tryz.ntmps59
    go_wp2_with (first | (go_at_call 64; refine Calls.mono (isDay_any _ _) ?_; rintro e wx ⟨rfl, hw⟩; rw [hw]; clear hw wx; rw [hd]) | (go_at_call 101; refine Calls.mono (CM.out _ (Below.refl _ _)) ?_; rintro e w1 ⟨rfl, hb1⟩) | (go_at_call 103; refine Calls.mono (CT.out _ hb1) ?_; rintro e w2 ⟨rfl, hb2⟩; replace hb2 := hb1.trans (hb2.mono hb1.size)) | (go_at_call 101; refine Calls.mono (CA.out _ hb2) ?_; rintro e w3 ⟨rfl, hb3⟩; replace hb3 := hb2.trans (hb3.mono hb2.size)))
    go_ret
    exact ⟨rfl, hb3⟩
  case false =>
  have CS' : Hid (type_of% (CS.out rfl)) := CS.out rfl
  clear CS
  by_cases h0 : S = 0
  case neg =>
    obtain rfl : E = 10 := by have := hW.out; rw [if_neg h0] at this; exact this
    have h0' : (S != 0) = true := by simpa using h0
    go_enter Tryz.func59, Tryz.ntmps59
    go_wp2_with (first | (go_at_call 64; refine Calls.mono (isDay_any _ _) ?_; rintro e wx ⟨rfl, hw⟩; rw [hw]; clear hw wx; rw [hd]) | (go_at_call 101; refine Calls.mono (CM.out _ (Below.refl _ _)) ?_; rintro e w1 ⟨rfl, hb1⟩) | (go_at_call 103; refine Calls.mono (CT.out _ hb1) ?_; rintro e w2 ⟨rfl, hb2⟩; replace hb2 := hb1.trans (hb2.mono hb1.size)) | (go_at_call 101; refine Calls.mono (CA.out _ hb2) ?_; rintro e w3 ⟨rfl, hb3⟩; replace hb3 := hb2.trans (hb3.mono hb2.size)) | (go_at_call 105; refine Calls.mono (CS'.out _ hb3) ?_; rintro e w4 ⟨rfl, hb4⟩; replace hb4 := hb3.trans (hb4.mono hb3.size); have cE := cell_later hb4 hE; have cU := cell_later hb4 hU))
    go_ret
    exact ⟨rfl, hb4⟩
  case pos =>
    subst h0
    obtain rfl : E = 0 := hW.out
    clear hW
    have e11 : Hid (day < ul → postE true 0 (decide (day < ul)) (decide (60 ≤ ne)) = 11) := fun h => by show postE _ _ _ _ = _; simp [postE, h]
    have e4 : Hid (¬ day < ul → 60 ≤ ne → postE true 0 (decide (day < ul)) (decide (60 ≤ ne)) = 4) := fun h h' => by show postE _ _ _ _ = _; simp [postE, h, h']
    have e0 : Hid (¬ day < ul → ¬ 60 ≤ ne → postE true 0 (decide (day < ul)) (decide (60 ≤ ne)) = 0) := fun h h' => by show postE _ _ _ _ = _; simp [postE, h, h']
    generalize postE true 0 (decide (day < ul)) (decide (60 ≤ ne)) = E at *
    by_cases hu : day < ul
    · obtain rfl := e11.out hu
      go_enter Tryz.func59, Tryz.ntmps59
      go_wp2_with (first | (go_at_call 64; refine Calls.mono (isDay_any _ _) ?_; rintro e wx ⟨rfl, hw⟩; rw [hw]; clear hw wx; rw [hd]) | (go_at_call 101; refine Calls.mono (CM.out _ (Below.refl _ _)) ?_; rintro e w1 ⟨rfl, hb1⟩) | (go_at_call 103; refine Calls.mono (CT.out _ hb1) ?_; rintro e w2 ⟨rfl, hb2⟩; replace hb2 := hb1.trans (hb2.mono hb1.size)) | (go_at_call 101; refine Calls.mono (CA.out _ hb2) ?_; rintro e w3 ⟨rfl, hb3⟩; replace hb3 := hb2.trans (hb3.mono hb2.size)) | (go_at_call 105; refine Calls.mono (CS'.out _ hb3) ?_; rintro e w4 ⟨rfl, hb4⟩; replace hb4 := hb3.trans (hb4.mono hb3.size); have cE := cell_later hb4 hE; have cU := cell_later hb4 hU) | (go_at_call 65; refine Calls.mono (isLocked_any B ul day _ cU) ?_; rintro e wx ⟨rfl, hw⟩; rw [hw]; clear hw wx) | (go_at_call 106; refine Calls.mono (isFull_any B ne ce ade _ cE) ?_; rintro e wx ⟨rfl, hw⟩; rw [hw]; clear hw wx))
      go_ret
      exact ⟨rfl, hb4⟩
    · by_cases hm : 60 ≤ ne
      · obtain rfl := e4.out hu hm
        have hm' : (60 : Int) ≤ (ne : Int) := by omega
        go_enter Tryz.func59, Tryz.ntmps59
        go_wp2_with (first | (go_at_call 64; refine Calls.mono (isDay_any _ _) ?_; rintro e wx ⟨rfl, hw⟩; rw [hw]; clear hw wx; rw [hd]) | (go_at_call 101; refine Calls.mono (CM.out _ (Below.refl _ _)) ?_; rintro e w1 ⟨rfl, hb1⟩) | (go_at_call 103; refine Calls.mono (CT.out _ hb1) ?_; rintro e w2 ⟨rfl, hb2⟩; replace hb2 := hb1.trans (hb2.mono hb1.size)) | (go_at_call 101; refine Calls.mono (CA.out _ hb2) ?_; rintro e w3 ⟨rfl, hb3⟩; replace hb3 := hb2.trans (hb3.mono hb2.size)) | (go_at_call 105; refine Calls.mono (CS'.out _ hb3) ?_; rintro e w4 ⟨rfl, hb4⟩; replace hb4 := hb3.trans (hb4.mono hb3.size); have cE := cell_later hb4 hE; have cU := cell_later hb4 hU) | (go_at_call 65; refine Calls.mono (isLocked_any B ul day _ cU) ?_; rintro e wx ⟨rfl, hw⟩; rw [hw]; clear hw wx) | (go_at_call 106; refine Calls.mono (isFull_any B ne ce ade _ cE) ?_; rintro e wx ⟨rfl, hw⟩; rw [hw]; clear hw wx))
        go_ret
        exact ⟨rfl, hb4⟩
      · obtain rfl := e0.out hu hm
        have hm' : ¬ (60 : Int) ≤ (ne : Int) := by omega
        go_enter Tryz.func59, Tryz.ntmps59
        go_wp2_with (first | (go_at_call 64; refine Calls.mono (isDay_any _ _) ?_; rintro e wx ⟨rfl, hw⟩; rw [hw]; clear hw wx; rw [hd]) | (go_at_call 101; refine Calls.mono (CM.out _ (Below.refl _ _)) ?_; rintro e w1 ⟨rfl, hb1⟩) | (go_at_call 103; refine Calls.mono (CT.out _ hb1) ?_; rintro e w2 ⟨rfl, hb2⟩; replace hb2 := hb1.trans (hb2.mono hb1.size)) | (go_at_call 101; refine Calls.mono (CA.out _ hb2) ?_; rintro e w3 ⟨rfl, hb3⟩; replace hb3 := hb2.trans (hb3.mono hb2.size)) | (go_at_call 105; refine Calls.mono (CS'.out _ hb3) ?_; rintro e w4 ⟨rfl, hb4⟩; replace hb4 := hb3.trans (hb4.mono hb3.size); have cE := cell_later hb4 hE; have cU := cell_later hb4 hU) | (go_at_call 65; refine Calls.mono (isLocked_any B ul day _ cU) ?_; rintro e wx ⟨rfl, hw⟩; rw [hw]; clear hw wx) | (go_at_call 106; refine Calls.mono (isFull_any B ne ce ade _ cE) ?_; rintro e wx ⟨rfl, hw⟩; rw [hw]; clear hw wx))
        go_ret
        exact ⟨rfl, hb4⟩
end Go.Proofs.YtjnmoddcodnadaaGreatDoor
