import Derived.Test.YtdljdffnnnoafaaGreatRef1
set_option linter.unusedVariables false
set_option linter.unusedSimpArgs false
namespace Go.Annal
def anyN (n : Nat) (p : Nat → Bool) : Bool := (List.range n).any p
theorem anyN_true {n : Nat} {p : Nat → Bool} {k : Nat} (hk : k < n) (h : p k = true) : anyN n p = true := List.any_eq_true.2 ⟨k, by simpa using hk, h⟩
theorem anyN_false {n : Nat} {p : Nat → Bool} (h : ∀ k, k < n → p k = false) : anyN n p = false := by
  rw [Bool.eq_false_iff]; intro hc
  obtain ⟨k, hk, hp⟩ := List.any_eq_true.1 hc
  rw [h k (by simpa using hk)] at hp; cases hp
def badAmt (m : Int) : Bool := decide (m = 0) || decide (m < -1000000000) || decide (1000000000 < m)
def sumN (xm : Nat → Int) : Nat → Int
  | 0 => 0
  | k + 1 => sumN xm k + xm k
theorem sumN_bd (xm : Nat → Int) : ∀ k, (∀ j, j < k → badAmt (xm j) = false) → -(1000000000 * (k : Int)) ≤ sumN xm k ∧ sumN xm k ≤ 1000000000 * (k : Int)
  | 0, _ => by simp [sumN]
  | k + 1, h => by
    have := sumN_bd xm k (fun j hj => h j (by omega))
    have h2 := h k (by omega)
    simp only [badAmt, Bool.or_eq_false_iff, decide_eq_false_iff_not] at h2
    simp only [sumN]; omega
/-- What is wrong with n lines. -/
def wrongE (there : ByteArray → Bool) (xa : Nat → ByteArray) (xm : Nat → Int) (n : Nat) : Int :=
  if n < 2 ∨ 6 < n then 6 else if anyN n (fun i => !there (xa i)) then 7 else if anyN n (fun i => anyN i (fun k => (xa i).toList == (xa k).toList)) then 8
  else if anyN n (fun i => badAmt (xm i)) then 9 else if sumN xm n = 0 then 0 else 10
end Go.Annal
namespace Go.Proofs.YtdljdffnnnoafaaGreat
open Go.RowKit Go.Annal
/-- Lines that are handed in: n of them, at an address. -/
structure LinesAt (w : World) (lg lo n : Nat) (xa : Nat → ByteArray) (xm : Nat → Int) : Prop where
  ca : ∀ k, k < n → w.cell? ⟨lg, lo + k * 2, none⟩ = some (.string (xa k))
  cm : ∀ k, k < n → w.cell? ⟨lg, lo + k * 2 + 1, none⟩ = some (.int .i64 (xm k))
theorem LinesAt.mv {w w' : World} {lg lo n : Nat} {xa : Nat → ByteArray} {xm : Nat → Int} (h : LinesAt w lg lo n xa xm) (hb : Below w.heap.size w w') : LinesAt w' lg lo n xa xm :=
  ⟨fun k hk => cell_later hb (h.ca k hk), fun k hk => cell_later hb (h.cm k hk)⟩

theorem drewN_add (w : World) (a b : Nat) : (w.drewN a).drewN b = w.drewN (a + b) := by
  simp only [drewN_eq]; rw [Nat.add_assoc]

set_option maxRecDepth 100000 in
set_option maxHeartbeats 1000000 in
theorem wrong_len (R n cap : Nat) (lad : Option Addr) (w : World) (hn : n < 2 ∨ 6 < n) (hn2 : n ≤ 1000000000000) :
    Calls Tryz.prog 60 #[.pointer (some ⟨R, 0, none⟩), .slice lad n cap] w fun r w' => r = .returned (.int .i64 6) ∧ w' = w := by
  rcases hn with hn | hn
  · have h1 : (n : Int) < 2 := by omega
    go_enter Tryz.func60, Tryz.ntmps60
    go_wp2
    go_ret
    exact ⟨rfl, rfl⟩
  · have h1 : ¬ (n : Int) < 2 := by omega
    have h2 : (6 : Int) < (n : Int) := by omega
    go_enter Tryz.func60, Tryz.ntmps60
    go_wp2
    go_ret
    exact ⟨rfl, rfl⟩

set_option maxRecDepth 100000 in
set_option maxHeartbeats 2000000 in
theorem wrong_any (R ga ca na n cap lg lo : Nat) (ada : Option Addr) (fn : Nat → ByteArray) (xa : Nat → ByteArray) (xm : Nat → Int) (w : World) (hA : AccsAt w R ga ca na ada fn) (hL : LinesAt w lg lo n xa xm) (hn : 2 ≤ n) (hn6 : n ≤ 6) :
    Calls Tryz.prog 60 #[.pointer (some ⟨R, 0, none⟩), .slice (some ⟨lg, lo, none⟩) n cap] w fun r w' => r = .returned (.int .i64 (wrongE (fun x => decide (0 ≤ atI fn na x)) xa xm n)) ∧ ∃ q, w' = w.drewN q := by
  have h1 : ¬ (n : Int) < 2 := by omega
  have h2 : ¬ (6 : Int) < (n : Int) := by omega
  have e7 : Hid (anyN n (fun i => !decide (0 ≤ atI fn na (xa i))) = true → wrongE (fun x => decide (0 ≤ atI fn na x)) xa xm n = 7) := fun h => by unfold wrongE; rw [if_neg (by omega), if_pos h]
  have e8 : Hid (anyN n (fun i => !decide (0 ≤ atI fn na (xa i))) = false → anyN n (fun i => anyN i (fun k => (xa i).toList == (xa k).toList)) = true → wrongE (fun x => decide (0 ≤ atI fn na x)) xa xm n = 8) := fun h h' => by unfold wrongE; rw [if_neg (by omega), if_neg (by simp [h]), if_pos h']
  have e9 : Hid (anyN n (fun i => !decide (0 ≤ atI fn na (xa i))) = false → anyN n (fun i => anyN i (fun k => (xa i).toList == (xa k).toList)) = false → anyN n (fun i => badAmt (xm i)) = true → wrongE (fun x => decide (0 ≤ atI fn na x)) xa xm n = 9) := fun h h' h'' => by unfold wrongE; rw [if_neg (by omega), if_neg (by simp [h]), if_neg (by simp [h']), if_pos h'']
  have e0 : Hid (anyN n (fun i => !decide (0 ≤ atI fn na (xa i))) = false → anyN n (fun i => anyN i (fun k => (xa i).toList == (xa k).toList)) = false → anyN n (fun i => badAmt (xm i)) = false → wrongE (fun x => decide (0 ≤ atI fn na x)) xa xm n = if sumN xm n = 0 then 0 else 10) := fun h h' h'' => by unfold wrongE; rw [if_neg (by omega), if_neg (by simp [h]), if_neg (by simp [h']), if_neg (by simp [h''])]
  have CA : Hid _ := fun x => hA.at x
  generalize wrongE (fun x => decide (0 ≤ atI fn na x)) xa xm n = E at *
  clear hA
  go_enter Tryz.func60, Tryz.ntmps60
  go_wp2
  go_loop [5, 6] (fun iv _ => ∃ i : Nat, i ≤ n ∧ iv = .int .i64 i ∧ ∀ j, j < i → decide (0 ≤ atI fn na (xa j)) = true) (fun iv _ => n - (intOf iv).toNat)
  case atStart => exact ⟨0, Nat.zero_le _, rfl, fun _ h => by omega⟩
  case round =>
    obtain ⟨i, hi, rfl, hb⟩ := hrel
    have HB : Hid _ := hb
    clear hb
    by_cases hlt : i < n
    · have hlt' : (i : Int) < (n : Int) := by omega
      have hi0 : (0 : Int) ≤ (i : Int) := by omega
      have ca := hL.ca i hlt
      have CX : Hid _ := CA.out (xa i)
      by_cases ht : atI fn na (xa i) < 0
      · have fin : Hid (E = 7) := e7.out (anyN_true hlt (by simp; omega))
        clear e7 e8 e9 e0 CA hL
        go_wp2_with (go_at_call 30; refine Calls.mono CX.out ?_; rintro e wx ⟨rfl, hw⟩; rw [hw]; clear hw wx)
        go_ret
        exact ⟨ret_int fin.out.symm, 0, rfl⟩
      · have ht' : ¬ atI fn na (xa i) < 0 := ht
        have HN : Hid (∀ j, j < i + 1 → decide (0 ≤ atI fn na (xa j)) = true) := fun j hj => by
          by_cases h : j = i
          · subst h; simp; omega
          · exact HB.out j (by omega)
        clear e7 e8 e9 e0 CA hL
        go_wp2_with (go_at_call 30; refine Calls.mono CX.out ?_; rintro e wx ⟨rfl, hw⟩; rw [hw]; clear hw wx)
        go_round
        case rel => exact ⟨i + 1, by omega, by go_num, HN.out⟩
        case measure => simp [intOf]; omega
    · have hlt' : ¬ (i : Int) < (n : Int) := by omega
      have F7 : Hid (anyN n (fun i => !decide (0 ≤ atI fn na (xa i))) = false) := anyN_false (fun k hk => by rw [HB.out k (by omega)]; rfl)
      clear HB CA e7
      go_wp2
      go_loopw [7, 8] (fun iv _ wr => ∃ i q : Nat, i ≤ n ∧ iv = .int .i64 i ∧ (∀ j, j < i → anyN j (fun k => (xa j).toList == (xa k).toList) = false) ∧ wr = w.drewN q) (fun iv _ _ => n - (intOf iv).toNat)
      case atStart => exact ⟨0, 0, Nat.zero_le _, rfl, fun _ h => by omega, rfl⟩
      case round =>
        obtain ⟨i2, q, hi2, rfl, hb, rfl⟩ := hrel
        have HB : Hid _ := hb
        clear hb
        by_cases hlt2 : i2 < n
        · have hlt2' : (i2 : Int) < (n : Int) := by omega
          have hi20 : (0 : Int) ≤ (i2 : Int) := by omega
          have ci := hL.ca i2 hlt2
          go_wp2
          go_loopw [8] (fun kv wr => ∃ k q : Nat, k ≤ i2 ∧ kv = .int .i64 k ∧ (∀ j, j < k → ((xa i2).toList == (xa j).toList) = false) ∧ wr = w.drewN q) (fun kv _ => i2 - (intOf kv).toNat)
          case atStart => exact ⟨0, q, Nat.zero_le _, rfl, fun _ h => by omega, rfl⟩
          case round =>
            obtain ⟨k, q2, hk, rfl, hb2, rfl⟩ := hrel
            have HB2 : Hid _ := hb2
            clear hb2
            by_cases hkl : k < i2
            · have hkl' : (k : Int) < (i2 : Int) := by omega
              have hkn' : (k : Int) < (n : Int) := by omega
              have hk0 : (0 : Int) ≤ (k : Int) := by omega
              have ck := hL.ca k (by omega)
              cases he : (xa i2).toList == (xa k).toList
              · have HN : Hid (∀ j, j < k + 1 → ((xa i2).toList == (xa j).toList) = false) := fun j hj => by
                  by_cases h : j = k
                  · subst h; exact he
                  · exact HB2.out j (by omega)
                clear e8 e9 e0 hL
                go_wp2
                go_quiet (fail)
                go_wp2
                refine ⟨⟨k + 1, q2 + nq, by omega, by go_num, HN.out, rfl⟩, by simp [intOf]; omega⟩
              · have fin : Hid (E = 8) := e8.out F7.out (anyN_true hlt2 (anyN_true hkl he))
                clear e8 e9 e0 hL
                go_wp2
                go_quiet (fail)
                go_wp2
                go_ret
                exact ⟨ret_int fin.out.symm, q2 + nq, drewN_add _ _ _⟩
            · have hkl' : ¬ (k : Int) < (i2 : Int) := by omega
              have HN : Hid (∀ j, j < i2 + 1 → anyN j (fun k => (xa j).toList == (xa k).toList) = false) := fun j hj => by
                by_cases h : j = i2
                · subst h; exact anyN_false (fun t ht => HB2.out t (by omega))
                · exact HB.out j (by omega)
              clear e8 e9 e0 hL
              go_wp2
              go_roundw
              case rel => exact ⟨i2 + 1, q2, by omega, by go_num, HN.out, rfl⟩
              case measure => simp [intOf]; omega
        · have hlt2' : ¬ (i2 : Int) < (n : Int) := by omega
          have F8 : Hid (anyN n (fun i => anyN i (fun k => (xa i).toList == (xa k).toList)) = false) := anyN_false (fun k hk => HB.out k (by omega))
          clear HB e8
          go_wp2
          go_loopw [9, 10] (fun sv iv wr => ∃ i : Nat, i ≤ n ∧ iv = .int .i64 i ∧ sv = .int .i64 (sumN xm i) ∧ (∀ j, j < i → badAmt (xm j) = false) ∧ wr = w.drewN q) (fun _ iv _ => n - (intOf iv).toNat)
          case atStart => exact ⟨0, Nat.zero_le _, rfl, rfl, fun _ h => by omega, rfl⟩
          case round =>
            obtain ⟨i3, hi3, rfl, rfl, hb, rfl⟩ := hrel
            have hsb := sumN_bd xm i3 hb
            obtain ⟨hsb1, hsb2⟩ := hsb
            have HB : Hid _ := hb
            clear hb
            by_cases hlt3 : i3 < n
            · have hlt3' : (i3 : Int) < (n : Int) := by omega
              have hi30 : (0 : Int) ≤ (i3 : Int) := by omega
              have cm := hL.cm i3 hlt3
              have hst : Hid (sumN xm (i3 + 1) = sumN xm i3 + xm i3) := rfl
              have H9 : Hid (badAmt (xm i3) = true → E = 9) := fun h => e9.out F7.out F8.out (anyN_true hlt3 h)
              have HN : Hid (badAmt (xm i3) = false → ∀ j, j < i3 + 1 → badAmt (xm j) = false) := fun h0 j hj => by
                by_cases h : j = i3
                · subst h; exact h0
                · exact HB.out j (by omega)
              generalize hm : xm i3 = m at *
              clear hm
              generalize sumN xm i3 = S at *
              clear e9 e0 hL
              rcases (show m = 0 ∨ m < -1000000000 ∨ 1000000000 < m ∨ (m ≠ 0 ∧ -1000000000 ≤ m ∧ m ≤ 1000000000) by omega) with hz | hz | hz | ⟨hz0, hz1, hz2⟩
              · have fin : Hid (E = 9) := H9.out (by simp [badAmt, hz])
                have t1 : (m == 0) = true := by simp [hz]
                clear hz
                go_wp2
                go_ret
                exact ⟨ret_int fin.out.symm, _, rfl⟩
              · have fin : Hid (E = 9) := H9.out (by simp [badAmt, hz])
                have t1 : (m == 0) = false := by rw [beq_eq_false_iff_ne]; omega
                go_wp2
                go_ret
                exact ⟨ret_int fin.out.symm, _, rfl⟩
              · have fin : Hid (E = 9) := H9.out (by simp [badAmt, hz])
                have t1 : (m == 0) = false := by rw [beq_eq_false_iff_ne]; omega
                have t2 : ¬ m < -1000000000 := by omega
                go_wp2
                go_ret
                exact ⟨ret_int fin.out.symm, _, rfl⟩
              · have hok := HN.out (by simp [badAmt]; omega)
                have HO : Hid _ := hok
                clear hok
                have t1 : (m == 0) = false := by rw [beq_eq_false_iff_ne]; omega
                have t2 : ¬ m < -1000000000 := by omega
                have t3 : ¬ 1000000000 < m := by omega
                go_wp2
                go_roundw
                case rel => exact ⟨i3 + 1, by omega, by go_num, by rw [hst.out], HO.out, by first | rfl | trivial⟩
                case measure => simp [intOf]; omega
            · have hlt3' : ¬ (i3 : Int) < (n : Int) := by omega
              have hie : i3 = n := by omega
              subst hie
              have fin : Hid (E = if sumN xm i3 = 0 then 0 else 10) := e0.out F7.out F8.out (anyN_false HB.out)
              clear e9 e0 hL
              by_cases h0 : sumN xm i3 = 0
              · have fin' : Hid (E = 0) := by show E = 0; rw [fin.out, if_pos h0]
                go_wp2
                go_ret
                exact ⟨ret_int fin'.out.symm, _, rfl⟩
              · have fin' : Hid (E = 10) := by show E = 10; rw [fin.out, if_neg h0]
                have t0 : (sumN xm i3 != 0) = true := by simpa using h0
                go_wp2
                go_ret
                exact ⟨ret_int fin'.out.symm, _, rfl⟩
end Go.Proofs.YtdljdffnnnoafaaGreat
