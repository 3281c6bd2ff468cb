import Derived.Test.YtjnmoddcodnadaaGreatDoorG36
import Derived.Test.YtjnmoddcodnadaaGreatDoorG04
set_option linter.unusedVariables false
set_option linter.unusedSimpArgs false
namespace Go.Proofs.YtjnmoddcodnadaaGreatDoor
open Go.RowKit Go.Annal Go.Sort
set_option maxHeartbeats 1000000 in
set_option maxRecDepth 100000 in
theorem redo_rev (B : Nat) (s : St) (Fp : Nat → Prop) (x text : ByteArray) (w : World) (h : ProgIs w B s Fp) (ho : s.Ok) (ht : Tabs w) (hx : x.size ≤ 1000000000) (hc : ∀ W, Calls Tryz.prog 52 #[.string text, .string ⟨#[10]⟩] W fun r w' => r = .returned (.tuple #[.string x, .bool true]) ∧ w' = W) (hw : wd x = ⟨#[114]⟩) :
    Calls Tryz.prog 27 #[.pointer (some ⟨B, 0, none⟩), .string text] w fun r w' => r = .returned (.int .i64 (doF s x).1) ∧ Redone w w' B (doF s x).2 Fp := by
  have hrx := rs_size x
  have hrx2 := rs_size (rs x)
  have hwx1 := wd_size (rs x)
  have hwx2 := wd_size (rs (rs x))
  have CW : Hid (type_of% (redo_word (x := x) ht hx)) := redo_word (x := x) ht hx
  rw [hw] at CW
  have CC : Hid (type_of% hc) := hc
  have C1 : Hid (∀ W, LineIs W w.heap.size (rs x) (fd x) (false || !true) → Below w.heap.size w W → _) := fun W h1 h2 => rNumber ht (Nat.le_refl _) W (rs x) (fd x) (false || !true) h1 h2 (by omega)
  have CP : Hid (∀ W n, Below w.heap.size w W → _) := fun W n hW => progRev B s Fp n W (h.turn (S := fun _ => False) (Turn.of_below hW) (fun _ _ h => h)) ho
  have HN : Hid (¬ wd x = ⟨#[111]⟩ ∧ ¬ wd x = ⟨#[112]⟩) := ⟨by rw [hw]; decide, by rw [hw]; decide⟩
  have HH : Hid (type_of% h) := h
  have HW : Hid (type_of% hw) := hw
  have eR : (!(fd (rs x)) && !(((false || !true) || !(fd x)) || !(numB (wd (rs x))).isSome)) = (fd x && (numB (wd (rs x))).isSome && !fd (rs x)) := by
    cases fd x <;> cases fd (rs x) <;> cases (numB (wd (rs x))).isSome <;> rfl
  have CR : Hid (∀ W, LineIs W w.heap.size (rs (rs x)) (fd (rs x)) (((false || !true) || !(fd x)) || !(numB (wd (rs x))).isSome) → Below w.heap.size w W → Calls Tryz.prog 57 #[.pointer (some ⟨w.heap.size, 0, none⟩)] W fun r w' => r = .returned (.bool (fd x && (numB (wd (rs x))).isSome && !fd (rs x))) ∧ Hid (Below W.heap.size W w' ∧ Below w.heap.size w w')) := fun W h1 h2 => by
    have := rRight W _ _ _ h1 h2
    rw [eR] at this
    exact this
  clear eR
  cases hok : (fd x && (numB (wd (rs x))).isSome && !fd (rs x)) with
  | true =>
    have hD : ∀ n, (numB (wd (rs x))).getD 0 = n → doF s x = (s.revE n, s.afterRev n) := fun n hn => by
      unfold doF
      rw [if_neg HN.out.1, if_neg HN.out.2, if_pos HW.out, hok, hn]; rfl
    have hs : (numB (wd (rs x))).isSome = true := by revert hok; cases fd x <;> cases fd (rs x) <;> cases (numB (wd (rs x))).isSome <;> simp
    rw [hok] at CR
    have HD : Hid (type_of% hD) := hD
    have HS : Hid (type_of% hs) := hs
    clear hD hs hok hw hc h ht
    go_enter Tryz.func27, Tryz.ntmps27
    go_wp2_with (first
      | (go_at_call 52; with_reducible refine Calls.mono (CC.out _) ?_; rintro e wx ⟨rfl, hw⟩; rw [hw]; clear hw wx)
      | (go_at_call 53; with_reducible refine Calls.mono (of_any _ _) ?_; rintro e wx ⟨rfl, hw⟩; rw [hw]; clear hw wx)
      | (go_at_call 54; with_reducible refine Calls.mono CW.out ?_; rintro e w2 ⟨rfl, k0⟩; have a0 := k0.out.1; have b0 := k0.out.2)
      | (go_at_call 56; with_reducible refine Calls.mono (C1.out _ a0 b0) ?_; rintro e v1 ⟨n, rfl, k1⟩; have m1 := k1.out.1; have a1 := k1.out.2.1; have b1 := k1.out.2.2)
      | (go_at_call 57; with_reducible refine Calls.mono (CR.out _ a1 b1) ?_; rintro e w4 ⟨rfl, h4⟩)
      | (go_at_call 30; with_reducible refine Calls.mono (CP.out _ n h4.out.2) ?_; rintro e w5 ⟨rfl, h5⟩))
    go_ret
    rw [HD.out n (getD_num m1 HS.out)]
    exact ⟨rfl, redone_by h4.out.2 h5⟩
  | false =>
    have hD : doF s x = (14, s) := by
      unfold doF
      rw [if_neg HN.out.1, if_neg HN.out.2, if_pos HW.out, hok]; rfl
    rw [hok] at CR
    have HD : Hid (type_of% hD) := hD
    clear hD hok hw hc h ht
    go_enter Tryz.func27, Tryz.ntmps27
    go_wp2_with (first
      | (go_at_call 52; with_reducible refine Calls.mono (CC.out _) ?_; rintro e wx ⟨rfl, hw⟩; rw [hw]; clear hw wx)
      | (go_at_call 53; with_reducible refine Calls.mono (of_any _ _) ?_; rintro e wx ⟨rfl, hw⟩; rw [hw]; clear hw wx)
      | (go_at_call 54; with_reducible refine Calls.mono CW.out ?_; rintro e w2 ⟨rfl, k0⟩; have a0 := k0.out.1; have b0 := k0.out.2)
      | (go_at_call 56; with_reducible refine Calls.mono (C1.out _ a0 b0) ?_; rintro e v1 ⟨n, rfl, k1⟩; have m1 := k1.out.1; have a1 := k1.out.2.1; have b1 := k1.out.2.2)
      | (go_at_call 57; with_reducible refine Calls.mono (CR.out _ a1 b1) ?_; rintro e w4 ⟨rfl, h4⟩))
    go_ret
    rw [HD.out]
    exact ⟨rfl, redone_same HH.out h4.out.2⟩
set_option maxHeartbeats 1000000 in
set_option maxRecDepth 100000 in
theorem redo_lock (B : Nat) (s : St) (Fp : Nat → Prop) (x text : ByteArray) (w : World) (h : ProgIs w B s Fp) (ho : s.Ok) (ht : Tabs w) (hx : x.size ≤ 1000000000) (hc : ∀ W, Calls Tryz.prog 52 #[.string text, .string ⟨#[10]⟩] W fun r w' => r = .returned (.tuple #[.string x, .bool true]) ∧ w' = W) (hw : wd x = ⟨#[108]⟩) :
    Calls Tryz.prog 27 #[.pointer (some ⟨B, 0, none⟩), .string text] w fun r w' => r = .returned (.int .i64 (doF s x).1) ∧ Redone w w' B (doF s x).2 Fp := by
  have hrx := rs_size x
  have hrx2 := rs_size (rs x)
  have hwx1 := wd_size (rs x)
  have hwx2 := wd_size (rs (rs x))
  have CW : Hid (type_of% (redo_word (x := x) ht hx)) := redo_word (x := x) ht hx
  rw [hw] at CW
  have CC : Hid (type_of% hc) := hc
  have C1 : Hid (∀ W, LineIs W w.heap.size (rs x) (fd x) (false || !true) → Below w.heap.size w W → _) := fun W h1 h2 => rNumber ht (Nat.le_refl _) W (rs x) (fd x) (false || !true) h1 h2 (by omega)
  have CP : Hid (∀ W n, Below w.heap.size w W → _) := fun W n hW => progLock B s Fp n W (h.turn (S := fun _ => False) (Turn.of_below hW) (fun _ _ h => h)) ho
  have HN : Hid (¬ wd x = ⟨#[111]⟩ ∧ ¬ wd x = ⟨#[112]⟩ ∧ ¬ wd x = ⟨#[114]⟩) := ⟨by rw [hw]; decide, by rw [hw]; decide, by rw [hw]; decide⟩
  have HH : Hid (type_of% h) := h
  have HW : Hid (type_of% hw) := hw
  have eR : (!(fd (rs x)) && !(((false || !true) || !(fd x)) || !(numB (wd (rs x))).isSome)) = (fd x && (numB (wd (rs x))).isSome && !fd (rs x)) := by
    cases fd x <;> cases fd (rs x) <;> cases (numB (wd (rs x))).isSome <;> rfl
  have CR : Hid (∀ W, LineIs W w.heap.size (rs (rs x)) (fd (rs x)) (((false || !true) || !(fd x)) || !(numB (wd (rs x))).isSome) → Below w.heap.size w W → Calls Tryz.prog 57 #[.pointer (some ⟨w.heap.size, 0, none⟩)] W fun r w' => r = .returned (.bool (fd x && (numB (wd (rs x))).isSome && !fd (rs x))) ∧ Hid (Below W.heap.size W w' ∧ Below w.heap.size w w')) := fun W h1 h2 => by
    have := rRight W _ _ _ h1 h2
    rw [eR] at this
    exact this
  clear eR
  cases hok : (fd x && (numB (wd (rs x))).isSome && !fd (rs x)) with
  | true =>
    have hD : ∀ n, (numB (wd (rs x))).getD 0 = n → doF s x = (s.lockE n, s.afterLock n) := fun n hn => by
      unfold doF
      rw [if_neg HN.out.1, if_neg HN.out.2.1, if_neg HN.out.2.2, if_pos HW.out, hok, hn]; rfl
    have hs : (numB (wd (rs x))).isSome = true := by revert hok; cases fd x <;> cases fd (rs x) <;> cases (numB (wd (rs x))).isSome <;> simp
    rw [hok] at CR
    have HD : Hid (type_of% hD) := hD
    have HS : Hid (type_of% hs) := hs
    clear hD hs hok hw hc h ht
    go_enter Tryz.func27, Tryz.ntmps27
    go_wp2_with (first
      | (go_at_call 52; with_reducible refine Calls.mono (CC.out _) ?_; rintro e wx ⟨rfl, hw⟩; rw [hw]; clear hw wx)
      | (go_at_call 53; with_reducible refine Calls.mono (of_any _ _) ?_; rintro e wx ⟨rfl, hw⟩; rw [hw]; clear hw wx)
      | (go_at_call 54; with_reducible refine Calls.mono CW.out ?_; rintro e w2 ⟨rfl, k0⟩; have a0 := k0.out.1; have b0 := k0.out.2)
      | (go_at_call 56; with_reducible refine Calls.mono (C1.out _ a0 b0) ?_; rintro e v1 ⟨n, rfl, k1⟩; have m1 := k1.out.1; have a1 := k1.out.2.1; have b1 := k1.out.2.2)
      | (go_at_call 57; with_reducible refine Calls.mono (CR.out _ a1 b1) ?_; rintro e w4 ⟨rfl, h4⟩)
      | (go_at_call 31; with_reducible refine Calls.mono (CP.out _ n h4.out.2) ?_; rintro e w5 ⟨rfl, h5⟩))
    go_ret
    rw [HD.out n (getD_num m1 HS.out)]
    exact ⟨rfl, redone_by h4.out.2 h5⟩
  | false =>
    have hD : doF s x = (14, s) := by
      unfold doF
      rw [if_neg HN.out.1, if_neg HN.out.2.1, if_neg HN.out.2.2, if_pos HW.out, hok]; rfl
    rw [hok] at CR
    have HD : Hid (type_of% hD) := hD
    clear hD hok hw hc h ht
    go_enter Tryz.func27, Tryz.ntmps27
    go_wp2_with (first
      | (go_at_call 52; with_reducible refine Calls.mono (CC.out _) ?_; rintro e wx ⟨rfl, hw⟩; rw [hw]; clear hw wx)
      | (go_at_call 53; with_reducible refine Calls.mono (of_any _ _) ?_; rintro e wx ⟨rfl, hw⟩; rw [hw]; clear hw wx)
      | (go_at_call 54; with_reducible refine Calls.mono CW.out ?_; rintro e w2 ⟨rfl, k0⟩; have a0 := k0.out.1; have b0 := k0.out.2)
      | (go_at_call 56; with_reducible refine Calls.mono (C1.out _ a0 b0) ?_; rintro e v1 ⟨n, rfl, k1⟩; have m1 := k1.out.1; have a1 := k1.out.2.1; have b1 := k1.out.2.2)
      | (go_at_call 57; with_reducible refine Calls.mono (CR.out _ a1 b1) ?_; rintro e w4 ⟨rfl, h4⟩))
    go_ret
    rw [HD.out]
    exact ⟨rfl, redone_same HH.out h4.out.2⟩
set_option maxHeartbeats 1000000 in
set_option maxRecDepth 100000 in
theorem redo_open (B : Nat) (s : St) (Fp : Nat → Prop) (x text : ByteArray) (w : World) (h : ProgIs w B s Fp) (ho : s.Ok) (ht : Tabs w) (hx : x.size ≤ 1000000000) (hc : ∀ W, Calls Tryz.prog 52 #[.string text, .string ⟨#[10]⟩] W fun r w' => r = .returned (.tuple #[.string x, .bool true]) ∧ w' = W) (hw : wd x = ⟨#[111]⟩) :
    Calls Tryz.prog 27 #[.pointer (some ⟨B, 0, none⟩), .string text] w fun r w' => r = .returned (.int .i64 (doF s x).1) ∧ Redone w w' B (doF s x).2 Fp := by
  have hrx := rs_size x
  have hrx2 := rs_size (rs x)
  have hwx1 := wd_size (rs x)
  have hwx2 := wd_size (rs (rs x))
  have CW : Hid (type_of% (redo_word (x := x) ht hx)) := redo_word (x := x) ht hx
  rw [hw] at CW
  have CC : Hid (type_of% hc) := hc
  have C1 : Hid (∀ W, LineIs W w.heap.size (rs x) (fd x) (false || !true) → Below w.heap.size w W → _) := fun W h1 h2 => rName ht (Nat.le_refl _) W (rs x) (fd x) (false || !true) h1 h2 (by omega)
  have C2 : Hid (∀ W, LineIs W w.heap.size (rs (rs x)) (fd (rs x)) (((false || !true) || !(fd x)) || !(isName (wd (rs x)))) → Below w.heap.size w W → _) := fun W h1 h2 => rNumber ht (Nat.le_refl _) W (rs (rs x)) (fd (rs x)) (((false || !true) || !(fd x)) || !(isName (wd (rs x)))) h1 h2 (by omega)
  have CP : Hid (∀ W n, Below w.heap.size w W → _) := fun W n hW => progOpen B s Fp (wd (rs x)) n W (h.turn (S := fun _ => False) (Turn.of_below hW) (fun _ _ h => h)) ho (by omega)
  have HN : Hid (True) := trivial
  have HH : Hid (type_of% h) := h
  have HW : Hid (type_of% hw) := hw
  have eR : (!(fd (rs (rs x))) && !(((((false || !true) || !(fd x)) || !(isName (wd (rs x)))) || !(fd (rs x))) || !(numB (wd (rs (rs x)))).isSome)) = (fd x && isName (wd (rs x)) && fd (rs x) && (numB (wd (rs (rs x)))).isSome && !fd (rs (rs x))) := by
    cases fd x <;> cases fd (rs x) <;> cases fd (rs (rs x)) <;> cases (isName (wd (rs x))) <;> cases (numB (wd (rs (rs x)))).isSome <;> rfl
  have CR : Hid (∀ W, LineIs W w.heap.size (rs (rs (rs x))) (fd (rs (rs x))) (((((false || !true) || !(fd x)) || !(isName (wd (rs x)))) || !(fd (rs x))) || !(numB (wd (rs (rs x)))).isSome) → Below w.heap.size w W → Calls Tryz.prog 57 #[.pointer (some ⟨w.heap.size, 0, none⟩)] W fun r w' => r = .returned (.bool (fd x && isName (wd (rs x)) && fd (rs x) && (numB (wd (rs (rs x)))).isSome && !fd (rs (rs x)))) ∧ Hid (Below W.heap.size W w' ∧ Below w.heap.size w w')) := fun W h1 h2 => by
    have := rRight W _ _ _ h1 h2
    rw [eR] at this
    exact this
  clear eR
  cases hok : (fd x && isName (wd (rs x)) && fd (rs x) && (numB (wd (rs (rs x)))).isSome && !fd (rs (rs x))) with
  | true =>
    have hD : ∀ n, (numB (wd (rs (rs x)))).getD 0 = n → doF s x = (s.openE (wd (rs x)) n, s.afterOpen (wd (rs x)) n) := fun n hn => by
      unfold doF
      rw [if_pos HW.out, hok, hn]; rfl
    have hs : (numB (wd (rs (rs x)))).isSome = true := by revert hok; cases fd x <;> cases fd (rs x) <;> cases fd (rs (rs x)) <;> cases (isName (wd (rs x))) <;> cases (numB (wd (rs (rs x)))).isSome <;> simp
    rw [hok] at CR
    have HD : Hid (type_of% hD) := hD
    have HS : Hid (type_of% hs) := hs
    clear hD hs hok hw hc h ht
    go_enter Tryz.func27, Tryz.ntmps27
    go_wp2_with (first
      | (go_at_call 52; with_reducible refine Calls.mono (CC.out _) ?_; rintro e wx ⟨rfl, hw⟩; rw [hw]; clear hw wx)
      | (go_at_call 53; with_reducible refine Calls.mono (of_any _ _) ?_; rintro e wx ⟨rfl, hw⟩; rw [hw]; clear hw wx)
      | (go_at_call 54; with_reducible refine Calls.mono CW.out ?_; rintro e w2 ⟨rfl, k0⟩; have a0 := k0.out.1; have b0 := k0.out.2)
      | (go_at_call 55; with_reducible refine Calls.mono (C1.out _ a0 b0) ?_; rintro e v1 ⟨rfl, k1⟩; have a1 := k1.out.1; have b1 := k1.out.2)
      | (go_at_call 56; with_reducible refine Calls.mono (C2.out _ a1 b1) ?_; rintro e v2 ⟨n, rfl, k2⟩; have m2 := k2.out.1; have a2 := k2.out.2.1; have b2 := k2.out.2.2)
      | (go_at_call 57; with_reducible refine Calls.mono (CR.out _ a2 b2) ?_; rintro e w4 ⟨rfl, h4⟩)
      | (go_at_call 38; with_reducible refine Calls.mono (CP.out _ n h4.out.2) ?_; rintro e w5 ⟨rfl, h5⟩))
    go_ret
    rw [HD.out n (getD_num m2 HS.out)]
    exact ⟨rfl, redone_by h4.out.2 h5⟩
  | false =>
    have hD : doF s x = (14, s) := by
      unfold doF
      rw [if_pos HW.out, hok]; rfl
    rw [hok] at CR
    have HD : Hid (type_of% hD) := hD
    clear hD hok hw hc h ht
    go_enter Tryz.func27, Tryz.ntmps27
    go_wp2_with (first
      | (go_at_call 52; with_reducible refine Calls.mono (CC.out _) ?_; rintro e wx ⟨rfl, hw⟩; rw [hw]; clear hw wx)
      | (go_at_call 53; with_reducible refine Calls.mono (of_any _ _) ?_; rintro e wx ⟨rfl, hw⟩; rw [hw]; clear hw wx)
      | (go_at_call 54; with_reducible refine Calls.mono CW.out ?_; rintro e w2 ⟨rfl, k0⟩; have a0 := k0.out.1; have b0 := k0.out.2)
      | (go_at_call 55; with_reducible refine Calls.mono (C1.out _ a0 b0) ?_; rintro e v1 ⟨rfl, k1⟩; have a1 := k1.out.1; have b1 := k1.out.2)
      | (go_at_call 56; with_reducible refine Calls.mono (C2.out _ a1 b1) ?_; rintro e v2 ⟨n, rfl, k2⟩; have m2 := k2.out.1; have a2 := k2.out.2.1; have b2 := k2.out.2.2)
      | (go_at_call 57; with_reducible refine Calls.mono (CR.out _ a2 b2) ?_; rintro e w4 ⟨rfl, h4⟩))
    go_ret
    rw [HD.out]
    exact ⟨rfl, redone_same HH.out h4.out.2⟩
set_option maxHeartbeats 1000000 in
set_option maxRecDepth 100000 in
theorem redo_close (B : Nat) (s : St) (Fp : Nat → Prop) (x text : ByteArray) (w : World) (h : ProgIs w B s Fp) (ho : s.Ok) (ht : Tabs w) (hx : x.size ≤ 1000000000) (hc : ∀ W, Calls Tryz.prog 52 #[.string text, .string ⟨#[10]⟩] W fun r w' => r = .returned (.tuple #[.string x, .bool true]) ∧ w' = W) (hw : wd x = ⟨#[99]⟩) :
    Calls Tryz.prog 27 #[.pointer (some ⟨B, 0, none⟩), .string text] w fun r w' => r = .returned (.int .i64 (doF s x).1) ∧ Redone w w' B (doF s x).2 Fp := by
  have hrx := rs_size x
  have hrx2 := rs_size (rs x)
  have hwx1 := wd_size (rs x)
  have hwx2 := wd_size (rs (rs x))
  have CW : Hid (type_of% (redo_word (x := x) ht hx)) := redo_word (x := x) ht hx
  rw [hw] at CW
  have CC : Hid (type_of% hc) := hc
  have C1 : Hid (∀ W, LineIs W w.heap.size (rs x) (fd x) (false || !true) → Below w.heap.size w W → _) := fun W h1 h2 => rNumber ht (Nat.le_refl _) W (rs x) (fd x) (false || !true) h1 h2 (by omega)
  have C2 : Hid (∀ W, LineIs W w.heap.size (rs (rs x)) (fd (rs x)) (((false || !true) || !(fd x)) || !(numB (wd (rs x))).isSome) → Below w.heap.size w W → _) := fun W h1 h2 => rName ht (Nat.le_refl _) W (rs (rs x)) (fd (rs x)) (((false || !true) || !(fd x)) || !(numB (wd (rs x))).isSome) h1 h2 (by omega)
  have CP : Hid (∀ W n, Below w.heap.size w W → _) := fun W n hW => progClose B s Fp n (wd (rs (rs x))) W (h.turn (S := fun _ => False) (Turn.of_below hW) (fun _ _ h => h)) ho
  have HN : Hid (¬ wd x = ⟨#[111]⟩ ∧ ¬ wd x = ⟨#[112]⟩ ∧ ¬ wd x = ⟨#[114]⟩ ∧ ¬ wd x = ⟨#[108]⟩) := ⟨by rw [hw]; decide, by rw [hw]; decide, by rw [hw]; decide, by rw [hw]; decide⟩
  have HH : Hid (type_of% h) := h
  have HW : Hid (type_of% hw) := hw
  have eR : (!(fd (rs (rs x))) && !(((((false || !true) || !(fd x)) || !(numB (wd (rs x))).isSome) || !(fd (rs x))) || !(isName (wd (rs (rs x)))))) = (fd x && (numB (wd (rs x))).isSome && fd (rs x) && isName (wd (rs (rs x))) && !fd (rs (rs x))) := by
    cases fd x <;> cases fd (rs x) <;> cases fd (rs (rs x)) <;> cases (numB (wd (rs x))).isSome <;> cases (isName (wd (rs (rs x)))) <;> rfl
  have CR : Hid (∀ W, LineIs W w.heap.size (rs (rs (rs x))) (fd (rs (rs x))) (((((false || !true) || !(fd x)) || !(numB (wd (rs x))).isSome) || !(fd (rs x))) || !(isName (wd (rs (rs x))))) → Below w.heap.size w W → Calls Tryz.prog 57 #[.pointer (some ⟨w.heap.size, 0, none⟩)] W fun r w' => r = .returned (.bool (fd x && (numB (wd (rs x))).isSome && fd (rs x) && isName (wd (rs (rs x))) && !fd (rs (rs x)))) ∧ Hid (Below W.heap.size W w' ∧ Below w.heap.size w w')) := fun W h1 h2 => by
    have := rRight W _ _ _ h1 h2
    rw [eR] at this
    exact this
  clear eR
  cases hok : (fd x && (numB (wd (rs x))).isSome && fd (rs x) && isName (wd (rs (rs x))) && !fd (rs (rs x))) with
  | true =>
    have hD : ∀ n, (numB (wd (rs x))).getD 0 = n → doF s x = (s.closeE n (wd (rs (rs x))), s.afterClose n (wd (rs (rs x)))) := fun n hn => by
      unfold doF
      rw [if_neg HN.out.1, if_neg HN.out.2.1, if_neg HN.out.2.2.1, if_neg HN.out.2.2.2, if_pos HW.out, hok, hn]; rfl
    have hs : (numB (wd (rs x))).isSome = true := by revert hok; cases fd x <;> cases fd (rs x) <;> cases fd (rs (rs x)) <;> cases (numB (wd (rs x))).isSome <;> cases (isName (wd (rs (rs x)))) <;> simp
    rw [hok] at CR
    have HD : Hid (type_of% hD) := hD
    have HS : Hid (type_of% hs) := hs
    clear hD hs hok hw hc h ht
    go_enter Tryz.func27, Tryz.ntmps27
    go_wp2_with (first
      | (go_at_call 52; with_reducible refine Calls.mono (CC.out _) ?_; rintro e wx ⟨rfl, hw⟩; rw [hw]; clear hw wx)
      | (go_at_call 53; with_reducible refine Calls.mono (of_any _ _) ?_; rintro e wx ⟨rfl, hw⟩; rw [hw]; clear hw wx)
      | (go_at_call 54; with_reducible refine Calls.mono CW.out ?_; rintro e w2 ⟨rfl, k0⟩; have a0 := k0.out.1; have b0 := k0.out.2)
      | (go_at_call 56; with_reducible refine Calls.mono (C1.out _ a0 b0) ?_; rintro e v1 ⟨n, rfl, k1⟩; have m1 := k1.out.1; have a1 := k1.out.2.1; have b1 := k1.out.2.2)
      | (go_at_call 55; with_reducible refine Calls.mono (C2.out _ a1 b1) ?_; rintro e v2 ⟨rfl, k2⟩; have a2 := k2.out.1; have b2 := k2.out.2)
      | (go_at_call 57; with_reducible refine Calls.mono (CR.out _ a2 b2) ?_; rintro e w4 ⟨rfl, h4⟩)
      | (go_at_call 32; with_reducible refine Calls.mono (CP.out _ n h4.out.2) ?_; rintro e w5 ⟨rfl, h5⟩))
    go_ret
    rw [HD.out n (getD_num m1 HS.out)]
    exact ⟨rfl, redone_by h4.out.2 h5⟩
  | false =>
    have hD : doF s x = (14, s) := by
      unfold doF
      rw [if_neg HN.out.1, if_neg HN.out.2.1, if_neg HN.out.2.2.1, if_neg HN.out.2.2.2, if_pos HW.out, hok]; rfl
    rw [hok] at CR
    have HD : Hid (type_of% hD) := hD
    clear hD hok hw hc h ht
    go_enter Tryz.func27, Tryz.ntmps27
    go_wp2_with (first
      | (go_at_call 52; with_reducible refine Calls.mono (CC.out _) ?_; rintro e wx ⟨rfl, hw⟩; rw [hw]; clear hw wx)
      | (go_at_call 53; with_reducible refine Calls.mono (of_any _ _) ?_; rintro e wx ⟨rfl, hw⟩; rw [hw]; clear hw wx)
      | (go_at_call 54; with_reducible refine Calls.mono CW.out ?_; rintro e w2 ⟨rfl, k0⟩; have a0 := k0.out.1; have b0 := k0.out.2)
      | (go_at_call 56; with_reducible refine Calls.mono (C1.out _ a0 b0) ?_; rintro e v1 ⟨n, rfl, k1⟩; have m1 := k1.out.1; have a1 := k1.out.2.1; have b1 := k1.out.2.2)
      | (go_at_call 55; with_reducible refine Calls.mono (C2.out _ a1 b1) ?_; rintro e v2 ⟨rfl, k2⟩; have a2 := k2.out.1; have b2 := k2.out.2)
      | (go_at_call 57; with_reducible refine Calls.mono (CR.out _ a2 b2) ?_; rintro e w4 ⟨rfl, h4⟩))
    go_ret
    rw [HD.out]
    exact ⟨rfl, redone_same HH.out h4.out.2⟩
end Go.Proofs.YtjnmoddcodnadaaGreatDoor
namespace Go.Proofs.YtjnmoddcodnadaaGreatDoor
open Go.RowKit Go.Annal Go.Sort
theorem lv_of_owns {w : World} {base : Nat} {v : Value} {L : List Ln} (h : w.ownsRow base 58 2 v L.length (cells2 L)) (hf : L.length ≤ 1000000000) (hs : ∀ y ∈ L, y.1.size ≤ 1000000000) : ∃ lad cap, v = .slice lad L.length cap ∧ LinesV w lad L.length cap (lnA L) (lnM L) := by
  rcases h.2 with ⟨rfl, h0⟩ | ⟨g, cap, cur, rfl, hg, hc, hnc, hr⟩
  · refine ⟨none, 0, by rw [h0], by omega, hf, fun k hk => by omega, fun hn => by omega⟩
  · refine ⟨_, cap, rfl, hnc, hf, fun k hk => ?_, fun _ => ⟨g, 0, rfl, fun k hk => ?_, fun k hk => ?_⟩⟩
    · rw [(lnA_at L k hk).1]; exact hs _ (List.getElem_mem hk)
    · rw [Nat.zero_add, h.cellAt (k * 2) (by omega), (lnA_at L k hk).1]; exact (cells2_at L k hk).1
    · rw [Nat.zero_add, h.cellAt (k * 2 + 1) (by omega), (lnA_at L k hk).2]; exact (cells2_at L k hk).2
set_option maxHeartbeats 1000000 in
set_option maxRecDepth 100000 in
theorem redo_post (B : Nat) (s : St) (Fp : Nat → Prop) (x text : ByteArray) (w : World) (h : ProgIs w B s Fp) (ho : s.Ok) (ht : Tabs w) (hx : x.size < 1000000000) (hc : ∀ W, Calls Tryz.prog 52 #[.string text, .string ⟨#[10]⟩] W fun r w' => r = .returned (.tuple #[.string x, .bool true]) ∧ w' = W) (hw : wd x = ⟨#[112]⟩) :
    Calls Tryz.prog 27 #[.pointer (some ⟨B, 0, none⟩), .string text] w fun r w' => r = .returned (.int .i64 (doF s x).1) ∧ Redone w w' B (doF s x).2 Fp := by
  have hrx := rs_size x
  have hrx2 := rs_size (rs x)
  have CW : Hid (type_of% (redo_word (x := x) ht (by omega))) := redo_word (x := x) ht (by omega)
  rw [hw] at CW
  have CC : Hid (type_of% hc) := hc
  have C1 : Hid (∀ W, LineIs W w.heap.size (rs x) (fd x) (false || !true) → Below w.heap.size w W → _) := fun W h1 h2 => rNumber ht (Nat.le_refl _) W (rs x) (fd x) (false || !true) h1 h2 (by omega)
  have C2 : Hid (∀ W, LineIs W w.heap.size (rs (rs x)) (fd (rs x)) (((false || !true) || !(fd x)) || !(numB (wd (rs x))).isSome) → Below w.heap.size w W → Calls Tryz.prog 58 #[.pointer (some ⟨w.heap.size, 0, none⟩)] W fun r w' => ∃ lad cap L rest' more' wrong', r = .returned (.slice lad L.length cap) ∧ Hid (LinesV w' lad L.length cap (lnA L) (lnM L) ∧ LineIs w' w.heap.size rest' more' wrong' ∧ Below w.heap.size w w' ∧ (if !more' && !wrong' then pairsF ((rs (rs x)).size + 1) (rs (rs x)) (fd (rs x)) (!fd x || !(numB (wd (rs x))).isSome) = some L else pairsF ((rs (rs x)).size + 1) (rs (rs x)) (fd (rs x)) (!fd x || !(numB (wd (rs x))).isSome) = none))) := fun W h1 h2 => by
    refine (rPairs ht (Nat.le_refl _) W (rs (rs x)) (fd (rs x)) _ h1 h2 (by omega)).mono ?_
    rintro r w' ⟨v, L, rest', more', wrong', rfl, q1, q2, q3, q4, q5, q6⟩
    obtain ⟨lad, cap, rfl, hlv⟩ := lv_of_owns q1 (by omega) (fun y hy => by have := q5 y hy; omega)
    have e : (((false || !true) || !(fd x)) || !(numB (wd (rs x))).isSome) = (!fd x || !(numB (wd (rs x))).isSome) := by cases fd x <;> cases (numB (wd (rs x))).isSome <;> rfl
    rw [e] at q6
    exact ⟨lad, cap, L, rest', more', wrong', rfl, hlv, q2, q3, q6⟩
  have CP : Hid (∀ W n lad m cap ya ym, Below w.heap.size w W → LinesV W lad m cap ya ym → _) := fun W n lad m cap ya ym hW hL => progPost B s Fp n lad m cap ya ym W (h.turn (S := fun _ => False) (Turn.of_below hW) (fun _ _ h => h)) ho hL
  have HN : Hid (¬ wd x = ⟨#[111]⟩) := by show ¬ wd x = _; rw [hw]; decide
  have HH : Hid (type_of% h) := h
  have HW : Hid (type_of% hw) := hw
  have hD : ∀ n L, NumOf (wd (rs x)) n → pairsF ((rs (rs x)).size + 1) (rs (rs x)) (fd (rs x)) (!fd x || !(numB (wd (rs x))).isSome) = some L → doF s x = (s.postE n (lnA L) (lnM L) L.length, s.afterPost n (lnA L) (lnM L) L.length) := fun n L hn hp => by
    have hs : (numB (wd (rs x))).isSome = true := by
      cases hi : (numB (wd (rs x))).isSome
      · rw [hi] at hp
        have : (!fd x || !false) = true := by cases fd x <;> rfl
        rw [this, pairsF] at hp
        simp at hp
      · rfl
    unfold doF
    rw [if_neg HN.out, if_pos HW.out, hp, getD_num hn hs]
  have hE : pairsF ((rs (rs x)).size + 1) (rs (rs x)) (fd (rs x)) (!fd x || !(numB (wd (rs x))).isSome) = none → doF s x = (14, s) := fun hp => by
    unfold doF
    rw [if_neg HN.out, if_pos HW.out, hp]
  have HD : Hid (type_of% hD) := hD
  have HE : Hid (type_of% hE) := hE
  clear hD hE hw hc h ht
  go_enter Tryz.func27, Tryz.ntmps27
  go_wp2_with (first
    | (go_at_call 52; with_reducible refine Calls.mono (CC.out _) ?_; rintro e wx ⟨rfl, hw⟩; rw [hw]; clear hw wx)
    | (go_at_call 53; with_reducible refine Calls.mono (of_any _ _) ?_; rintro e wx ⟨rfl, hw⟩; rw [hw]; clear hw wx)
    | (go_at_call 54; with_reducible refine Calls.mono CW.out ?_; rintro e w2 ⟨rfl, k0⟩; have a0 := k0.out.1; have b0 := k0.out.2)
    | (go_at_call 56; with_reducible refine Calls.mono (C1.out _ a0 b0) ?_; rintro e v1 ⟨n, rfl, k1⟩; have m1 := k1.out.1; have a1 := k1.out.2.1; have b1 := k1.out.2.2)
    | (go_at_call 58; with_reducible refine Calls.mono (C2.out _ a1 b1) ?_; rintro e v2 ⟨lad, cap, L, rest', more', wrong', rfl, k2⟩))
  obtain ⟨ok, hok⟩ : ∃ ok, (!more' && !wrong') = ok := ⟨_, rfl⟩
  have CR : Hid (Calls Tryz.prog 57 #[.pointer (some ⟨w.heap.size, 0, none⟩)] v2 fun r w' => r = .returned (.bool ok) ∧ Hid (Below v2.heap.size v2 w' ∧ Below w.heap.size w w')) := by
    have := rRight v2 _ _ _ k2.out.2.1 k2.out.2.2.1
    rw [hok] at this
    exact this
  with_reducible refine Calls.mono CR.out ?_
  rintro e w4 ⟨rfl, h4⟩
  have hif := k2.out.2.2.2
  rw [hok] at hif
  have HI : Hid (type_of% hif) := hif
  clear hif hok CR
  cases ok with
  | true =>
    have hp : pairsF ((rs (rs x)).size + 1) (rs (rs x)) (fd (rs x)) (!fd x || !(numB (wd (rs x))).isSome) = some L := by have := HI.out; simpa using this
    have HP : Hid (type_of% hp) := hp
    clear hp
    go_wp2_with (go_at_call 28; with_reducible refine Calls.mono (CP.out _ n lad L.length cap (lnA L) (lnM L) h4.out.2 (k2.out.1.mv h4.out.1)) ?_; rintro e w5 ⟨rfl, h5⟩)
    go_ret
    rw [HD.out n L m1 HP.out]
    exact ⟨rfl, redone_by h4.out.2 h5⟩
  | false =>
    have hp : pairsF ((rs (rs x)).size + 1) (rs (rs x)) (fd (rs x)) (!fd x || !(numB (wd (rs x))).isSome) = none := by have := HI.out; simpa using this
    have HP : Hid (type_of% hp) := hp
    clear hp
    go_wp2
    go_ret
    rw [HE.out HP.out]
    exact ⟨rfl, redone_same HH.out h4.out.2⟩
set_option maxHeartbeats 1000000 in
set_option maxRecDepth 100000 in
theorem redo_none (B : Nat) (s : St) (Fp : Nat → Prop) (x text : ByteArray) (w : World) (h : ProgIs w B s Fp) (ht : Tabs w) (hx : x.size ≤ 1000000000) (hc : ∀ W, Calls Tryz.prog 52 #[.string text, .string ⟨#[10]⟩] W fun r w' => r = .returned (.tuple #[.string x, .bool true]) ∧ w' = W) (h1 : ¬ wd x = ⟨#[111]⟩) (h2 : ¬ wd x = ⟨#[112]⟩) (h3 : ¬ wd x = ⟨#[114]⟩) (h4 : ¬ wd x = ⟨#[108]⟩) (h5 : ¬ wd x = ⟨#[99]⟩) :
    Calls Tryz.prog 27 #[.pointer (some ⟨B, 0, none⟩), .string text] w fun r w' => r = .returned (.int .i64 (doF s x).1) ∧ Redone w w' B (doF s x).2 Fp := by
  have CW : Hid (type_of% (redo_word (x := x) ht hx)) := redo_word (x := x) ht hx
  have CC : Hid (type_of% hc) := hc
  have hD : doF s x = (14, s) := by unfold doF; rw [if_neg h1, if_neg h2, if_neg h3, if_neg h4, if_neg h5]
  rw [hD]
  obtain ⟨y, hy⟩ : ∃ y, wd x = y := ⟨_, rfl⟩
  rw [hy] at CW h1 h2 h3 h4 h5
  have g1 : (y.toList == [111]) = false := by rw [show ([111] : List UInt8) = (⟨#[111]⟩ : ByteArray).toList from by rw [ByteArray.toList_eq], beq_bytes]; exact decide_eq_false h1
  have g2 : (y.toList == [112]) = false := by rw [show ([112] : List UInt8) = (⟨#[112]⟩ : ByteArray).toList from by rw [ByteArray.toList_eq], beq_bytes]; exact decide_eq_false h2
  have g3 : (y.toList == [114]) = false := by rw [show ([114] : List UInt8) = (⟨#[114]⟩ : ByteArray).toList from by rw [ByteArray.toList_eq], beq_bytes]; exact decide_eq_false h3
  have g4 : (y.toList == [108]) = false := by rw [show ([108] : List UInt8) = (⟨#[108]⟩ : ByteArray).toList from by rw [ByteArray.toList_eq], beq_bytes]; exact decide_eq_false h4
  have g5 : (y.toList == [99]) = false := by rw [show ([99] : List UInt8) = (⟨#[99]⟩ : ByteArray).toList from by rw [ByteArray.toList_eq], beq_bytes]; exact decide_eq_false h5
  have HH : Hid (type_of% h) := h
  clear hc h ht hD hy h1 h2 h3 h4 h5
  go_enter Tryz.func27, Tryz.ntmps27
  go_wp2_with (first
    | (go_at_call 52; with_reducible refine Calls.mono (CC.out _) ?_; rintro e wx ⟨rfl, hw⟩; rw [hw]; clear hw wx)
    | (go_at_call 53; with_reducible refine Calls.mono (of_any _ _) ?_; rintro e wx ⟨rfl, hw⟩; rw [hw]; clear hw wx)
    | (go_at_call 54; with_reducible refine Calls.mono CW.out ?_; rintro e w2 ⟨rfl, k0⟩))
  go_ret
  exact ⟨rfl, redone_same HH.out k0.out.2⟩
set_option maxHeartbeats 1000000 in
set_option maxRecDepth 100000 in
theorem redo_open_end (B : Nat) (s : St) (Fp : Nat → Prop) (x text : ByteArray) (w : World) (h : ProgIs w B s Fp) (hc : ∀ W, Calls Tryz.prog 52 #[.string text, .string ⟨#[10]⟩] W fun r w' => r = .returned (.tuple #[.string x, .bool false]) ∧ w' = W) :
    Calls Tryz.prog 27 #[.pointer (some ⟨B, 0, none⟩), .string text] w fun r w' => r = .returned (.int .i64 14) ∧ Redone w w' B s Fp := by
  have CC : Hid (type_of% hc) := hc
  have HH : Hid (type_of% h) := h
  clear hc h
  go_enter Tryz.func27, Tryz.ntmps27
  go_wp2_with (go_at_call 52; with_reducible refine Calls.mono (CC.out _) ?_; rintro e wx ⟨rfl, hw⟩; rw [hw]; clear hw wx)
  go_ret
  exact ⟨rfl, redone_same HH.out (Below.refl _ _)⟩
end Go.Proofs.YtjnmoddcodnadaaGreatDoor
namespace Go.Annal
open Go.Proofs.YtjnmoddcodnadaaGreatDoor
/-- What a line does, which has its byte 10 if it is whole. -/
def redoF (s : St) (text : ByteArray) : Int × St := if Lib.hasSuffix text.data.toList [10] then doF s ⟨(Lib.trimSuffix text.data.toList [10]).toArray⟩ else (14, s)
end Go.Annal
namespace Go.Proofs.YtjnmoddcodnadaaGreatDoor
open Go.RowKit Go.Annal Go.Sort
/-- redo. -/
theorem redo_any (B : Nat) (s : St) (Fp : Nat → Prop) (text : ByteArray) (w : World) (h : ProgIs w B s Fp) (ho : s.Ok) (ht : Tabs w) (hx : text.size < 1000000000) :
    Calls Tryz.prog 27 #[.pointer (some ⟨B, 0, none⟩), .string text] w fun r w' => r = .returned (.int .i64 (redoF s text).1) ∧ Redone w w' B (redoF s text).2 Fp := by
  obtain ⟨x, hxx⟩ : ∃ x : ByteArray, (⟨(Lib.trimSuffix text.data.toList [10]).toArray⟩ : ByteArray) = x := ⟨_, rfl⟩
  have hxs : x.size ≤ text.size := by
    rw [← hxx]
    show (Lib.trimSuffix text.data.toList [10]).toArray.size ≤ text.data.size
    rw [List.size_toArray, ← Array.length_toList]
    unfold Lib.trimSuffix
    split
    · rw [List.length_take]; omega
    · exact Nat.le_refl _
  have hc : ∀ W, Calls Tryz.prog 52 #[.string text, .string ⟨#[10]⟩] W fun r w' => r = .returned (.tuple #[.string x, .bool (Lib.hasSuffix text.data.toList [10])]) ∧ w' = W := fun W => by
    rw [← hxx]
    exact Any.strings_CutSuffix Tryz.cutsufL text ⟨#[10]⟩ W (by omega)
  unfold redoF
  cases he : Lib.hasSuffix text.data.toList [10] with
  | false =>
    rw [he] at hc
    exact redo_open_end B s Fp x text w h hc
  | true =>
    rw [he] at hc
    simp only [if_true]
    rw [hxx]
    by_cases h1 : wd x = ⟨#[111]⟩
    · exact redo_open B s Fp x text w h ho ht (by omega) hc h1
    · by_cases h2 : wd x = ⟨#[112]⟩
      · exact redo_post B s Fp x text w h ho ht (by omega) hc h2
      · by_cases h3 : wd x = ⟨#[114]⟩
        · exact redo_rev B s Fp x text w h ho ht (by omega) hc h3
        · by_cases h4 : wd x = ⟨#[108]⟩
          · exact redo_lock B s Fp x text w h ho ht (by omega) hc h4
          · by_cases h5 : wd x = ⟨#[99]⟩
            · exact redo_close B s Fp x text w h ho ht (by omega) hc h5
            · exact redo_none B s Fp x text w h ht (by omega) hc h1 h2 h3 h4 h5
end Go.Proofs.YtjnmoddcodnadaaGreatDoor
namespace Go.Annal
open Go.RowKit
/-- Abides whatever turns one block, and new ones. -/
def AbB {α : Type} (b : Nat) (J : List α → World → Prop) : Prop := ∀ s W W', J s W → Turn (fun k => k = b) W W' → J s W'
/-- An iterator that keeps its place in the box b. -/
def SeqBox {α : Type} (F : Fence) (n : Nat) (P : Program) (g : Nat) (lb : Array Value) (encs : α → Array Value) (b : Nat) (S Sp : List α → Prop) (w : World) : Prop :=
  ∀ (l : Nat) (J Jx : List α → World → Prop) (W : World), W.heap[b]? = w.heap[b]? → AbB b J → AbB b Jx →
    (∀ pre x W1, J pre W1 → Sp (pre ++ [x]) → YieldAt F (n - 1) P l (encs x) W1 fun e W' => (e = .returned (.bool true) ∧ J (pre ++ [x]) W' ∧ W'.heap[b]? = W1.heap[b]?) ∨ (e = .returned (.bool false) ∧ Jx (pre ++ [x]) W')) →
    J [] W → CallsIn F n P g (#[.func (.yield l) #[] #[]] ++ lb) W fun e W' => (∃ v, e = .returned v) ∧ ((∃ xs, S xs ∧ J xs W') ∨ ∃ pre, Sp pre ∧ Jx pre W')
/-- How a round may end: its loop's two blocks lie as they lay. -/
def boxPost {α : Type} (b k : Nat) (I Ix : List α → World → Prop) (xs : List α) (W : World) : Exit → Act → World → Prop
  | .normal, _, W' => (W'.heap[k]? = W.heap[k]? ∧ W'.heap[k + 1]? = W.heap[k + 1]?) ∧ W'.heap[b]? = W.heap[b]? ∧ I xs W'
  | .ret, _, W' => (W'.heap[k]? = W.heap[k]? ∧ W'.heap[k + 1]? = W.heap[k + 1]?) ∧ Ix xs W'
  | _, _, _ => False
theorem turn_put (S : Nat → Prop) (W : World) (l : Nat) (o : Obj) (h : S l) : Turn S W (W.putObj l o) := (Turn.refl S W).of_grown (grownBy_putObj' W l o) (fun k e _ => by cases e; exact h)
variable {F : Fence} {n : Nat} {P : Program}
theorem wpIn_rangeBox {α : Type} {g : Operand} {ps : Array Tmp} {assign body : Code} {Q : Exit → Act → World → Prop} {a : Act} {w : World}
    (hro : F.round = none) (h1 : 1 ≤ n) {gf : Nat} {lb : Array Value} (hg : a.eval g = .func (.func gf) #[] lb) (hFg : F.fn gf) (eg : ∀ args w, (callFunc gf args).run P w = .ok (.enter gf args) w)
    {encs : α → Array Value} {b : Nat} {S Sp : List α → Prop} (hb : b < w.heap.size) (hseq : SeqBox F (n - 1) P gf lb encs b S Sp w) (hps : ∀ x, (encs x).size = ps.size)
    (I Ix : List α → World → Prop) (hI : ∀ s W W', I s W → Turn (fun k => k = b ∨ k = w.heap.size ∨ k = w.heap.size + 1) W W' → I s W') (hIx : ∀ s W W', Ix s W → Turn (fun k => k = b ∨ k = w.heap.size ∨ k = w.heap.size + 1) W W' → Ix s W') (h0 : I [] w) (a₁ : α → Act)
    (hassign : ∀ (l : Nat) (x : α) (W : World) (K : Act → World → Prop), K (a₁ x) W → assign.wpIn (F.inRound l) (n - 1 - 1) P (Exit.then K (fun _ _ _ => False)) { tmps := (ps.zip (encs x)).foldl (fun t (p, v) => t.setIfInBounds p v) a.tmps, defers := [] } W)
    (hbody : ∀ (l : Nat) (pre : List α) (x : α) (W : World), w.heap.size + 2 ≤ W.heap.size → I pre W → Sp (pre ++ [x]) → body.wpIn (F.inRound l) (n - 1 - 1) P (boxPost b w.heap.size I Ix (pre ++ [x]) W) (a₁ x) W)
    (hdone : ∀ (xs : List α) (W : World), w.heap.size + 2 ≤ W.heap.size → S xs → I xs W → W.heap[w.heap.size]? = some (.deferred (some [])) → Q .normal { a with defers := { target := .collected w.heap.size, args := #[] } :: a.defers } W)
    (hstop : ∀ (pre : List α) (W : World), w.heap.size + 2 ≤ W.heap.size → Sp pre → Ix pre W → W.heap[w.heap.size]? = some (.deferred (some [])) → Code.ret.wpIn F n P Q { a with defers := { target := .collected w.heap.size, args := #[] } :: a.defers } W) :
    (Code.rangeFunc g ps assign body).wpIn F n P Q a w := by
  refine wpIn_rangeFunc fun fn hfn => ?_
  rw [hro]
  let R : LoopState → Option Code → Loop := fun st pe => { state := st, pending := pe, fn, tmps := a.tmps, params := ps, assign, body, defers := w.heap.size }
  obtain ⟨W1, hW1⟩ : ∃ W1, (w.alloc (.deferred (some []))).alloc (.loop (R .ready none)) = W1 := ⟨_, rfl⟩
  have T1 : ∀ S, Turn S w W1 := fun S => by rw [← hW1]; exact ((Turn.refl S w).alloc _).alloc _
  have hl1 : W1.heap[w.heap.size + 1]? = some (.loop (R .ready none)) := by
    rw [← hW1]; have := World.alloc_heap_new (w.alloc (.deferred (some []))) (.loop (R .ready none)); rwa [World.size_alloc] at this
  have hd1 : W1.heap[w.heap.size]? = some (.deferred (some [])) := by
    rw [← hW1]; exact (Below.heap_alloc _ _ _ (by simp)).trans (World.alloc_heap_new w _)
  refine ⟨w.heap.size + 1, [{ target := .collected w.heap.size, args := #[] }], W1, { target := .fn (.func gf) lb, args := #[.func (.yield (w.heap.size + 1)) #[] #[]] }, W1, gf, #[.func (.yield (w.heap.size + 1)) #[] #[]] ++ lb, W1, ?_, ?_, ?_, ?_, fun _ => h1, ?_⟩
  · rw [← hW1]; exact run_enterLoop_outer _ _ _ _ _
  · simp only [resolve, hg]
    simp [go_sem]
  · intro f' hf'; simp [Target.leads] at hf'; subst hf'; exact hFg
  · simp [invoke, go_sem, eg]
  have keep : ∀ {W W' : World} {o : Obj} {k : Nat}, W.heap[k]? = some o → w.heap.size ≤ k → Turn (fun k => k = b) W W' → W'.heap[k]? = some o := fun {W W' o k} h hk ht => ht.blk h (by omega)
  have wide : ∀ {W W' : World}, Turn (fun k => k = b) W W' → Turn (fun k => k = b ∨ k = w.heap.size ∨ k = w.heap.size + 1) W W' := fun ht => ht.mono (fun _ _ e => .inl e)
  refine (hseq (w.heap.size + 1)
    (fun pre W => I pre W ∧ W.heap[w.heap.size + 1]? = some (.loop (R .ready none)) ∧ W.heap[w.heap.size]? = some (.deferred (some [])))
    (fun pre W => Ix pre W ∧ W.heap[w.heap.size + 1]? = some (.loop (R .done (some .ret))) ∧ W.heap[w.heap.size]? = some (.deferred (some [])))
    W1 ((T1 (fun _ => False)).block b hb (fun h => h))
    (fun s A B hs ht => ⟨hI s A B hs.1 (wide ht), keep hs.2.1 (by omega) ht, keep hs.2.2 (by omega) ht⟩)
    (fun s A B hs ht => ⟨hIx s A B hs.1 (wide ht), keep hs.2.1 (by omega) ht, keep hs.2.2 (by omega) ht⟩)
    ?_ ⟨hI _ _ _ h0 (T1 _), hl1, hd1⟩).mono ?_
  · rintro pre x W ⟨hi, hl, hk⟩ hlen
    have hlt : w.heap.size + 1 < W.heap.size := blk_lt hl
    refine ⟨fn, _, assign, body, run_yield (P := P) (args := encs x) hl (hps x), roundIn_of_wpIn hfn (hassign _ x W _ ⟨_, run_beginRound hl rfl, ?_⟩)⟩
    have hl2 : (W.putObj (w.heap.size + 1) (.loop (R .busy none))).heap[w.heap.size + 1]? = some (.loop (R .busy none)) := World.putObj_heap_same hlt
    have hk2 : (W.putObj (w.heap.size + 1) (.loop (R .busy none))).heap[w.heap.size]? = some (.deferred (some [])) := (World.putObj_heap_other (by omega)).trans hk
    have hb2 : (W.putObj (w.heap.size + 1) (.loop (R .busy none))).heap[b]? = W.heap[b]? := World.putObj_heap_other (by omega)
    refine wpIn_mono (hbody _ pre x _ (by rw [World.putObj_size]; omega) (hI _ _ _ hi (turn_put _ _ _ _ (.inr (.inr rfl)))) hlen) ?_
    rintro e a3 W3 hp
    cases e with
    | normal =>
      obtain ⟨⟨q1, q2⟩, q3, q4⟩ := hp
      have hl3 := q2.trans hl2
      refine ⟨_, _, run_endRound (P := P) none hl3, .inl ⟨rfl, ⟨hI _ _ _ q4 (turn_put _ _ _ _ (.inr (.inr rfl))), World.putObj_heap_same (blk_lt hl3), (World.putObj_heap_other (by omega)).trans (q1.trans hk2)⟩, (World.putObj_heap_other (by omega)).trans (q3.trans hb2)⟩⟩
    | ret =>
      obtain ⟨⟨q1, q2⟩, q3⟩ := hp
      have hl3 := q2.trans hl2
      exact ⟨_, _, run_endRound (P := P) (some .ret) hl3, .inr ⟨rfl, hIx _ _ _ q3 (turn_put _ _ _ _ (.inr (.inr rfl))), World.putObj_heap_same (blk_lt hl3), (World.putObj_heap_other (by omega)).trans (q1.trans hk2)⟩⟩
    | exit id => exact hp.elim
    | goto t => exact hp.elim
    | panic ch => exact hp.elim
    | outgrown => exact hp.elim
  · rintro e W2 ⟨⟨v, rfl⟩, (⟨xs, hS, hi, hl, hk⟩ | ⟨pre, hSp, hi, hl, hk⟩)⟩
    · have hlt := blk_lt hl
      exact ⟨none, _, run_endLoop (P := P) hl (by simp [R]), hdone xs _ (by rw [World.putObj_size]; omega) hS (hI _ _ _ hi (turn_put _ _ _ _ (.inr (.inr rfl)))) ((World.putObj_heap_other (by omega)).trans hk)⟩
    · have hlt := blk_lt hl
      exact ⟨some .ret, _, run_endLoop (P := P) hl (by simp [R]), hstop pre _ (by rw [World.putObj_size]; omega) hSp (hIx _ _ _ hi (turn_put _ _ _ _ (.inr (.inr rfl)))) ((World.putObj_heap_other (by omega)).trans hk)⟩
end Go.Annal
