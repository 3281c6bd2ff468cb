import Derived.Test.YtjnmoddcodnadaaGreatDoorG01
set_option linter.unusedVariables false
set_option linter.unusedSimpArgs false
namespace Go.Annal
open Go.RowKit
def okRune (c : Nat) : Bool := decide (32 < c) && !(decide (127 ≤ c) && decide (c ≤ 160)) && !decide (c = 65533)
/-- The number of characters from a place on, if all are right. -/
def scanF (s : ByteArray) : Nat → Nat → Option Nat
  | 0, _ => some 0
  | f + 1, pos => if pos < s.size then (if okRune (Utf8.decode s pos).1 then (scanF s f (pos + (Utf8.decode s pos).2)).map (· + 1) else none) else some 0
def scan (s : ByteArray) (pos : Nat) : Option Nat := scanF s (s.size - pos) pos
def isName (s : ByteArray) : Bool := match scan s 0 with | some n => decide (1 ≤ n) && decide (n ≤ 12) | none => false
theorem decode_pos (s : ByteArray) (i : Nat) : 1 ≤ (Utf8.decode s i).2 ∧ (Utf8.decode s i).2 ≤ 4 := by
  unfold Utf8.decode
  dsimp only
  repeat' split
  all_goals simp
theorem scanF_fuel (s : ByteArray) : ∀ f g pos, s.size - pos ≤ f → s.size - pos ≤ g → scanF s f pos = scanF s g pos
  | 0, 0, _, _, _ => rfl
  | 0, g + 1, pos, h, _ => by simp [scanF]; omega
  | f + 1, 0, pos, _, h => by simp [scanF]; omega
  | f + 1, g + 1, pos, h, h' => by
    simp only [scanF]
    have := decode_pos s pos
    split
    · rw [scanF_fuel s f g (pos + (Utf8.decode s pos).2) (by omega) (by omega)]
    · rfl
theorem scan_end (s : ByteArray) (pos : Nat) (h : ¬ pos < s.size) : scan s pos = some 0 := by
  unfold scan; rw [show s.size - pos = 0 by omega]; rfl
theorem scan_ok (s : ByteArray) (pos : Nat) (h : pos < s.size) (ho : okRune (Utf8.decode s pos).1 = true) : scan s pos = (scan s (pos + (Utf8.decode s pos).2)).map (· + 1) := by
  unfold scan
  obtain ⟨f, hf⟩ : ∃ f, s.size - pos = f + 1 := ⟨s.size - pos - 1, by omega⟩
  have := decode_pos s pos
  rw [hf, scanF, if_pos h, if_pos ho, scanF_fuel s f (s.size - (pos + (Utf8.decode s pos).2)) _ (by omega) (by omega)]
theorem scan_bad (s : ByteArray) (pos : Nat) (h : pos < s.size) (ho : okRune (Utf8.decode s pos).1 = false) : scan s pos = none := by
  unfold scan
  obtain ⟨f, hf⟩ : ∃ f, s.size - pos = f + 1 := ⟨s.size - pos - 1, by omega⟩
  rw [hf, scanF, if_pos h, if_neg (by simp [ho])]
theorem scanF_size (s : ByteArray) : ∀ f pos n, s.size - pos ≤ f → scanF s f pos = some n → s.size - pos ≤ 4 * n
  | 0, pos, n, h, _ => by omega
  | f + 1, pos, n, h, e => by
    rw [scanF] at e
    split at e
    · split at e
      · have hd := decode_pos s pos
        cases hs : scanF s f (pos + (Utf8.decode s pos).2) with
        | none => rw [hs] at e; cases e
        | some m =>
          rw [hs] at e
          have e' : m + 1 = n := Option.some.inj e
          have := scanF_size s f _ m (by omega) hs
          omega
      · cases e
    · omega
theorem isName_size {s : ByteArray} (h : isName s = true) : s.size ≤ 48 := by
  unfold isName at h
  cases hs : scan s 0 with
  | none => rw [hs] at h; cases h
  | some n =>
    rw [hs] at h
    simp only [Bool.and_eq_true, decide_eq_true_eq] at h
    have := scanF_size s _ 0 n (Nat.le_refl _) hs
    omega
/-- k characters have come, all right; we stand at pos. -/
def Came (s : ByteArray) (k pos : Nat) : Prop := scan s 0 = (scan s pos).map (· + k)
theorem Came.start (s : ByteArray) : Came s 0 0 := by unfold Came; cases scan s 0 <;> simp
theorem Came.step {s : ByteArray} {k pos : Nat} (h : Came s k pos) (hp : pos < s.size) (ho : okRune (Utf8.decode s pos).1 = true) : Came s (k + 1) (pos + (Utf8.decode s pos).2) := by
  unfold Came at *
  rw [h, scan_ok s pos hp ho]
  cases scan s (pos + (Utf8.decode s pos).2) <;> simp <;> omega
theorem Came.bad {s : ByteArray} {k pos : Nat} (h : Came s k pos) (hp : pos < s.size) (ho : okRune (Utf8.decode s pos).1 = false) : isName s = false := by
  unfold Came at h; unfold isName; rw [h, scan_bad s pos hp ho]; rfl
theorem Came.over {s : ByteArray} {k pos : Nat} (h : Came s k pos) (hk : 12 < k) : isName s = false := by
  unfold Came at h; unfold isName; rw [h]
  cases scan s pos with
  | none => rfl
  | some j => simp; omega
theorem Came.done {s : ByteArray} {k pos : Nat} (h : Came s k pos) (hp : ¬ pos < s.size) : isName s = (decide (1 ≤ k) && decide (k ≤ 12)) := by
  unfold Came at h; unfold isName; rw [h, scan_end s pos hp]; simp
theorem decode_lt (s : ByteArray) (i : Nat) : (Utf8.decode s i).1 ≤ 1114111 := by
  unfold Utf8.decode
  dsimp only
  repeat' split
  all_goals simp_all [Utf8.valid, Utf8.runeError]
  all_goals omega
end Go.Annal
namespace Go.Proofs.YtjnmoddcodnadaaGreatDoor
open Go.RowKit Go.Annal

set_option maxHeartbeats 400000 in
theorem allowed_any (c : Nat) (w : World) (hc : c ≤ 1114111) :
    Calls Tryz.prog 119 #[.int .i32 c] w fun r w' => r = .returned (.bool (okRune c)) ∧ w' = w := by
  rcases (show c ≤ 32 ∨ (32 < c ∧ c < 127) ∨ (127 ≤ c ∧ c ≤ 160) ∨ (160 < c ∧ c ≠ 65533) ∨ c = 65533 by omega) with h | ⟨h, h'⟩ | ⟨h, h'⟩ | ⟨h, h'⟩ | h
  · have e : okRune c = false := by simp [okRune]; omega
    have E : Hid (okRune c = false) := e
    clear e
    have a1 : ¬ (127 : Int) ≤ (c : Int) := by omega
    have a2 : ¬ (32 : Int) < (c : Int) := by omega
    go_enter Tryz.func119, Tryz.ntmps119
    go_wp2
    go_ret
    exact ⟨ret_bool E.out.symm, rfl⟩
  · have e : okRune c = true := by simp [okRune]; omega
    have E : Hid (okRune c = true) := e
    clear e
    have a1 : ¬ (127 : Int) ≤ (c : Int) := by omega
    have a2 : (32 : Int) < (c : Int) := by omega
    have a3 : ((c : Int) != 65533) = true := by simp; omega
    go_enter Tryz.func119, Tryz.ntmps119
    go_wp2
    go_ret
    exact ⟨ret_bool E.out.symm, rfl⟩
  · have e : okRune c = false := by simp [okRune]; omega
    have E : Hid (okRune c = false) := e
    clear e
    have a1 : (127 : Int) ≤ (c : Int) := by omega
    have a2 : (32 : Int) < (c : Int) := by omega
    have a3 : (c : Int) ≤ 160 := by omega
    go_enter Tryz.func119, Tryz.ntmps119
    go_wp2
    go_ret
    exact ⟨ret_bool E.out.symm, rfl⟩
  · have e : okRune c = true := by simp [okRune]; omega
    have E : Hid (okRune c = true) := e
    clear e
    have a1 : (127 : Int) ≤ (c : Int) := by omega
    have a2 : (32 : Int) < (c : Int) := by omega
    have a4 : ¬ (c : Int) ≤ 160 := by omega
    have a3 : ((c : Int) != 65533) = true := by simp; omega
    go_enter Tryz.func119, Tryz.ntmps119
    go_wp2
    go_ret
    exact ⟨ret_bool E.out.symm, rfl⟩
  · subst h
    have E : Hid (okRune 65533 = false) := (by decide : okRune 65533 = false)
    go_enter Tryz.func119, Tryz.ntmps119
    go_wp2
    go_ret
    exact ⟨ret_bool E.out.symm, rfl⟩

theorem run_next_any (w : World) (s : ByteArray) (pos : Nat) (ty : TypeId) (h : pos < s.size) :
    (Instr.next (.pointer (some ⟨w.heap.size, 0, none⟩)) true ty).run Tryz.prog (w.iter s pos) =
      .ok (.tuple #[.bool true, .int .i64 pos, .int .i32 (Utf8.decode s pos).1]) (w.iter s (pos + (Utf8.decode s pos).2)) := by
  simp only [Instr.next, getObj, setObj, Sem.run_bind, Sem.run, World.iter_heap, Result.andThen, h, if_true, World.iter_set]
  simp [goInt]

set_option maxHeartbeats 1000000 in
theorem right_any (s : ByteArray) (w : World) (hs : s.size ≤ 4611686018427387904) :
    Calls Tryz.prog 73 #[.string s] w fun r w' => r = .returned (.bool (isName s)) ∧ Grew w w' := by
  have hfin : ∀ p, Grew w (w.iter s p) := fun p => (Grew.refl w).alloc _
  go_enter Tryz.func73, Tryz.ntmps73
  go_wp2
  go_loopw [3] (fun kv wr => ∃ k pos : Nat, k ≤ 12 ∧ kv = .int .i64 k ∧ Came s k pos ∧ wr = w.iter s pos) (fun kv _ => 12 - (intOf kv).toNat)
  case atStart => exact ⟨0, 0, by omega, rfl, Came.start s, rfl⟩
  case round =>
    obtain ⟨k, pos, hk, rfl, hcame, rfl⟩ := hrel
    by_cases hp : pos < s.size
    · have hn : ∀ ty, (Instr.next (.pointer (some ⟨w.heap.size, 0, none⟩)) true ty).run Tryz.prog (w.iter s pos) = .ok (.tuple #[.bool true, .int .i64 pos, .int .i32 (Utf8.decode s pos).1]) (w.iter s (pos + (Utf8.decode s pos).2)) := fun ty => run_next_any w s pos ty hp
      have hd := decode_lt s pos
      have hstep : Hid (okRune (Utf8.decode s pos).1 = true → Came s (k + 1) (pos + (Utf8.decode s pos).2)) := fun h => hcame.step hp h
      have hbad : Hid (okRune (Utf8.decode s pos).1 = false → isName s = false) := fun h => hcame.bad hp h
      generalize (Utf8.decode s pos).1 = r at *
      generalize (Utf8.decode s pos).2 = n at *
      by_cases hk2 : k = 12
      · have hno : Hid (isName s = false) := by
          show isName s = false
          cases ho : okRune r
          · exact hbad.out ho
          · exact (hstep.out ho).over (by omega)
        subst hk2
        go_wp2
        go_ret
        exact ⟨ret_bool hno.out.symm, hfin _⟩
      · have hk3 : (k : Int) < 12 := by omega
        have hC := fun W => allowed_any r W hd
        have HC : Hid _ := hC
        clear hC
        have hg : ¬ (12 : Int) < (k : Int) + 1 := by omega
        have hg2 : decide ((12 : Int) < (k : Int) + 1) = false := by simpa using hg
        cases ho : okRune r
        · rw [ho] at HC
          have hno : Hid (isName s = false) := hbad.out ho
          clear ho
          go_wp2_with (go_at_call 119; refine (HC.out _).mono ?_; rintro e w' ⟨rfl, rfl⟩)
          go_ret
          exact ⟨ret_bool hno.out.symm, hfin _⟩
        · rw [ho] at HC
          have hyes : Hid (Came s (k + 1) (pos + n)) := hstep.out ho
          clear ho
          go_wp2_with (go_at_call 119; refine (HC.out _).mono ?_; rintro e w' ⟨rfl, rfl⟩)
          go_roundw
          case rel => exact ⟨k + 1, pos + n, by omega, by go_num, hyes.out, rfl⟩
          case measure => simp [intOf]; omega
    · have hn : ∀ ty, (Instr.next (.pointer (some ⟨w.heap.size, 0, none⟩)) true ty).run Tryz.prog (w.iter s pos) = .ok (.tuple #[.bool false]) (w.iter s pos) := fun ty => run_next_end w s pos ty hp
      have hd : Hid (isName s = (decide (1 ≤ k) && decide (k ≤ 12))) := hcame.done hp
      go_wp2
      go_ret
      exact ⟨ret_bool (by rw [hd.out]; rw [Bool.eq_iff_iff]; simp; omega), hfin pos⟩
end Go.Proofs.YtjnmoddcodnadaaGreatDoor
