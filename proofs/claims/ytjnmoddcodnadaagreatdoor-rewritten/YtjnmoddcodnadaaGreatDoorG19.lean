import Derived.Test.YtjnmoddcodnadaaGreatDoorG15
import Derived.Test.YtjnmoddcodnadaaGreatDoorG16
import Derived.Test.YtjnmoddcodnadaaGreatDoorG17
import Derived.Test.YtjnmoddcodnadaaGreatDoorG18
import Derived.Test.YtjnmoddcodnadaaGreatDoorG04
import Derived.Test.YtjnmoddcodnadaaGreatDoorG11
import Derived.Test.YtjnmoddcodnadaaGreatDoorG12
import Derived.Test.YtjnmoddcodnadaaGreatDoorG13
set_option linter.unusedVariables false
set_option linter.unusedSimpArgs false
namespace Go.Proofs.YtjnmoddcodnadaaGreatDoor
open Go.RowKit Go.Annal
theorem width_any (s : ByteArray) (p : Nat) (w : World) (hs : s.size ≤ 4611686018427387904) (hp : p < s.size) :
    Calls Tryz.prog 123 #[.string s, .int .i64 p] w fun r w' => r = .returned (.tuple #[.int .i64 (widthN s p).1, .int .i64 (widthN s p).2]) ∧ w' = w := by
  obtain ⟨b0, h0⟩ : ∃ b0, (s[p]'hp).toNat = b0 := ⟨_, rfl⟩
  by_cases a1 : b0 < 128
  · exact width_1 s p w hs b0 hp h0 a1
  by_cases a2 : b0 < 194
  · exact width_d1 s p w hs b0 hp h0 (by omega) a2
  by_cases a3 : 245 ≤ b0
  · exact width_d2 s p w hs b0 hp h0 a3
  by_cases a4 : b0 < 224
  · by_cases l : s.size < p + 2
    · exact width_s2 s p w hs b0 hp h0 l (by omega) a4
    have hp1 : p + 1 < s.size := by omega
    obtain ⟨b1, h1⟩ : ∃ b1, (s[p + 1]'hp1).toNat = b1 := ⟨_, rfl⟩
    by_cases d1 : b1 < 128
    · exact width_b21l s p w hs b0 b1 hp h0 hp1 h1 (by omega) (by omega) a4 d1
    by_cases e1 : 192 ≤ b1
    · exact width_b21h s p w hs b0 b1 hp h0 hp1 h1 (by omega) (by omega) a4 e1
    exact width_2ok s p w hs b0 b1 hp h0 hp1 h1 (by omega) a4 (by omega) (by omega)
  by_cases a5 : b0 < 240
  · by_cases l : s.size < p + 3
    · exact width_s3 s p w hs b0 hp h0 l (by omega) a5
    have hp1 : p + 1 < s.size := by omega
    have hp2 : p + 2 < s.size := by omega
    obtain ⟨b1, h1⟩ : ∃ b1, (s[p + 1]'hp1).toNat = b1 := ⟨_, rfl⟩
    obtain ⟨b2, h2⟩ : ∃ b2, (s[p + 2]'hp2).toNat = b2 := ⟨_, rfl⟩
    by_cases d1 : b1 < 128
    · exact width_b31l s p w hs b0 b1 hp h0 hp1 h1 (by omega) (by omega) a5 d1
    by_cases e1 : 192 ≤ b1
    · exact width_b31h s p w hs b0 b1 hp h0 hp1 h1 (by omega) (by omega) a5 e1
    by_cases d2 : b2 < 128
    · exact width_b32l s p w hs b0 b1 b2 hp h0 hp1 h1 hp2 h2 (by omega) (by omega) a5 (by omega) (by omega) d2
    by_cases e2 : 192 ≤ b2
    · exact width_b32h s p w hs b0 b1 b2 hp h0 hp1 h1 hp2 h2 (by omega) (by omega) a5 (by omega) (by omega) e2
    by_cases f1 : (64 * (64 * (b0 - 224) + b1 - 128) + b2 - 128) < 2048
    · exact width_3z1 s p w hs b0 b1 b2 hp h0 hp1 h1 hp2 h2 (by omega) a5 (by omega) (by omega) (by omega) (by omega) f1
    by_cases f2 : (64 * (64 * (b0 - 224) + b1 - 128) + b2 - 128) < 55296
    · exact width_3ok1 s p w hs b0 b1 b2 hp h0 hp1 h1 hp2 h2 (by omega) a5 (by omega) (by omega) (by omega) (by omega) (by omega) f2
    by_cases f3 : (64 * (64 * (b0 - 224) + b1 - 128) + b2 - 128) < 57344
    · exact width_3z2 s p w hs b0 b1 b2 hp h0 hp1 h1 hp2 h2 (by omega) a5 (by omega) (by omega) (by omega) (by omega) (by omega) f3
    exact width_3ok2 s p w hs b0 b1 b2 hp h0 hp1 h1 hp2 h2 (by omega) a5 (by omega) (by omega) (by omega) (by omega) (by omega)
  · have a6 : b0 < 245 := by omega
    by_cases l : s.size < p + 4
    · exact width_s4 s p w hs b0 hp h0 l (by omega) a6
    have hp1 : p + 1 < s.size := by omega
    have hp2 : p + 2 < s.size := by omega
    have hp3 : p + 3 < s.size := by omega
    obtain ⟨b1, h1⟩ : ∃ b1, (s[p + 1]'hp1).toNat = b1 := ⟨_, rfl⟩
    obtain ⟨b2, h2⟩ : ∃ b2, (s[p + 2]'hp2).toNat = b2 := ⟨_, rfl⟩
    obtain ⟨b3, h3⟩ : ∃ b3, (s[p + 3]'hp3).toNat = b3 := ⟨_, rfl⟩
    by_cases d1 : b1 < 128
    · exact width_b41l s p w hs b0 b1 hp h0 hp1 h1 (by omega) (by omega) a6 d1
    by_cases e1 : 192 ≤ b1
    · exact width_b41h s p w hs b0 b1 hp h0 hp1 h1 (by omega) (by omega) a6 e1
    by_cases d2 : b2 < 128
    · exact width_b42l s p w hs b0 b1 b2 hp h0 hp1 h1 hp2 h2 (by omega) (by omega) a6 (by omega) (by omega) d2
    by_cases e2 : 192 ≤ b2
    · exact width_b42h s p w hs b0 b1 b2 hp h0 hp1 h1 hp2 h2 (by omega) (by omega) a6 (by omega) (by omega) e2
    by_cases d3 : b3 < 128
    · exact width_b43l s p w hs b0 b1 b2 b3 hp h0 hp1 h1 hp2 h2 hp3 h3 (by omega) (by omega) a6 (by omega) (by omega) (by omega) (by omega) d3
    by_cases e3 : 192 ≤ b3
    · exact width_b43h s p w hs b0 b1 b2 b3 hp h0 hp1 h1 hp2 h2 hp3 h3 (by omega) (by omega) a6 (by omega) (by omega) (by omega) (by omega) e3
    by_cases f1 : (64 * (64 * (64 * (b0 - 240) + b1 - 128) + b2 - 128) + b3 - 128) < 65536
    · exact width_4z1 s p w hs b0 b1 b2 b3 hp h0 hp1 h1 hp2 h2 hp3 h3 (by omega) a6 (by omega) (by omega) (by omega) (by omega) (by omega) (by omega) f1
    by_cases f2 : 1114111 < (64 * (64 * (64 * (b0 - 240) + b1 - 128) + b2 - 128) + b3 - 128)
    · exact width_4z2 s p w hs b0 b1 b2 b3 hp h0 hp1 h1 hp2 h2 hp3 h3 (by omega) a6 (by omega) (by omega) (by omega) (by omega) (by omega) (by omega) f2
    exact width_4ok s p w hs b0 b1 b2 b3 hp h0 hp1 h1 hp2 h2 hp3 h3 (by omega) a6 (by omega) (by omega) (by omega) (by omega) (by omega) (by omega) (by omega) (by omega)

set_option maxRecDepth 100000 in
set_option maxHeartbeats 1000000 in
theorem name_any (s : ByteArray) (w : World) (hs : s.size ≤ 1000000000) :
    Calls Tryz.prog 76 #[.string s] w fun r w' => r = .returned (.bool (isName s)) ∧ w' = w := by
  go_enter Tryz.func76, Tryz.ntmps76
  go_wp2
  go_loop [3, 4] (fun kv iv => ∃ k pos : Nat, k ≤ pos ∧ pos ≤ s.size + 4 ∧ kv = .int .i64 k ∧ iv = .int .i64 pos ∧ Came s k pos) (fun _ iv => s.size - (intOf iv).toNat)
  case atStart => exact ⟨0, 0, by omega, by omega, rfl, rfl, Came.start s⟩
  case round =>
    obtain ⟨k, pos, hkp, hps, rfl, rfl, hcame⟩ := hrel
    by_cases hp : pos < s.size
    · have hp' : (pos : Int) < (s.size : Int) := by omega
      have HC : Hid (∀ W, Calls Tryz.prog 123 #[.string s, .int .i64 pos] W fun r w' => r = .returned (.tuple #[.int .i64 (widthN s pos).1, .int .i64 (widthN s pos).2]) ∧ w' = W) := fun W => width_any s pos W (by omega) hp
      have hstep : Hid (okRune (Utf8.decode s pos).1 = true → Came s (k + 1) (pos + (Utf8.decode s pos).2)) := fun h => hcame.step hp h
      have hbad : Hid (okRune (Utf8.decode s pos).1 = false → isName s = false) := fun h => hcame.bad hp h
      have hd := decode_lt s pos
      have hd2 := decode_pos s pos
      by_cases herr : Utf8.decode s pos = (65533, 1)
      · have hno : Hid (isName s = false) := hbad.out (by rw [herr]; decide)
        have hw : widthN s pos = (0, 0) := by simp [widthN, herr]
        rw [hw] at HC
        clear hstep hbad hd hd2 herr hcame hw
        go_wp2_with (go_at_call 123; refine (HC.out _).mono ?_; rintro e w' ⟨rfl, rfl⟩)
        go_ret
        exact ⟨ret_bool hno.out.symm, rfl⟩
      · have hw : widthN s pos = Utf8.decode s pos := by simp [widthN, herr]
        rw [hw] at HC
        clear herr hcame hw
        generalize (Utf8.decode s pos).1 = v at *
        generalize (Utf8.decode s pos).2 = n at *
        obtain ⟨hn1, hn4⟩ := hd2
        have hn0 : ((n : Int) == 0) = false := by rw [beq_eq_false_iff_ne]; omega
        rcases (show v ≤ 32 ∨ (32 < v ∧ v < 127) ∨ (127 ≤ v ∧ v ≤ 160) ∨ (160 < v ∧ v ≠ 65533) ∨ v = 65533 by omega) with h | ⟨h, h'⟩ | ⟨h, h'⟩ | ⟨h, h'⟩ | h
        · have hno : Hid (isName s = false) := hbad.out (by simp [okRune]; omega)
          have a2 : (v : Int) ≤ 32 := by omega
          go_wp2_with (go_at_call 123; refine (HC.out _).mono ?_; rintro e w' ⟨rfl, rfl⟩)
          go_ret
          exact ⟨ret_bool hno.out.symm, rfl⟩
        · have hyes : Hid (Came s (k + 1) (pos + n)) := hstep.out (by simp [okRune]; omega)
          have a2 : ¬ (v : Int) ≤ 32 := by omega
          have a3 : ¬ (127 : Int) ≤ (v : Int) := by omega
          have a4 : ((v : Int) == 65533) = false := by rw [beq_eq_false_iff_ne]; omega
          go_wp2_with (go_at_call 123; refine (HC.out _).mono ?_; rintro e w' ⟨rfl, rfl⟩)
          go_round
          case rel => exact ⟨k + 1, pos + n, by omega, by omega, by go_num, by go_num, hyes.out⟩
          case measure => simp [intOf]; omega
        · have hno : Hid (isName s = false) := hbad.out (by simp [okRune]; omega)
          have a2 : ¬ (v : Int) ≤ 32 := by omega
          have a3 : (127 : Int) ≤ (v : Int) := by omega
          have a4 : (v : Int) ≤ 160 := by omega
          go_wp2_with (go_at_call 123; refine (HC.out _).mono ?_; rintro e w' ⟨rfl, rfl⟩)
          go_ret
          exact ⟨ret_bool hno.out.symm, rfl⟩
        · have hyes : Hid (Came s (k + 1) (pos + n)) := hstep.out (by simp [okRune]; omega)
          have a2 : ¬ (v : Int) ≤ 32 := by omega
          have a3 : (127 : Int) ≤ (v : Int) := by omega
          have a5 : ¬ (v : Int) ≤ 160 := by omega
          have a4 : ((v : Int) == 65533) = false := by rw [beq_eq_false_iff_ne]; omega
          go_wp2_with (go_at_call 123; refine (HC.out _).mono ?_; rintro e w' ⟨rfl, rfl⟩)
          go_round
          case rel => exact ⟨k + 1, pos + n, by omega, by omega, by go_num, by go_num, hyes.out⟩
          case measure => simp [intOf]; omega
        · have hno : Hid (isName s = false) := hbad.out (by subst h; decide)
          subst h
          go_wp2_with (go_at_call 123; refine (HC.out _).mono ?_; rintro e w' ⟨rfl, rfl⟩)
          go_ret
          exact ⟨ret_bool hno.out.symm, rfl⟩
    · have hp' : ¬ (pos : Int) < (s.size : Int) := by omega
      have hd : Hid (isName s = (decide (1 ≤ k) && decide (k ≤ 12))) := hcame.done hp
      clear hcame
      by_cases hk : (1 : Int) ≤ (k : Int)
      · go_wp2
        go_ret
        exact ⟨ret_bool (by rw [hd.out, Bool.eq_iff_iff]; simp; omega), rfl⟩
      · go_wp2
        go_ret
        exact ⟨ret_bool (by rw [hd.out, Bool.eq_iff_iff]; simp; omega), rfl⟩
end Go.Proofs.YtjnmoddcodnadaaGreatDoor
namespace Go.Annal
def kindB (k : Int) : Bool := decide (k = 0) || decide (k = 1)
def openE (name kind there full : Bool) : Int := if !name then 1 else if !kind then 2 else if there then 3 else if full then 4 else 0
end Go.Annal
namespace Go.Proofs.YtjnmoddcodnadaaGreatDoor
open Go.RowKit Go.Annal
theorem Tryz.infoAcc : (Tryz.prog.info? 154).map (fun i => (i.zero, i.size, i.bytes)) = some (some (.agg #[.string ⟨#[]⟩, .int .i64 0]), 2, 24) := by kernel_rfl

theorem sz_arr (a : Array UInt8) : (⟨a⟩ : ByteArray).size = a.size := rfl

set_option maxRecDepth 100000 in
set_option maxHeartbeats 1000000 in
theorem OpenR_err (R ga ca na : Nat) (ada : Option Addr) (fn : Nat → ByteArray) (name : ByteArray) (kind : Int) (w : World) (hA : AccsAt w R ga ca na ada fn) (hs : name.size ≤ 1000000000)
    (he : openE (isName name) (kindB kind) (decide (0 ≤ atI fn na name)) (decide (10 ≤ na)) ≠ 0) :
    Calls Tryz.prog 39 #[.pointer (some ⟨R, 0, none⟩), .string name, .int .i64 kind] w fun r w' => r = .returned (.int .i64 (openE (isName name) (kindB kind) (decide (0 ≤ atI fn na name)) (decide (10 ≤ na)))) ∧ w' = w := by
  have C1 : Hid _ := name_any name w hs
  have C2 : Hid _ := hA.at name
  have cA := hA.cA
  have hfew := hA.few
  clear hA
  cases h1 : isName name
  · rw [h1] at C1
    clear h1 he
    generalize atI fn na name = t at *
    go_enter Tryz.func39, Tryz.ntmps39
    go_wp2_with (first | (go_at_call 76; refine Calls.mono C1.out ?_; rintro e wx ⟨rfl, hw⟩; rw [hw]; clear hw wx) | (go_at_call 77; refine Calls.mono C2.out ?_; rintro e wx ⟨rfl, hw⟩; rw [hw]; clear hw wx))
    go_ret
    exact ⟨rfl, rfl⟩
  · rw [h1] at C1 he
    clear h1
    cases h2 : kindB kind
    · have k0 : (kind != 0) = true := by simp [kindB] at h2; simp; omega
      have k1 : (kind != 1) = true := by simp [kindB] at h2; simp; omega
      clear h2 he
      generalize atI fn na name = t at *
      go_enter Tryz.func39, Tryz.ntmps39
      go_wp2_with (first | (go_at_call 76; refine Calls.mono C1.out ?_; rintro e wx ⟨rfl, hw⟩; rw [hw]; clear hw wx) | (go_at_call 77; refine Calls.mono C2.out ?_; rintro e wx ⟨rfl, hw⟩; rw [hw]; clear hw wx))
      go_ret
      exact ⟨rfl, rfl⟩
    · rw [h2] at he
      have hk : kind = 0 ∨ kind = 1 := by simpa [kindB] using h2
      clear h2
      cases h3 : decide (0 ≤ atI fn na name)
      · rw [h3] at he
        have ht : atI fn na name < 0 := by simpa using h3
        have h4 : decide (10 ≤ na) = true := by
          cases h : decide (10 ≤ na)
          · rw [h] at he; exact absurd rfl he
          · rfl
        rw [h4]
        have hna : 10 ≤ na := by simpa using h4
        have hna' : (10 : Int) ≤ (na : Int) := by omega
        have ht' : ¬ 0 ≤ atI fn na name := by omega
        clear h3 h4 he
        generalize atI fn na name = t at *
        rcases hk with rfl | rfl
        · go_enter Tryz.func39, Tryz.ntmps39
          go_wp2_with (first | (go_at_call 76; refine Calls.mono C1.out ?_; rintro e wx ⟨rfl, hw⟩; rw [hw]; clear hw wx) | (go_at_call 77; refine Calls.mono C2.out ?_; rintro e wx ⟨rfl, hw⟩; rw [hw]; clear hw wx))
          go_ret
          exact ⟨rfl, rfl⟩
        · go_enter Tryz.func39, Tryz.ntmps39
          go_wp2_with (first | (go_at_call 76; refine Calls.mono C1.out ?_; rintro e wx ⟨rfl, hw⟩; rw [hw]; clear hw wx) | (go_at_call 77; refine Calls.mono C2.out ?_; rintro e wx ⟨rfl, hw⟩; rw [hw]; clear hw wx))
          go_ret
          exact ⟨rfl, rfl⟩
      · have ht : 0 ≤ atI fn na name := by simpa using h3
        clear h3 he
        generalize atI fn na name = t at *
        rcases hk with rfl | rfl
        · go_enter Tryz.func39, Tryz.ntmps39
          go_wp2_with (first | (go_at_call 76; refine Calls.mono C1.out ?_; rintro e wx ⟨rfl, hw⟩; rw [hw]; clear hw wx) | (go_at_call 77; refine Calls.mono C2.out ?_; rintro e wx ⟨rfl, hw⟩; rw [hw]; clear hw wx))
          go_ret
          exact ⟨rfl, rfl⟩
        · go_enter Tryz.func39, Tryz.ntmps39
          go_wp2_with (first | (go_at_call 76; refine Calls.mono C1.out ?_; rintro e wx ⟨rfl, hw⟩; rw [hw]; clear hw wx) | (go_at_call 77; refine Calls.mono C2.out ?_; rintro e wx ⟨rfl, hw⟩; rw [hw]; clear hw wx))
          go_ret
          exact ⟨rfl, rfl⟩

set_option maxRecDepth 100000 in
set_option maxHeartbeats 1000000 in
theorem OpenR_ok (R ga ca na : Nat) (av ev c2 : Value) (t : ByteArray) (ada : Option Addr) (fn : Nat → ByteArray) (xs : List Value) (name : ByteArray) (kind : Int) (w : World) (hA : AccsAt w R ga ca na ada fn) (hs : name.size ≤ 1000000000) (ht : t.size ≤ 900000000000)
    (hR : w.heap[R]? = some (.cells #[av, ev, c2, .string t] 103 (0, 0))) (hown : w.ownsRow 0 154 2 av na xs)
    (h1 : isName name = true) (h2 : kind = 0 ∨ kind = 1) (h3 : atI fn na name < 0) (h4 : na < 10) :
    Calls Tryz.prog 39 #[.pointer (some ⟨R, 0, none⟩), .string name, .int .i64 kind] w fun r w' => r = .returned (.int .i64 0) ∧ ∃ g cap t', (t'.size ≤ t.size + name.size + 100 ∧ t' = t ++ (⟨#[111, 32]⟩ ++ name ++ ⟨#[32]⟩ ++ ⟨(digZ kind).toArray⟩) ++ ⟨#[10]⟩) ∧
      w'.heap[R]? = some (.cells #[.slice (some ⟨g, 0, none⟩) (na + 1) cap, ev, c2, .string t'] 103 (0, 0)) ∧ w'.ownsRow 0 154 2 (.slice (some ⟨g, 0, none⟩) (na + 1) cap) (na + 1) (xs ++ [.string name, .int .i64 kind]) ∧
      Turn (fun k => k = R ∨ av.ownBlock = some k) w w' ∧ (av.ownBlock = some g ∨ w.heap.size ≤ g) := by
  obtain ⟨i0, hi, hz0, hz1, hz2⟩ := info_parts Tryz.infoAcc
  have C1 : Hid _ := name_any name w hs
  have C2 : Hid _ := hA.at name
  rw [h1] at C1
  have hcA := hA.cA
  have hR0 := blk_cell' hR (o := 0) rfl
  have hav : av = .slice ada na ca := by have := hcA.symm.trans hR0; simpa using this.symm
  clear hA hcA
  have hRb : av.ownBlock ≠ some R := fun h => by
    obtain ⟨c, fz, hc⟩ := owns_kind hown R h
    rw [hR] at hc; simp at hc
  have hRlt := blk_lt hR
  have f0 := blk_free hR 0
  have h3' : ¬ 0 ≤ atI fn na name := by omega
  have h4' : ¬ (10 : Int) ≤ (na : Int) := by omega
  generalize atI fn na name = tt at *
  clear h1
  subst hav
  have CD := fun W => digits_any kind W (by omega) (by omega)
  have HD : Hid _ := CD
  have hdl := digZ_len kind
  clear CD
  have k01 : Hid (kind = 0 ∨ kind = 1) := h2
  have kk : (kind != 0 && kind != 1) = false := by rcases h2 with rfl | rfl <;> rfl
  generalize hdz : digZ kind = dl at HD hdl ⊢
  clear hdz
  rcases h2 with rfl | rfl
  · go_enter Tryz.func39, Tryz.ntmps39
    go_wp2_with (first
      | (go_at_call 76; refine Calls.mono C1.out ?_; rintro e wx ⟨rfl, hw⟩; rw [hw]; clear hw wx)
      | (go_at_call 77; refine Calls.mono C2.out ?_; rintro e wx ⟨rfl, hw⟩; rw [hw]; clear hw wx)
      | (at_builtin; refine wpList_append_lies _ rfl (.tmp 38) (.tmp 42) 100 rfl 0 154 i0 _ 2 24 Tryz.underlying100 hi hz0 hz1 hz2 rfl (by decide) _ na xs rfl (hown.alloc _) ⟨w.heap.size, 0, none⟩ 1 1 [.string name, .int .i64 0] rfl rfl (World.news_of_block (cs := #[.string name, .int .i64 0]) (heap_alloc_new w _)) (by simp [Value.oneCell']) (by decide) (by unfold maxLen; omega) (by omega) (Nat.zero_le _) (w.heap.size + 1) (by simp) ?_; intro g cap w1 hown1 hg1 hat hlt; have R1 : w1.heap[R]? = some (.cells #[.slice ada na ca, ev, c2, .string t] 103 (0, 0)) := (hg1.block R (by simp; omega) (Ne.symm hRb)).trans (Grew.blk ((Grew.refl w).alloc _) hR); have r1' := blk_cell' R1 (o := 0) rfl; have f1'' := blk_free R1 0))
    refine Calls.mono (HD.out _) ?_
    rintro e w3 ⟨rfl, hg3⟩
    have R3 := hg3.blk (blk_set R1 0 (.slice (some ⟨g, 0, none⟩) (na + 1) cap))
    have hge : (Value.slice (some ⟨g, 0, none⟩) (na + 1) cap).ownBlock ≠ some R := fun h => by
      obtain ⟨c, fz, hc⟩ := owns_kind hown1 R h
      rw [R1] at hc; simp at hc
    have own2 := ownsRow_setCell_other hown1 (a := ⟨R, 0, none⟩) hge (.slice (some ⟨g, 0, none⟩) (na + 1) cap)
    have own3 := owns_mv own2 hg3.below
    have T3 : Turn (fun k => k = R ∨ (Value.slice ada na ca).ownBlock = some k) w w3 := Turn.below (Turn.set (Turn.of_grown (Turn.alloc (Turn.refl _ w) _) hg1 (fun k hk _ => Or.inr hk)) _ _ (fun _ => Or.inl rfl)) hg3.below
    have HG : Hid ((Value.slice ada na ca).ownBlock = some g ∨ g = w.heap.size + 1) := hat
    clear hg1 hg3 hown1 own2 R1 r1' f1'' hat HD
    go_wp2_with fail
    refine Calls.mono (note_any R _ _ _ t _ w3 R3 (by simp only [ByteArray.size_append, sz_arr, List.size_toArray, List.length_cons, List.length_nil]; omega)) ?_
    rintro e w4 ⟨rfl, rfl⟩
    have R4 := blk_set R3 3
    have own4 := fun v => ownsRow_setCell_other own3 (a := ⟨R, 3, none⟩) hge v
    have T4 := fun v => Turn.set T3 ⟨R, 3, none⟩ v (fun _ => Or.inl rfl)
    clear R3 own3 T3
    go_wp2
    go_ret
    refine ⟨rfl, g, cap, _, ?_, R4 _, own4 _, T4 _, ?_⟩
    · refine ⟨?_, rfl⟩
      simp only [ByteArray.size_append, sz_arr, List.size_toArray, List.length_cons, List.length_nil]; omega
    · rcases HG.out with h | h
      · exact .inl h
      · exact .inr (by omega)
  · go_enter Tryz.func39, Tryz.ntmps39
    go_wp2_with (first
      | (go_at_call 76; refine Calls.mono C1.out ?_; rintro e wx ⟨rfl, hw⟩; rw [hw]; clear hw wx)
      | (go_at_call 77; refine Calls.mono C2.out ?_; rintro e wx ⟨rfl, hw⟩; rw [hw]; clear hw wx)
      | (at_builtin; refine wpList_append_lies _ rfl (.tmp 38) (.tmp 42) 100 rfl 0 154 i0 _ 2 24 Tryz.underlying100 hi hz0 hz1 hz2 rfl (by decide) _ na xs rfl (hown.alloc _) ⟨w.heap.size, 0, none⟩ 1 1 [.string name, .int .i64 1] rfl rfl (World.news_of_block (cs := #[.string name, .int .i64 1]) (heap_alloc_new w _)) (by simp [Value.oneCell']) (by decide) (by unfold maxLen; omega) (by omega) (Nat.zero_le _) (w.heap.size + 1) (by simp) ?_; intro g cap w1 hown1 hg1 hat hlt; have R1 : w1.heap[R]? = some (.cells #[.slice ada na ca, ev, c2, .string t] 103 (0, 0)) := (hg1.block R (by simp; omega) (Ne.symm hRb)).trans (Grew.blk ((Grew.refl w).alloc _) hR); have r1' := blk_cell' R1 (o := 0) rfl; have f1'' := blk_free R1 0))
    refine Calls.mono (HD.out _) ?_
    rintro e w3 ⟨rfl, hg3⟩
    have R3 := hg3.blk (blk_set R1 0 (.slice (some ⟨g, 0, none⟩) (na + 1) cap))
    have hge : (Value.slice (some ⟨g, 0, none⟩) (na + 1) cap).ownBlock ≠ some R := fun h => by
      obtain ⟨c, fz, hc⟩ := owns_kind hown1 R h
      rw [R1] at hc; simp at hc
    have own2 := ownsRow_setCell_other hown1 (a := ⟨R, 0, none⟩) hge (.slice (some ⟨g, 0, none⟩) (na + 1) cap)
    have own3 := owns_mv own2 hg3.below
    have T3 : Turn (fun k => k = R ∨ (Value.slice ada na ca).ownBlock = some k) w w3 := Turn.below (Turn.set (Turn.of_grown (Turn.alloc (Turn.refl _ w) _) hg1 (fun k hk _ => Or.inr hk)) _ _ (fun _ => Or.inl rfl)) hg3.below
    have HG : Hid ((Value.slice ada na ca).ownBlock = some g ∨ g = w.heap.size + 1) := hat
    clear hg1 hg3 hown1 own2 R1 r1' f1'' hat HD
    go_wp2_with fail
    refine Calls.mono (note_any R _ _ _ t _ w3 R3 (by simp only [ByteArray.size_append, sz_arr, List.size_toArray, List.length_cons, List.length_nil]; omega)) ?_
    rintro e w4 ⟨rfl, rfl⟩
    have R4 := blk_set R3 3
    have own4 := fun v => ownsRow_setCell_other own3 (a := ⟨R, 3, none⟩) hge v
    have T4 := fun v => Turn.set T3 ⟨R, 3, none⟩ v (fun _ => Or.inl rfl)
    clear R3 own3 T3
    go_wp2
    go_ret
    refine ⟨rfl, g, cap, _, ?_, R4 _, own4 _, T4 _, ?_⟩
    · refine ⟨?_, rfl⟩
      simp only [ByteArray.size_append, sz_arr, List.size_toArray, List.length_cons, List.length_nil]; omega
    · rcases HG.out with h | h
      · exact .inl h
      · exact .inr (by omega)
end Go.Proofs.YtjnmoddcodnadaaGreatDoor
namespace Go.Proofs.YtjnmoddcodnadaaGreatDoor
open Go.RowKit Go.Annal Go.Sort
set_option maxHeartbeats 1000000 in
set_option maxRecDepth 100000 in
theorem OpenA_err (B ga ca na : Nat) (ada : Option Addr) (pa : Nat → Nat) (nm : Nat → ByteArray) (name : ByteArray) (kind : Int) (w : World) (h : BookAt w B ga ca na ada pa nm) (hna : na ≤ 1000) (hs : name.size ≤ 1000000000)
    (he : openE (isName name) (kindB kind) (isAt nm na name) (decide (10 ≤ na)) ≠ 0) :
    Calls Tryz.prog 38 #[.pointer (some ⟨B, 0, none⟩), .string name, .int .i64 kind] w fun r w' => r = .returned (.int .i64 (openE (isName name) (kindB kind) (isAt nm na name) (decide (10 ≤ na)))) ∧ Below w.heap.size w w' := by
  have C1 : Hid (type_of% (place_any B ga ca na ada pa nm name w h hna)) := place_any B ga ca na ada pa nm name w h hna
  have C2 : Hid (type_of% (fun W => right_any name W (by omega))) := fun W => right_any name W (by omega)
  have cA := h.cB
  clear h
  cases h1 : isName name
  · rw [h1] at C2
    clear h1 he
    generalize isAt nm na name = t at *
    generalize lessN nm na name = k at *
    go_enter Tryz.func38, Tryz.ntmps38
    go_wp2_with (first | (go_at_call 72; refine Calls.mono C1.out ?_; rintro e w1 ⟨rfl, hg1⟩) | (go_at_call 73; refine Calls.mono (C2.out _) ?_; rintro e w2 ⟨rfl, hg2⟩))
    go_ret
    exact ⟨rfl, (hg1.trans hg2).below⟩
  · rw [h1] at C2 he
    clear h1
    cases h2 : kindB kind
    · have k0 : (kind != 0) = true := by simp [kindB] at h2; simp; omega
      have k1 : (kind != 1) = true := by simp [kindB] at h2; simp; omega
      clear h2 he
      generalize isAt nm na name = t at *
      generalize lessN nm na name = k at *
      go_enter Tryz.func38, Tryz.ntmps38
      go_wp2_with (first | (go_at_call 72; refine Calls.mono C1.out ?_; rintro e w1 ⟨rfl, hg1⟩) | (go_at_call 73; refine Calls.mono (C2.out _) ?_; rintro e w2 ⟨rfl, hg2⟩))
      go_ret
      exact ⟨rfl, (hg1.trans hg2).below⟩
    · rw [h2] at he
      have hk : kind = 0 ∨ kind = 1 := by simpa [kindB] using h2
      clear h2
      cases h3 : isAt nm na name
      · rw [h3] at he C1
        have h4 : decide (10 ≤ na) = true := by
          cases h : decide (10 ≤ na)
          · rw [h] at he; exact absurd rfl he
          · rfl
        rw [h4]
        have hna' : (10 : Int) ≤ (na : Int) := by have : 10 ≤ na := by simpa using h4
                                                  omega
        clear h3 h4 he
        generalize lessN nm na name = k at *
        rcases hk with rfl | rfl
        · go_enter Tryz.func38, Tryz.ntmps38
          go_wp2_with (first | (go_at_call 72; refine Calls.mono C1.out ?_; rintro e w1 ⟨rfl, hg1⟩) | (go_at_call 73; refine Calls.mono (C2.out _) ?_; rintro e w2 ⟨rfl, hg2⟩; have cA2 := (hg1.trans hg2).cell' cA))
          go_ret
          exact ⟨rfl, (hg1.trans hg2).below⟩
        · go_enter Tryz.func38, Tryz.ntmps38
          go_wp2_with (first | (go_at_call 72; refine Calls.mono C1.out ?_; rintro e w1 ⟨rfl, hg1⟩) | (go_at_call 73; refine Calls.mono (C2.out _) ?_; rintro e w2 ⟨rfl, hg2⟩; have cA2 := (hg1.trans hg2).cell' cA))
          go_ret
          exact ⟨rfl, (hg1.trans hg2).below⟩
      · rw [h3] at C1
        clear h3 he
        generalize lessN nm na name = k at *
        rcases hk with rfl | rfl
        · go_enter Tryz.func38, Tryz.ntmps38
          go_wp2_with (first | (go_at_call 72; refine Calls.mono C1.out ?_; rintro e w1 ⟨rfl, hg1⟩) | (go_at_call 73; refine Calls.mono (C2.out _) ?_; rintro e w2 ⟨rfl, hg2⟩))
          go_ret
          exact ⟨rfl, (hg1.trans hg2).below⟩
        · go_enter Tryz.func38, Tryz.ntmps38
          go_wp2_with (first | (go_at_call 72; refine Calls.mono C1.out ?_; rintro e w1 ⟨rfl, hg1⟩) | (go_at_call 73; refine Calls.mono (C2.out _) ?_; rintro e w2 ⟨rfl, hg2⟩))
          go_ret
          exact ⟨rfl, (hg1.trans hg2).below⟩
end Go.Proofs.YtjnmoddcodnadaaGreatDoor
namespace Go.Annal
def sj (p i : Nat) : Nat := if i < p then i else i - 1
theorem sh_at {α : Type} (p : Nat) (v : α) (f : Nat → α) : sh p v f p = v := by simp [sh]
theorem sh_ne {α : Type} (p : Nat) (v : α) (f : Nat → α) {i : Nat} (h : i ≠ p) : sh p v f i = f (sj p i) := by
  unfold sh sj
  by_cases h1 : i < p
  · rw [if_pos h1, if_pos h1]
  · rw [if_neg h1, if_neg h1, if_neg h]
theorem sj_lt {p i n : Nat} (hp : p ≤ n) (hi : i < n + 1) (h : i ≠ p) : sj p i < n := by unfold sj; split <;> omega
theorem sj_inj {p i j : Nat} (h : i ≠ p) (h' : j ≠ p) (hij : i ≠ j) : sj p i ≠ sj p j := by unfold sj; split <;> split <;> omega
theorem sj_onto {p n j : Nat} (_hp : p ≤ n) (hj : j < n) : ∃ i, i < n + 1 ∧ i ≠ p ∧ sj p i = j := by
  by_cases h : j < p
  · exact ⟨j, by omega, by omega, by simp [sj, h]⟩
  · exact ⟨j + 1, by omega, by omega, by unfold sj; rw [if_neg (by omega)]; omega⟩
end Go.Annal
namespace Go.Proofs.YtjnmoddcodnadaaGreatDoor
open Go.RowKit Go.Annal Go.Sort
/-- A new account, which has nothing. -/
theorem hist_new {w : World} {A : Nat} {name : ByteArray} {kind : Int} (h : w.heap[A]? = some (.cells #[.string name, .int .i64 kind, .slice none 0 0] 145 (0, 0))) : HistAt w A name kind 0 (fun _ => (0, 0, 0)) none 0 (fun _ => 0) (fun _ => 0) (fun _ => []) :=
  ⟨h, ⟨rfl, .inl ⟨rfl, rfl⟩⟩, fun i hi => by omega, fun i hi => by omega, fun i hi => by omega, fun i hi => by omega, fun i hi => by omega⟩
theorem accs_open {w : World} {na : Nat} {pa : Nat → Nat} {nm : Nat → ByteArray} {kd : Nat → Int} {mm : Nat → Nat} {ff : Nat → Nat → It} {F : Nat → Prop} (h : Accs w na pa nm kd mm ff F) {A p : Nat} {name : ByteArray} {kind : Int} (hp : p ≤ na) (hA : w.heap[A]? = some (.cells #[.string name, .int .i64 kind, .slice none 0 0] 145 (0, 0))) (hF : ¬ F A) :
    Accs w (na + 1) (sh p A pa) (sh p name nm) (sh p kind kd) (sh p 0 mm) (sh p (fun _ => (0, 0, 0)) ff) (fun k => F k ∨ k = A) := by
  obtain ⟨ad, cap, gr, cp, bl, h1, h2, h3⟩ := h
  have hfp : ∀ k, foot (sh p A pa p) (sh p none ad p) (sh p 0 mm p) (sh p 0 cap p) (sh p (fun _ => 0) gr p) k ↔ k = A := fun k => by
    simp only [sh_at]
    unfold foot
    constructor
    · rintro (h | h | ⟨i, hi, _⟩)
      · exact h
      · cases h
      · omega
    · exact .inl
  have hfo : ∀ i k, i ≠ p → (foot (sh p A pa i) (sh p none ad i) (sh p 0 mm i) (sh p 0 cap i) (sh p (fun _ => 0) gr i) k ↔ foot (pa (sj p i)) (ad (sj p i)) (mm (sj p i)) (cap (sj p i)) (gr (sj p i)) k) := fun i k hi => by simp only [sh_ne _ _ _ hi]
  refine ⟨sh p none ad, sh p 0 cap, sh p (fun _ => 0) gr, sh p (fun _ => 0) cp, sh p (fun _ => []) bl, fun i hi => ?_, fun i j k hi hj hij => ?_, fun k => ?_⟩
  · by_cases e : i = p
    · subst e
      simp only [sh_at]
      exact hist_new hA
    · simp only [sh_ne _ _ _ e]
      exact h1 _ (sj_lt hp hi e)
  · by_cases e : i = p
    · subst e
      rw [hfp]
      rintro rfl
      rw [hfo j _ (fun e => hij e.symm)]
      exact fun hk => hF ((h3 _).2 ⟨_, sj_lt hp hj (fun e => hij e.symm), hk⟩)
    · rw [hfo i k e]
      by_cases e' : j = p
      · subst e'
        rw [hfp]
        rintro hk rfl
        exact hF ((h3 _).2 ⟨_, sj_lt hp hi e, hk⟩)
      · rw [hfo j k e']
        exact h2 _ _ k (sj_lt hp hi e) (sj_lt hp hj e') (sj_inj e e' hij)
  · constructor
    · rintro (hk | rfl)
      · obtain ⟨j, hj, hk⟩ := (h3 k).1 hk
        obtain ⟨i, hi, e, rfl⟩ := sj_onto hp hj
        exact ⟨i, hi, (hfo i k e).2 hk⟩
      · exact ⟨p, by omega, (hfp _).2 rfl⟩
    · rintro ⟨i, hi, hk⟩
      by_cases e : i = p
      · subst e; exact .inr ((hfp k).1 hk)
      · exact .inl ((h3 k).2 ⟨_, sj_lt hp hi e, (hfo i k e).1 hk⟩)
theorem ptrs_open (pa : Nat → Nat) (na p A : Nat) (hp : p ≤ na) : ptrs (sh p A pa) (na + 1) = (ptrs pa na).take p ++ .pointer (some ⟨A, 0, none⟩) :: (ptrs pa na).drop p := by
  unfold ptrs
  have h := sh_map p A pa na hp
  have e1 : (List.range (na + 1)).map (fun i => Value.pointer (some ⟨sh p A pa i, 0, none⟩)) = ((List.range (na + 1)).map (sh p A pa)).map (fun a => Value.pointer (some ⟨a, 0, none⟩)) := by rw [List.map_map]; rfl
  have e2 : (List.range na).map (fun i => Value.pointer (some ⟨pa i, 0, none⟩)) = ((List.range na).map pa).map (fun a => Value.pointer (some ⟨a, 0, none⟩)) := by rw [List.map_map]; rfl
  rw [e1, h, e2, List.map_append, List.map_cons, List.map_take, List.map_drop]
theorem ptrs_one (pa : Nat → Nat) (na : Nat) : ∀ u ∈ ptrs pa na, u.oneCell' = true := by
  intro u hu
  obtain ⟨i, _, rfl⟩ := List.mem_map.1 hu
  rfl
end Go.Proofs.YtjnmoddcodnadaaGreatDoor
