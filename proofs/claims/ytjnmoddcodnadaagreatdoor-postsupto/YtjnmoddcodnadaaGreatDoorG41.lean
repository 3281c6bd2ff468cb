import Derived.Test.YtjnmoddcodnadaaGreatDoorG38
import Derived.Test.YtjnmoddcodnadaaGreatDoorG39
import Derived.Test.YtjnmoddcodnadaaGreatDoorG40
import Derived.Test.YtjnmoddcodnadaaGreatDoorRows
import Derived.WalkKit
import Derived.ProofKit
import Derived.OpenShut
import Derived.JoinedCond
import Derived.Carry
import Derived.Deep.Slices
import Derived.Test.YtjnmoddcodnadaaGreatDoorCards
import Derived.Test.YtjnmoddcodnadaaGreatDoorTie
import Derived.Deep.DeepHandedRow
import Derived.Lib.LaidTab
set_option linter.unusedVariables false
set_option linter.unusedSimpArgs false
namespace Go.Proofs.YtjnmoddcodnadaaGreatDoor
open Go.RowKit Go.Annal Go.Sort
/-- One step of a script, whatever it is. -/
theorem step_any (H L : Nat) (d : Ls) (kk kw A B C : Int) (name : ByteArray) (n cap : Nat) (lad : Option Addr) (xa : Nat → ByteArray) (xm : Nat → Int) (w : World) (h : LawIs H w L d) (hn0 : 0 < d.nb) (hnb : d.nb ≤ 100000000) (hnl : d.nl ≤ 100000000) (hni : d.ni ≤ 100000000) (hnt : d.nt ≤ 100000000) (hk : kk ≤ 9) (h1 : -9223372036854775808 ≤ kw) (h2 : kw ≤ 9223372036854775807) (hs : name.size ≤ 1000000000)
    (hLn : LinesV w lad n cap xa xm) (hnil : lad = none → cap = 0) (hap : ∀ a, lad = some a → 0 < n → a.block < w.heap.size ∧ ∀ j, j < d.nb → ¬ d.Fp j a.block ∧ ¬ d.Fd j a.block) :
    Calls Tryz.prog 17 #[.pointer (some ⟨L, 0, none⟩), .agg #[.int .i64 kk, .int .i64 kw, .string name, .int .i64 A, .int .i64 B, .int .i64 C, .slice lad n cap]] w fun r w' => r = .returned (.bool true) ∧ ∃ d', LawIs H w' L d' ∧ Ls.Grows d d' ∧ Turn (fun b => H ≤ b) w w' := by
  by_cases k0 : kk ≤ 0
  · exact step_none H L d kk kw A B C name _ w h hnb hn0 h1 h2 k0
  · have : kk = 1 ∨ kk = 2 ∨ kk = 3 ∨ kk = 4 ∨ kk = 5 ∨ kk = 6 ∨ kk = 7 ∨ kk = 8 ∨ kk = 9 := by omega
    rcases this with rfl | rfl | rfl | rfl | rfl | rfl | rfl | rfl | rfl
    · refine (step_new H L d kw A B C name _ w h hnb).mono ?_
      rintro r w' ⟨rfl, d', hd, hg, _, hT⟩
      exact ⟨rfl, d', hd, hg, hT⟩
    · exact step_open H L d kw A B C name _ w h hnb hn0 h1 h2 hs
    · exact step_post H L d kw A B C name n cap lad w h hnb hn0 h1 h2 hnt xa xm hLn hnil hap
    · exact step_bal H L d kw A B C name _ w h hnb hn0 h1 h2
    · exact step_trial H L d kw A B C name _ w h hnb hn0 h1 h2 hnl hni hnt
    · exact step_items H L d kw A B C name _ w h hnb hn0 h1 h2 hnl hni hnt
    · exact step_reverse H L d kw A B C name _ w h hnb hn0 h1 h2
    · exact step_locks H L d kw A B C name _ w h hnb hn0 h1 h2
    · exact step_closes H L d kw A B C name _ w h hnb hn0 h1 h2 hs
/-- A script, as it lies in memory. -/
structure ScriptAt (W : World) (sg so sn : Nat) (kd kw A B C : Nat → Int) (nm : Nat → ByteArray) (lad : Nat → Option Addr) (ln lc : Nat → Nat) (xa : Nat → Nat → ByteArray) (xm : Nat → Nat → Int) : Prop where
  c0 : ∀ i, i < sn → W.cell? ⟨sg, so + i * 7, none⟩ = some (.int .i64 (kd i))
  c1 : ∀ i, i < sn → W.cell? ⟨sg, so + i * 7 + 1, none⟩ = some (.int .i64 (kw i))
  c2 : ∀ i, i < sn → W.cell? ⟨sg, so + i * 7 + 2, none⟩ = some (.string (nm i))
  c3 : ∀ i, i < sn → W.cell? ⟨sg, so + i * 7 + 3, none⟩ = some (.int .i64 (A i))
  c4 : ∀ i, i < sn → W.cell? ⟨sg, so + i * 7 + 4, none⟩ = some (.int .i64 (B i))
  c5 : ∀ i, i < sn → W.cell? ⟨sg, so + i * 7 + 5, none⟩ = some (.int .i64 (C i))
  c6 : ∀ i, i < sn → W.cell? ⟨sg, so + i * 7 + 6, none⟩ = some (.slice (lad i) (ln i) (lc i))
  wb : ∀ i, i < sn → -9223372036854775808 ≤ kw i ∧ kw i ≤ 9223372036854775807
  sm : ∀ i, i < sn → (nm i).size ≤ 1000000000
  ls : ∀ i, i < sn → LinesV W (lad i) (ln i) (lc i) (xa i) (xm i)
  nl : ∀ i, i < sn → lad i = none → lc i = 0
  lt : ∀ i, i < sn → ∀ a, lad i = some a → 0 < ln i → a.block < W.heap.size
theorem ScriptAt.mv {W W' : World} {sg so sn : Nat} {kd kw A B C : Nat → Int} {nm : Nat → ByteArray} {lad : Nat → Option Addr} {ln lc : Nat → Nat} {xa : Nat → Nat → ByteArray} {xm : Nat → Nat → Int} (h : ScriptAt W sg so sn kd kw A B C nm lad ln lc xa xm) (hb : Below W.heap.size W W') : ScriptAt W' sg so sn kd kw A B C nm lad ln lc xa xm :=
  ⟨fun i hi => cell_later hb (h.c0 i hi), fun i hi => cell_later hb (h.c1 i hi), fun i hi => cell_later hb (h.c2 i hi), fun i hi => cell_later hb (h.c3 i hi), fun i hi => cell_later hb (h.c4 i hi), fun i hi => cell_later hb (h.c5 i hi), fun i hi => cell_later hb (h.c6 i hi), h.wb, h.sm, fun i hi => (h.ls i hi).mv hb, h.nl, fun i hi a e hn => Nat.lt_of_lt_of_le (h.lt i hi a e hn) hb.size⟩
theorem below_of_turn {w w' : World} (h : Turn (fun b => w.heap.size ≤ b) w w') : Below w.heap.size w w' := ⟨h.os, h.tape, h.output, h.size, fun k hk => h.block k hk (by omega)⟩
def Ls.none : Ls := ⟨0, fun _ => 0, fun _ => 0, fun _ => St.new, fun _ _ => False, fun _ _ => False, 0, fun _ => .slice Option.none 0 0, fun _ => 0, 0, fun _ => .slice Option.none 0 0, fun _ => 0, 0, fun _ => .slice Option.none 0 0, .slice Option.none 0 0, .slice Option.none 0 0, .slice Option.none 0 0, .slice Option.none 0 0, .slice Option.none 0 0, .slice Option.none 0 0⟩
theorem lawNone {H : Nat} {w : World} {L : Nat} (hH : H ≤ L) (h : w.heap[L]? = some (.cells #[.slice none 0 0, .slice none 0 0, .slice none 0 0, .slice none 0 0, .slice none 0 0, .slice none 0 0] 52 (0, 0))) : LawIs H w L Ls.none :=
  ⟨hH, h, ⟨rfl, .inl ⟨rfl, rfl⟩⟩, ⟨rfl, .inl ⟨rfl, rfl⟩⟩, ⟨rfl, .inl ⟨rfl, rfl⟩⟩, ⟨rfl, .inl ⟨rfl, rfl⟩⟩, ⟨rfl, .inl ⟨rfl, rfl⟩⟩, ⟨rfl, .inl ⟨rfl, rfl⟩⟩, fun k e => (by cases e), fun k e => (by cases e), fun i hi => absurd hi (Nat.not_lt_zero _), fun i hi => absurd hi (Nat.not_lt_zero _), fun i hi => absurd hi (Nat.not_lt_zero _), fun i j k hi => absurd hi (Nat.not_lt_zero _), fun i j k hi => absurd hi (Nat.not_lt_zero _), fun i j k hi => absurd hi (Nat.not_lt_zero _), fun i k hi => absurd hi (Nat.not_lt_zero _), fun i k hi => absurd hi (Nat.not_lt_zero _), fun i hi => absurd hi (Nat.not_lt_zero _), fun i hi => absurd hi (Nat.not_lt_zero _), fun i hi => absurd hi (Nat.not_lt_zero _)⟩
/-- What a law's world may have grown to behind k steps. -/
structure Few (d : Ls) (k : Nat) : Prop where
  b0 : 0 < d.nb
  nb : d.nb ≤ k
  nl : d.nl ≤ 4 * k
  ni : d.ni ≤ 4 * k
  nt : d.nt ≤ k
theorem Few.grow {d d' : Ls} {k : Nat} (h : Few d k) (hg : Ls.Grows d d') : Few d' (k + 1) := by
  have := h.b0; have := h.nb; have := h.nl; have := h.ni; have := h.nt; have := hg.nb; have := hg.nl; have := hg.ni; have := hg.nt
  exact ⟨by omega, by omega, by omega, by omega, by omega⟩
theorem LinesV.nil (w : World) (xa : Nat → ByteArray) (xm : Nat → Int) : LinesV w none 0 0 xa xm := ⟨Nat.le_refl _, by omega, fun k hk => by omega, fun h => by omega⟩
set_option maxHeartbeats 4000000 in
set_option maxRecDepth 100000 in
theorem played_any (last : Int) (hla : last ≤ 9) (sg so sn sc : Nat) (sad : Option Addr) (kd kw A B C : Nat → Int) (nm : Nat → ByteArray) (lad : Nat → Option Addr) (ln lc : Nat → Nat) (xa : Nat → Nat → ByteArray) (xm : Nat → Nat → Int) (w : World) (hS : ScriptAt w sg so sn kd kw A B C nm lad ln lc xa xm) (hsa : 0 < sn → sad = some ⟨sg, so, none⟩) (hsn : sn ≤ 2000000) :
    Calls Tryz.prog 8 #[.slice sad sn sc, .int .i64 last] w fun r w' => r = .returned (.bool true) ∧ Below w.heap.size w w' := by
  have HS : Hid (type_of% hS) := hS
  clear hS
  go_enter Tryz.func8, Tryz.ntmps8
  have hL0 : LawIs w.heap.size (w.alloc (.cells #[.slice none 0 0, .slice none 0 0, .slice none 0 0, .slice none 0 0, .slice none 0 0, .slice none 0 0] 52)) w.heap.size Ls.none := lawNone (Nat.le_refl _) (heap_alloc_new w _)
  have hT0 : Turn (fun b => w.heap.size ≤ b) w (w.alloc (.cells #[.slice none 0 0, .slice none 0 0, .slice none 0 0, .slice none 0 0, .slice none 0 0, .slice none 0 0] 52)) := (Turn.refl _ w).alloc _
  obtain ⟨W0, hW0⟩ : ∃ W0, W0 = w.alloc (.cells #[.slice none 0 0, .slice none 0 0, .slice none 0 0, .slice none 0 0, .slice none 0 0, .slice none 0 0] 52) := ⟨_, rfl⟩
  rw [← hW0] at hL0 hT0
  have HW0 : Hid (type_of% hW0) := hW0
  have HL0 : Hid (type_of% hL0) := hL0
  have HT0 : Hid (type_of% hT0) := hT0
  clear hW0 hL0 hT0
  go_wp2_with fail
  rw [← HW0.out]
  refine Calls.mono (step_new w.heap.size w.heap.size Ls.none 0 0 0 0 ⟨#[]⟩ _ W0 HL0.out (Nat.zero_le _)) ?_
  rintro e w1 ⟨rfl, d1, hd1, hg1, hn1, hT1⟩
  go_wp2_with fail
  have F1 : Few d1 1 := ⟨by rw [hn1]; exact Nat.succ_pos _, by rw [hn1]; exact Nat.le_refl _, hg1.nl, hg1.ni, hg1.nt⟩
  refine Calls.mono (step_open w.heap.size w.heap.size d1 0 0 0 0 ⟨#[99, 97, 115, 104]⟩ _ w1 hd1 (by have := F1.nb; omega) F1.b0 (by decide) (by decide) (by decide)) ?_
  rintro e w2 ⟨rfl, d2, hd2, hg2, hT2⟩
  have F2 := F1.grow hg2
  go_wp2_with fail
  refine Calls.mono (step_open w.heap.size w.heap.size d2 0 1 0 0 ⟨#[114, 101, 110, 116]⟩ _ w2 hd2 (by have := F2.nb; omega) F2.b0 (by decide) (by decide) (by decide)) ?_
  rintro e w3 ⟨rfl, d3, hd3, hg3, hT3⟩
  have F3 := F2.grow hg3
  go_wp2_with fail
  have hbl : (w3.alloc (.cells #[.string ⟨#[99, 97, 115, 104]⟩, .int .i64 (-30), .string ⟨#[114, 101, 110, 116]⟩, .int .i64 30] 58)).heap[w3.heap.size]? = some (.cells #[.string ⟨#[99, 97, 115, 104]⟩, .int .i64 (-30), .string ⟨#[114, 101, 110, 116]⟩, .int .i64 30] 58 (0, 0)) := heap_alloc_new w3 _
  have hLA : LinesAt (w3.alloc (.cells #[.string ⟨#[99, 97, 115, 104]⟩, .int .i64 (-30), .string ⟨#[114, 101, 110, 116]⟩, .int .i64 30] 58)) w3.heap.size 0 2 (fun k => if k = 0 then ⟨#[99, 97, 115, 104]⟩ else ⟨#[114, 101, 110, 116]⟩) (fun k => if k = 0 then -30 else 30) := by
    refine ⟨fun k hk => ?_, fun k hk => ?_⟩
    · have : k = 0 ∨ k = 1 := by omega
      rcases this with rfl | rfl
      · exact blk_cell' hbl (o := 0) rfl
      · exact blk_cell' hbl (o := 2) rfl
    · have : k = 0 ∨ k = 1 := by omega
      rcases this with rfl | rfl
      · exact blk_cell' hbl (o := 1) rfl
      · exact blk_cell' hbl (o := 3) rfl
  have hb34 : Below w3.heap.size w3 (w3.alloc (.cells #[.string ⟨#[99, 97, 115, 104]⟩, .int .i64 (-30), .string ⟨#[114, 101, 110, 116]⟩, .int .i64 30] 58)) := ((Grew.refl w3).alloc _).below
  refine Calls.mono (step_post w.heap.size w.heap.size d3 0 5 0 0 ⟨#[]⟩ 2 2 (some ⟨w3.heap.size, 0, none⟩) _ (hd3.mv hb34) (by have := F3.nb; omega) F3.b0 (by decide) (by decide) (by have := F3.nt; omega) (fun k => if k = 0 then ⟨#[99, 97, 115, 104]⟩ else ⟨#[114, 101, 110, 116]⟩) (fun k => if k = 0 then -30 else 30) ⟨Nat.le_refl _, by decide, fun k hk => by split <;> decide, fun _ => ⟨_, _, rfl, hLA⟩⟩ (fun e => by cases e) (fun a e _ => by injection e with e; subst e; exact ⟨by simp, fun j hj => ⟨fun h => by have := hd3.plt hj h; simp at this, fun h => by have := hd3.dlt hj h; simp at this⟩⟩)) ?_
  rintro e w4 ⟨rfl, d4, hd4, hg4, hT4⟩
  have F4 := F3.grow hg4
  have hTw : Turn (fun b => w.heap.size ≤ b) w w4 := (((HT0.out.trans hT1).trans hT2).trans hT3).trans ((Turn.of_below hb34).trans hT4)
  have HD4 : Hid (type_of% hd4) := hd4
  have HF4 : Hid (Few d4 (0 + 4)) := F4
  have HT4 : Hid (type_of% hTw) := hTw
  clear hTw F4 hd4 hT4 hg4 hb34 hLA hbl F3 hd3 hg3 hT3 F2 hd2 hg2 hT2 F1 hd1 hg1 hT1 hn1 HL0 HT0 HW0
  go_wp2
  go_loopw [6, 7] (fun okv iv wr => ∃ (k : Nat) (d : Ls), k ≤ sn ∧ iv = .int .i64 k ∧ okv = .bool true ∧ Hid (LawIs w.heap.size wr w.heap.size d) ∧ Hid (Few d (k + 4)) ∧ Hid (Turn (fun b => w.heap.size ≤ b) w wr)) (fun _ iv _ => sn - (intOf iv).toNat)
  case atStart => exact ⟨0, d4, Nat.zero_le _, rfl, rfl, HD4, HF4, HT4⟩
  case round =>
    obtain ⟨k, d, hk, rfl, rfl, hd, hf, hT⟩ := hrel
    clear HD4 HF4 HT4
    by_cases hlt : k < sn
    · have hlt' : (k : Int) < (sn : Int) := by omega
      have hk0 : (0 : Int) ≤ (k : Int) := by omega
      obtain rfl := hsa (by omega)
      have hsb := below_of_turn hT.out
      have hS := HS.out.mv hsb
      have c0 := hS.c0 k hlt
      have c1 := hS.c1 k hlt
      have c2 := hS.c2 k hlt
      have c3 := hS.c3 k hlt
      have c4 := hS.c4 k hlt
      have c5 := hS.c5 k hlt
      have c6 := hS.c6 k hlt
      by_cases hk6 : kd k ≤ last
      · have C1 : Hid (Calls Tryz.prog 17 #[.pointer (some ⟨w.heap.size, 0, none⟩), .agg #[.int .i64 (kd k), .int .i64 (kw k), .string (nm k), .int .i64 (A k), .int .i64 (B k), .int .i64 (C k), .slice (lad k) (ln k) (lc k)]] wr fun r w' => r = .returned (.bool true) ∧ ∃ d', LawIs w.heap.size w' w.heap.size d' ∧ Ls.Grows d d' ∧ Turn (fun b => w.heap.size ≤ b) wr w') := by
          have h1 := hf.out.nb; have h2 := hf.out.nl; have h3 := hf.out.ni; have h4 := hf.out.nt
          exact step_any w.heap.size w.heap.size d (kd k) (kw k) (A k) (B k) (C k) (nm k) (ln k) (lc k) (lad k) (xa k) (xm k) wr hd.out hf.out.b0 (by omega) (by omega) (by omega) (by omega) (Int.le_trans hk6 hla) (hS.wb k hlt).1 (hS.wb k hlt).2 (hS.sm k hlt) (hS.ls k hlt) (hS.nl k hlt) (fun a e hn => ⟨hS.lt k hlt a e hn, fun j hj => ⟨fun h => by have := hd.out.pH j _ hj h; have := HS.out.lt k hlt a e hn; omega, fun h => by have := hd.out.dH j _ hj h; have := HS.out.lt k hlt a e hn; omega⟩⟩)
        clear hS hsb
        go_wp2_with (first
          | (go_at_call 17; refine Calls.mono C1.out ?_; rintro e w5 ⟨rfl, d5, hd5, hg5, hT5⟩; have F5 := hf.out.grow hg5)
          | (go_at_call 18; refine Calls.mono (looks_any w.heap.size _ w.heap.size d5 hd5 (by have := F5.nl; omega) (by have := F5.ni; omega) (by have := F5.nt; omega)) ?_; rintro e w6 ⟨rfl, hb6⟩))
        exact ⟨⟨k + 1, d5, by omega, by go_num, rfl, hd5.mv hb6, by have := F5; rw [show k + 4 + 1 = k + 1 + 4 by omega] at this; exact this, show Hid _ from (hT.out.trans hT5).trans (Turn.of_below hb6)⟩, by simp [intOf]; omega⟩
      · clear hS hsb
        go_wp2_with (go_at_call 18; refine Calls.mono (looks_any w.heap.size _ w.heap.size d hd.out (by have := hf.out.nl; omega) (by have := hf.out.ni; omega) (by have := hf.out.nt; omega)) ?_; rintro e w6 ⟨rfl, hb6⟩)
        exact ⟨⟨k + 1, d, by omega, by go_num, rfl, hd.out.mv hb6, by have h := hf.out; exact ⟨h.b0, by have := h.nb; omega, by have := h.nl; omega, by have := h.ni; omega, by have := h.nt; omega⟩, show Hid _ from hT.out.trans (Turn.of_below hb6)⟩, by simp [intOf]; omega⟩
    · have hlt' : ¬ (k : Int) < (sn : Int) := by omega
      have hlt'' : decide ((k : Int) < (sn : Int)) = false := by simpa using hlt'
      go_wp2
      go_ret
      exact ⟨rfl, below_of_turn hT.out⟩
set_option maxHeartbeats 1000000 in
theorem posts_walk (sg so sn sc : Nat) (sad : Option Addr) (kd kw A B C : Nat → Int) (nm : Nat → ByteArray) (lad : Nat → Option Addr) (ln lc : Nat → Nat) (xa : Nat → Nat → ByteArray) (xm : Nat → Nat → Int) (w : World) (hS : ScriptAt w sg so sn kd kw A B C nm lad ln lc xa xm) (hsa : 0 < sn → sad = some ⟨sg, so, none⟩) (hsn : sn ≤ 2000000) :
    Calls Tryz.prog 3 #[.slice sad sn sc] w fun r w' => r = .returned (.bool true) ∧ Below w.heap.size w w' := by
  have C0 : Hid (type_of% (played_any 6 (by decide) sg so sn sc sad kd kw A B C nm lad ln lc xa xm w hS hsa hsn)) := played_any 6 (by decide) sg so sn sc sad kd kw A B C nm lad ln lc xa xm w hS hsa hsn
  clear hS
  go_enter Tryz.func3, Tryz.ntmps3
  go_wp2_with (go_at_call 8; refine Calls.mono C0.out ?_; rintro e w1 ⟨rfl, hb⟩)
  go_ret
  exact ⟨rfl, hb⟩
set_option maxHeartbeats 1000000 in
theorem changes_walk (sg so sn sc : Nat) (sad : Option Addr) (kd kw A B C : Nat → Int) (nm : Nat → ByteArray) (lad : Nat → Option Addr) (ln lc : Nat → Nat) (xa : Nat → Nat → ByteArray) (xm : Nat → Nat → Int) (w : World) (hS : ScriptAt w sg so sn kd kw A B C nm lad ln lc xa xm) (hsa : 0 < sn → sad = some ⟨sg, so, none⟩) (hsn : sn ≤ 2000000) :
    Calls Tryz.prog 4 #[.slice sad sn sc] w fun r w' => r = .returned (.bool true) ∧ Below w.heap.size w w' := by
  have C0 : Hid (type_of% (played_any 9 (by decide) sg so sn sc sad kd kw A B C nm lad ln lc xa xm w hS hsa hsn)) := played_any 9 (by decide) sg so sn sc sad kd kw A B C nm lad ln lc xa xm w hS hsa hsn
  clear hS
  go_enter Tryz.func4, Tryz.ntmps4
  go_wp2_with (go_at_call 8; refine Calls.mono C0.out ?_; rintro e w1 ⟨rfl, hb⟩)
  go_ret
  exact ⟨rfl, hb⟩
end Go.Proofs.YtjnmoddcodnadaaGreatDoor
namespace Go.Proofs.YtjnmoddcodnadaaGreatDoor
open Go.ChangeShapes Go.WideShapes Go.ChangeAt Go.RowKit Go.Annal Go.Deep
theorem bulk_pos {H : Type} (d : DataW H) : 1 ≤ Rows.uptoBulk d := by
  cases d with
  | lit l => cases l <;> simp [Rows.uptoBulk]
  | nil => simp [Rows.uptoBulk]
  | ptr d => simp [Rows.uptoBulk]
  | slice a b => simp [Rows.uptoBulk]
  | agg a => simp [Rows.uptoBulk]
  | iface t d => simp [Rows.uptoBulk]
  | map m => simp [Rows.uptoBulk]
  | held h => simp [Rows.uptoBulk]
theorem bulk_mem {H : Type} {d : DataW H} : ∀ {l : List (DataW H)}, d ∈ l → Rows.uptoBulk d ≤ Rows.uptoBulkAll l
  | x :: r, h => by
    simp only [Rows.uptoBulkAll]
    rcases List.mem_cons.1 h with rfl | h
    · omega
    · have := bulk_mem h; omega
theorem bulk_len {H : Type} : ∀ l : List (DataW H), l.length ≤ Rows.uptoBulkAll l
  | [] => by simp [Rows.uptoBulkAll]
  | x :: r => by
    have := bulk_len r
    have := bulk_pos x
    simp only [Rows.uptoBulkAll, List.length_cons]
    omega
theorem bulk_slice {H : Type} (len m : Nat) (D : Nat → DataW H) {sp : List (DataW H)} (h : Rows.uptoBulk (.slice ((List.range len).map D) sp) ≤ m) : len ≤ m ∧ ∀ i, i < len → Rows.uptoBulk (D i) ≤ m := by
  simp only [Rows.uptoBulk] at h
  have h1 := bulk_len ((List.range len).map D)
  rw [List.length_map, List.length_range] at h1
  refine ⟨by omega, fun i hi => ?_⟩
  have := bulk_mem (d := D i) (l := (List.range len).map D) (List.mem_map.2 ⟨i, by simpa using hi, rfl⟩)
  omega
theorem two_of {α : Type} : ∀ l : List α, l.length = 2 → ∃ a b, l = [a, b]
  | [a, b], _ => ⟨a, b, rfl⟩
theorem seven_of {α : Type} : ∀ l : List α, l.length = 7 → ∃ a b c d e f g, l = [a, b, c, d, e, f, g]
  | [a, b, c, d, e, f, g], _ => ⟨a, b, c, d, e, f, g, rfl⟩
theorem Tryz.c3 : Tryz.prog.cellsOf 3 = 1 := by kernel_rfl
theorem Tryz.c9 : Tryz.prog.cellsOf 9 = 1 := by kernel_rfl
theorem Tryz.c34 : Tryz.prog.cellsOf 54 = 1 := by kernel_rfl
theorem Tryz.c38 : Tryz.prog.cellsOf 58 = 2 := by kernel_rfl
theorem Tryz.c36 : Tryz.prog.cellsOf 56 = 7 := by kernel_rfl
section
variable {H : Type} {enc : TypeId × Value → H} {W : World}
/-- A list of lines that came in. -/
theorem open_lines {n : Nat} {v : Value} {x : DataW H × List MemPlace} (h : DataW.trod enc Tryz.prog W 0 (fun _ => true) true n 54 [v] = some x) (hb : Rows.uptoBulk x.1 ≤ 1048576) :
    ∃ q : Option Addr × Nat × Nat × (Nat → ByteArray) × (Nat → Int), v = .slice q.1 q.2.1 q.2.2.1 ∧ LinesV W q.1 q.2.1 q.2.2.1 q.2.2.2.1 q.2.2.2.2 ∧ (q.1 = none → q.2.2.1 = 0) ∧ ∀ a, q.1 = some a → 0 < q.2.1 → a.block < W.heap.size := by
  rcases open_slice Tryz.underlying54 h with ⟨hcs, hx⟩ | ⟨a, len, cap, m, n', D, Pl, hcs, _, hl, hm, hmm, hx, hel⟩
  · simp at hcs
    exact ⟨(none, 0, 0, fun _ => ⟨#[]⟩, fun _ => 0), hcs, LinesV.nil _ _ _, fun _ => rfl, fun a e => by cases e⟩
  · simp at hcs
    simp only [if_true] at hmm
    subst hmm
    rw [hx] at hb
    obtain ⟨hb1, hb2⟩ := bulk_slice len _ D hb
    have raw : ∀ i, i < len → ∃ p : ByteArray × Int, W.cell? ((a.add (i * 2)).add 0) = some (.string p.1) ∧ W.cell? ((a.add (i * 2)).add 1) = some (.int .i64 p.2) ∧ p.1.size ≤ 1048576 := fun i hi => by
      obtain ⟨cs', hc, ht⟩ := hel i (by omega)
      rw [Tryz.c38] at hc
      obtain ⟨y0, y1, k, hD, hlen, h0, h1⟩ := trod_struct2 Tryz.underlying58 ht
      obtain ⟨_, hl2, hcell⟩ := World.cells?_some hc
      obtain ⟨c0, c1, rfl⟩ := two_of cs' hl2
      obtain ⟨s, hs1, hs2, _⟩ := DataW.trod_string Tryz.underlying9 h0
      obtain ⟨z, hz1, hz2, _⟩ := DataW.trod_int Tryz.underlying3 h1
      simp only [Tryz.c9, Tryz.c3, List.drop_zero, List.take_succ_cons, List.take_zero, List.drop_succ_cons] at hs1 hz1
      have e0 : c0 = .string s := by simpa using hs1
      have e1 : c1 = .int .i64 z := by simpa using hz1
      subst e0 e1
      refine ⟨(s, z), hcell 0 (by omega), hcell 1 (by omega), ?_⟩
      have hbi := hb2 i hi
      have hDi : D i = .agg [y0.1, y1.1] := congrArg Prod.fst hD
      rw [hDi, hs2] at hbi
      simp only [Rows.uptoBulk, Rows.uptoBulkAll, Array.length_toList] at hbi
      show s.data.size ≤ _
      omega
    by_cases h0 : len = 0
    · subst h0
      refine ⟨(some a, 0, m, fun _ => ⟨#[]⟩, fun _ => 0), hcs, ⟨Nat.zero_le _, Nat.zero_le _, fun k hk => absurd hk (Nat.not_lt_zero _), fun h => absurd h (Nat.not_lt_zero _)⟩, (fun e => by cases e), fun a e h => absurd h (Nat.not_lt_zero _)⟩
    · obtain ⟨b, off, spot⟩ := a
      obtain ⟨p0, hp0, _, _⟩ := raw 0 (by omega)
      obtain rfl : spot = none := by simpa [Addr.add] using World.cell?_spot hp0
      obtain ⟨f, hf⟩ := choose_lt (α := ByteArray × Int) raw
      have hblk : b < W.heap.size := by
        have := World.block_lt_of_cell? _ _ hp0
        simpa [Addr.add] using this
      refine ⟨(some ⟨b, off, none⟩, len, m, fun i => (f i).1, fun i => (f i).2), hcs, ⟨hl, by show len ≤ _; omega, fun k hk => by have := (hf k hk).2.2; show (f k).1.size ≤ _; omega, fun _ => ⟨b, off, rfl, fun k hk => ?_, fun k hk => ?_⟩⟩, (fun e => by cases e), fun a e _ => by injection e with e; subst e; exact hblk⟩
      · have := (hf k hk).1
        rw [addr_add, addr_add] at this
        exact this
      · have := (hf k hk).2.1
        rw [addr_add, addr_add] at this
        exact this
/-- A step that came in: its seven cells. -/
structure OpIs (W : World) (a : Addr) (p : Int × Int × ByteArray × Int × Int × Int × Option Addr × Nat × Nat × (Nat → ByteArray) × (Nat → Int)) : Prop where
  c0 : W.cell? (a.add 0) = some (.int .i64 p.1)
  c1 : W.cell? (a.add 1) = some (.int .i64 p.2.1)
  c2 : W.cell? (a.add 2) = some (.string p.2.2.1)
  c3 : W.cell? (a.add 3) = some (.int .i64 p.2.2.2.1)
  c4 : W.cell? (a.add 4) = some (.int .i64 p.2.2.2.2.1)
  c5 : W.cell? (a.add 5) = some (.int .i64 p.2.2.2.2.2.1)
  c6 : W.cell? (a.add 6) = some (.slice p.2.2.2.2.2.2.1 p.2.2.2.2.2.2.2.1 p.2.2.2.2.2.2.2.2.1)
  wb : -9223372036854775808 ≤ p.2.1 ∧ p.2.1 ≤ 9223372036854775807
  sm : p.2.2.1.size ≤ 1000000000
  ls : LinesV W p.2.2.2.2.2.2.1 p.2.2.2.2.2.2.2.1 p.2.2.2.2.2.2.2.2.1 p.2.2.2.2.2.2.2.2.2.1 p.2.2.2.2.2.2.2.2.2.2
  nl : p.2.2.2.2.2.2.1 = none → p.2.2.2.2.2.2.2.2.1 = 0
  lt : ∀ x, p.2.2.2.2.2.2.1 = some x → 0 < p.2.2.2.2.2.2.2.1 → x.block < W.heap.size
theorem open_op {n : Nat} {a : Addr} {cs : List Value} {D : DataW H} {Pl : List MemPlace} (hc : W.cells? 0 a 7 = some cs) (h : DataW.trod enc Tryz.prog W 0 (fun _ => true) true n 56 cs = some (D, Pl)) (hb : Rows.uptoBulk D ≤ 1048576) : ∃ p, OpIs W a p := by
  obtain ⟨_, hl7, hcell⟩ := World.cells?_some hc
  obtain ⟨v0, v1, v2, v3, v4, v5, v6, rfl⟩ := seven_of cs hl7
  obtain ⟨xs, k, _, hx, _, hlen, hf⟩ := DataW.trod_struct Tryz.underlying56 h
  obtain ⟨y0, y1, y2, y3, y4, y5, y6, rfl⟩ := seven_of xs hlen
  have hD : D = .agg [y0.1, y1.1, y2.1, y3.1, y4.1, y5.1, y6.1] := congrArg Prod.fst hx
  have f0 : DataW.trod enc Tryz.prog W 0 (fun _ => true) true k 3 (List.take (Tryz.prog.cellsOf 3) (List.drop 0 [v0, v1, v2, v3, v4, v5, v6])) = some y0 := hf 0 _ rfl
  rw [Tryz.c3] at f0
  have g0 : DataW.trod enc Tryz.prog W 0 (fun _ => true) true k 3 [v0] = some y0 := f0
  have f1 : DataW.trod enc Tryz.prog W 0 (fun _ => true) true k 3 (List.take (Tryz.prog.cellsOf 3) (List.drop 1 [v0, v1, v2, v3, v4, v5, v6])) = some y1 := hf 1 _ rfl
  rw [Tryz.c3] at f1
  have g1 : DataW.trod enc Tryz.prog W 0 (fun _ => true) true k 3 [v1] = some y1 := f1
  have f2 : DataW.trod enc Tryz.prog W 0 (fun _ => true) true k 9 (List.take (Tryz.prog.cellsOf 9) (List.drop 2 [v0, v1, v2, v3, v4, v5, v6])) = some y2 := hf 2 _ rfl
  rw [Tryz.c9] at f2
  have g2 : DataW.trod enc Tryz.prog W 0 (fun _ => true) true k 9 [v2] = some y2 := f2
  have f3 : DataW.trod enc Tryz.prog W 0 (fun _ => true) true k 3 (List.take (Tryz.prog.cellsOf 3) (List.drop 3 [v0, v1, v2, v3, v4, v5, v6])) = some y3 := hf 3 _ rfl
  rw [Tryz.c3] at f3
  have g3 : DataW.trod enc Tryz.prog W 0 (fun _ => true) true k 3 [v3] = some y3 := f3
  have f4 : DataW.trod enc Tryz.prog W 0 (fun _ => true) true k 3 (List.take (Tryz.prog.cellsOf 3) (List.drop 4 [v0, v1, v2, v3, v4, v5, v6])) = some y4 := hf 4 _ rfl
  rw [Tryz.c3] at f4
  have g4 : DataW.trod enc Tryz.prog W 0 (fun _ => true) true k 3 [v4] = some y4 := f4
  have f5 : DataW.trod enc Tryz.prog W 0 (fun _ => true) true k 3 (List.take (Tryz.prog.cellsOf 3) (List.drop 5 [v0, v1, v2, v3, v4, v5, v6])) = some y5 := hf 5 _ rfl
  rw [Tryz.c3] at f5
  have g5 : DataW.trod enc Tryz.prog W 0 (fun _ => true) true k 3 [v5] = some y5 := f5
  have f6 : DataW.trod enc Tryz.prog W 0 (fun _ => true) true k 54 (List.take (Tryz.prog.cellsOf 54) (List.drop 6 [v0, v1, v2, v3, v4, v5, v6])) = some y6 := hf 6 _ rfl
  rw [Tryz.c34] at f6
  have g6 : DataW.trod enc Tryz.prog W 0 (fun _ => true) true k 54 [v6] = some y6 := f6
  obtain ⟨z0, e0, _, w0⟩ := DataW.trod_int Tryz.underlying3 g0
  have e0' : v0 = .int .i64 z0 := by simpa using e0
  obtain ⟨z1, e1, _, w1⟩ := DataW.trod_int Tryz.underlying3 g1
  have e1' : v1 = .int .i64 z1 := by simpa using e1
  obtain ⟨z3, e3, _, w3⟩ := DataW.trod_int Tryz.underlying3 g3
  have e3' : v3 = .int .i64 z3 := by simpa using e3
  obtain ⟨z4, e4, _, w4⟩ := DataW.trod_int Tryz.underlying3 g4
  have e4' : v4 = .int .i64 z4 := by simpa using e4
  obtain ⟨z5, e5, _, w5⟩ := DataW.trod_int Tryz.underlying3 g5
  have e5' : v5 = .int .i64 z5 := by simpa using e5
  obtain ⟨s2, e2, hs2, _⟩ := DataW.trod_string Tryz.underlying9 g2
  have e2' : v2 = .string s2 := by simpa using e2
  have hbD := hb
  rw [hD] at hbD
  simp only [Rows.uptoBulk, Rows.uptoBulkAll] at hbD
  have hb2 : Rows.uptoBulk y2.1 ≤ 1048576 := by omega
  have hb6 : Rows.uptoBulk y6.1 ≤ 1048576 := by omega
  rw [hs2] at hb2
  simp only [Rows.uptoBulk, Array.length_toList] at hb2
  obtain ⟨q, hq, hL, hn, hlt⟩ := open_lines g6 hb6
  have hw := bounds_i64 w1
  subst e0' e1' e2' e3' e4' e5' hq
  exact ⟨(z0, z1, s2, z3, z4, z5, q), hcell 0 (by omega), hcell 1 (by omega), hcell 2 (by omega), hcell 3 (by omega), hcell 4 (by omega), hcell 5 (by omega), hcell 6 (by omega), hw, by show s2.data.size ≤ _; omega, hL, hn, hlt⟩
/-- A script that came in. -/
theorem open_script {P : Value → Prop} {v0 : Value} {d0 : DataW H} {p : List MemPlace} (h0 : DataW.Trod enc Tryz.prog W 0 (fun _ => true) true 22 v0 d0 p) (hsl : ∃ a len cap, v0 = .slice a len cap) (hb : Rows.uptoBulk d0 ≤ 1048576)
    (hP : ∀ (sg so sn sc : Nat) (sad : Option Addr) (kd kw A B C : Nat → Int) (nm : Nat → ByteArray) (lad : Nat → Option Addr) (ln lc : Nat → Nat) (xa : Nat → Nat → ByteArray) (xm : Nat → Nat → Int), ScriptAt W sg so sn kd kw A B C nm lad ln lc xa xm → (0 < sn → sad = some ⟨sg, so, none⟩) → sn ≤ 2000000 → P (.slice sad sn sc)) : P v0 := by
  obtain ⟨fuel, hf⟩ := h0
  obtain ⟨a0, len0, cap0, rfl⟩ := hsl
  rcases open_slice Tryz.underlying22 hf with ⟨hcs, _⟩ | ⟨a, len, cap, m, n, D, Pl, hcs, _, hl, hm, hmm, hx, hel⟩
  · simp [Value.cells] at hcs
    obtain ⟨rfl, rfl, rfl⟩ := hcs
    exact hP 0 0 0 0 none (fun _ => 0) (fun _ => 0) (fun _ => 0) (fun _ => 0) (fun _ => 0) (fun _ => ⟨#[]⟩) (fun _ => none) (fun _ => 0) (fun _ => 0) (fun _ _ => ⟨#[]⟩) (fun _ _ => 0) ⟨fun i h => absurd h (Nat.not_lt_zero _), fun i h => absurd h (Nat.not_lt_zero _), fun i h => absurd h (Nat.not_lt_zero _), fun i h => absurd h (Nat.not_lt_zero _), fun i h => absurd h (Nat.not_lt_zero _), fun i h => absurd h (Nat.not_lt_zero _), fun i h => absurd h (Nat.not_lt_zero _), fun i h => absurd h (Nat.not_lt_zero _), fun i h => absurd h (Nat.not_lt_zero _), fun i h => absurd h (Nat.not_lt_zero _), fun i h => absurd h (Nat.not_lt_zero _), fun i h => absurd h (Nat.not_lt_zero _)⟩ (fun h => absurd h (Nat.not_lt_zero _)) (Nat.zero_le _)
  · simp [Value.cells] at hcs
    obtain ⟨rfl, rfl, rfl⟩ := hcs
    simp only [if_true] at hmm
    subst hmm
    have hd : d0 = .slice ((List.range len0).map D) ((List.range (m - len0)).map fun j => D (len0 + j)) := congrArg Prod.fst hx
    rw [hd] at hb
    obtain ⟨hb1, hb2⟩ := bulk_slice len0 _ D hb
    have raw : ∀ i, i < len0 → ∃ p, OpIs W (a.add (i * 7)) p := fun i hi => by
      obtain ⟨cs', hc, ht⟩ := hel i (by omega)
      rw [Tryz.c36] at hc
      exact open_op hc ht (hb2 i hi)
    by_cases hz : len0 = 0
    · subst hz
      exact hP 0 0 0 _ _ (fun _ => 0) (fun _ => 0) (fun _ => 0) (fun _ => 0) (fun _ => 0) (fun _ => ⟨#[]⟩) (fun _ => none) (fun _ => 0) (fun _ => 0) (fun _ _ => ⟨#[]⟩) (fun _ _ => 0) ⟨fun i h => absurd h (Nat.not_lt_zero _), fun i h => absurd h (Nat.not_lt_zero _), fun i h => absurd h (Nat.not_lt_zero _), fun i h => absurd h (Nat.not_lt_zero _), fun i h => absurd h (Nat.not_lt_zero _), fun i h => absurd h (Nat.not_lt_zero _), fun i h => absurd h (Nat.not_lt_zero _), fun i h => absurd h (Nat.not_lt_zero _), fun i h => absurd h (Nat.not_lt_zero _), fun i h => absurd h (Nat.not_lt_zero _), fun i h => absurd h (Nat.not_lt_zero _), fun i h => absurd h (Nat.not_lt_zero _)⟩ (fun h => absurd h (Nat.not_lt_zero _)) (Nat.zero_le _)
    · obtain ⟨b, off, spot⟩ := a
      obtain ⟨p0, hp0⟩ := raw 0 (by omega)
      obtain rfl : spot = none := by simpa [Addr.add] using World.cell?_spot hp0.c0
      obtain ⟨f, hf'⟩ := choose_lt (α := Int × Int × ByteArray × Int × Int × Int × Option Addr × Nat × Nat × (Nat → ByteArray) × (Nat → Int)) raw
      have cc : ∀ i o, (Addr.add (Addr.add ⟨b, off, none⟩ (i * 7)) o) = ⟨b, off + i * 7 + o, none⟩ := fun i o => by rw [addr_add, addr_add]
      refine hP b off len0 m (some ⟨b, off, none⟩) (fun i => (f i).1) (fun i => (f i).2.1) (fun i => (f i).2.2.2.1) (fun i => (f i).2.2.2.2.1) (fun i => (f i).2.2.2.2.2.1) (fun i => (f i).2.2.1) (fun i => (f i).2.2.2.2.2.2.1) (fun i => (f i).2.2.2.2.2.2.2.1) (fun i => (f i).2.2.2.2.2.2.2.2.1) (fun i => (f i).2.2.2.2.2.2.2.2.2.1) (fun i => (f i).2.2.2.2.2.2.2.2.2.2) ⟨fun i hi => ?_, fun i hi => ?_, fun i hi => ?_, fun i hi => ?_, fun i hi => ?_, fun i hi => ?_, fun i hi => ?_, fun i hi => (hf' i hi).wb, fun i hi => (hf' i hi).sm, fun i hi => (hf' i hi).ls, fun i hi => (hf' i hi).nl, fun i hi => (hf' i hi).lt⟩ (fun _ => rfl) (by omega)
      · have := (hf' i hi).c0; rw [cc] at this; exact this
      · have := (hf' i hi).c1; rw [cc] at this; exact this
      · have := (hf' i hi).c2; rw [cc] at this; exact this
      · have := (hf' i hi).c3; rw [cc] at this; exact this
      · have := (hf' i hi).c4; rw [cc] at this; exact this
      · have := (hf' i hi).c5; rw [cc] at this; exact this
      · have := (hf' i hi).c6; rw [cc] at this; exact this
end
end Go.Proofs.YtjnmoddcodnadaaGreatDoor
namespace Go.Proofs.YtjnmoddcodnadaaGreatDoor
open Go.ChangeShapes Go.WideShapes Go.ChangeAt Go.RowKit Go.Annal Go.Deep
theorem own : ownKnob Tryz.prog.godebug = none := by kernel_rfl
theorem laidOut : laidOutB Tryz.prog = true := by kernel_rfl
theorem readsOp : Tryz.prog.readableRec 22 = true := by kernel_rfl
theorem rowOp : 22 < Tryz.prog.types.size := of_decide_eq_true (by kernel_rfl)
/-- The cells of a table that is given as a datum. -/
def litCell : DataW Unit → Value
  | .lit (.int k n) => .int k n
  | _ => .bool false
def litCells : DataW Unit → Array Value
  | .agg l => (l.map litCell).toArray
  | _ => #[]
abbrev rangeS : ByteArray := ⟨#[118, 97, 108, 117, 101, 32, 111, 117, 116, 32, 111, 102, 32, 114, 97, 110, 103, 101]⟩
abbrev syntaxS : ByteArray := ⟨#[105, 110, 118, 97, 108, 105, 100, 32, 115, 121, 110, 116, 97, 120]⟩
noncomputable def lowB : Nat := (World.holding Tryz.prog default ⟨#[], #[], []⟩).heap.size
/-- What a package variable holds, put in its block. -/
def putCells (cs : Array Value) : Obj → Obj
  | .cells _ t frozen => .cells cs t frozen
  | o => o
/-- A world in which all listed variables lie as their initialisers lay them. -/
noncomputable def laidWorld (os : Os) : World :=
  let w0 := World.holding Tryz.prog os ⟨#[.cells #[.string syntaxS] 276, .cells #[.string rangeS] 276], #[], []⟩
  { w0 with heap := ((((w0.heap.modify 1 (putCells #[.iface 274 (.pointer (some ⟨lowB, 0, none⟩))])).modify 2 (putCells #[.iface 274 (.pointer (some ⟨lowB + 1, 0, none⟩))])).modify 3 (putCells (litCells Rows.laid_internal_strconv_uint64pow10))).modify 4 (putCells (litCells Rows.laid_math_bits_deBruijn32tab))).modify 5 (putCells (litCells Rows.laid_math_bits_deBruijn64tab)) }
end Go.Proofs.YtjnmoddcodnadaaGreatDoor
namespace Go.Proofs.YtjnmoddcodnadaaGreatDoor
open Go.ChangeShapes Go.WideShapes Go.ChangeAt Go.RowKit Go.Annal Go.Deep
set_option maxRecDepth 100000 in
theorem contractPosts (H : Type) (enc : TypeId × Value → H) (W : World) (base : Nat) (args : Array Value) (ds gs : List (DataW H)) (before : List MemPlace)
    (hval : ∀ (j : Nat) t v, Tryz.f3.params[j]? = some t → args[j]? = some v → Value.okWide Tryz.prog W .any base t v)
    (hW : DataW.Whole enc Tryz.prog Tryz.f3.params.toList Rows.postsSpec.vars false W args.toList ds gs before) (hk : Rows.uptoSmall H (ds ++ gs) = true) :
    Calls Tryz.prog 3 args W fun e W' => ∃ v, e = .returned v ∧ Rows.postsSpec.post enc Tryz.prog Tryz.f3 false true false false W args v W' := by
  have hW' := hW
  obtain ⟨p, q, hA0, hV, rfl, hfz, hnd⟩ := hW
  have hA : DataW.TrodAll enc Tryz.prog W 0 (fun _ => true) true Tryz.f3.params.toList args.toList ds p := hA0
  rw [Tryz.params3] at hA hval
  obtain ⟨v0, vs0, d0, ds0, p0, q0, hargs, rfl, rfl, h0, r0⟩ := trodAll_cons hA
  obtain ⟨rfl, rfl, rfl⟩ := trodAll_nil r0
  obtain rfl : args = #[v0] := by cases args; simp_all
  obtain ⟨rfl, rfl⟩ := trodVars_none hV
  clear hA0
  have hb : Rows.uptoBulk d0 ≤ 1048576 := by
    have h : Rows.uptoBulkAll ([d0] ++ []) ≤ 1048576 := of_decide_eq_true hk
    simp only [List.append_nil, Rows.uptoBulkAll] at h
    omega
  have hlt : ∀ x ∈ p0, x.block < W.heap.size := fun x hx => by simpa using hW'.lt x (by simpa using hx)
  refine (open_script (P := fun v => Calls Tryz.prog 3 #[v] W fun r w' => r = .returned (.bool true) ∧ Below W.heap.size W w') h0 (okWide_slice Tryz.underlying22 (hval 0 _ v0 rfl rfl)) hb (fun sg so sn sc sad kd kw A B C nm lad ln lc xa xm h1 h2 h3 => posts_walk sg so sn sc sad kd kw A B C nm lad ln lc xa xm W h1 h2 h3)).mono fun e W' ⟨he, hg⟩ => ?_
  subst he
  refine ⟨_, rfl, [d0], [], (p0 ++ []) ++ [], [], p0 ++ [], [], hW', trodAll_cons_mk (shut_bool Tryz.underlying4 _) trodAll_mk0, trodAll_cons_mk (Below.trod laidOut readsOp rowOp h0 hg hlt) trodAll_mk0, rfl, hg.frame _, fun h => by cases h⟩
theorem laid_metPosts (os : Os) : laidMet Tryz.prog Rows.postsUptoRow.laid ((laidWorld os).forCall (fun _ _ => 0) ⟨#[], #[.slice none 0 0], []⟩).memory :=
  laidMet_of_run' 8 (by kernel_rfl) (by kernel_rfl)
theorem readsPosts (os : Os) {H : Type} (enc : TypeId × Value → H) : ∃ places, DataW.whole enc Tryz.prog ((laidWorld os).forCall (fun _ _ => 0) ⟨#[], #[.slice none 0 0], []⟩).memory Tryz.f3.params.toList Rows.postsSpec.vars false #[Value.slice none 0 0].toList 8 = some ([.nil], [], places) :=
  ⟨[], by kernel_rfl⟩
set_option maxRecDepth 100000 in
theorem liftedPosts (os : Os) (started : os.Started) (H : Type) (enc : TypeId × Value → H) (F : Stop.Interp) :
    ReturnsInHanded {} Tryz.checked os 3 .any ((Rows.OpenSpec.upto Rows.postsSpec).preRow enc Tryz.prog Tryz.f3 Rows.postsUptoRow.domain false Rows.postsUptoRow.laid) (((Rows.OpenSpec.upto Rows.postsSpec).at F).post enc Tryz.prog Tryz.f3 false true false false) := by
  obtain ⟨places, hx⟩ := readsPosts os enc
  refine returnsInHanded_of_row (C := Tryz.checked) (s := Rows.OpenSpec.upto Rows.postsSpec) own started (by kernel_rfl) Tryz.func3
    (witness_row_at (enc := enc) (C := Tryz.checked) false (laidWorld os) #[.slice none 0 0] rfl (by kernel_rfl) (by kernel_rfl) (by kernel_rfl)
      (OpenSpec.preRow_of_cond 8 hx (by kernel_rfl) (fun k hk => by cases hk; kernel_rfl) (by kernel_rfl) (laid_metPosts os))) ?_
  intro W base args ds gs before hval hW _ hcond _ _ _ _
  exact contractPosts H enc W base args ds gs before hval hW (hcond _ rfl)
theorem saidPosts : Rows.PostsUptoSaid :=
  OpenClaim.holds_of_cond 3 Tryz.f3 rfl rfl rfl rfl rfl rfl rfl ⟨rfl, rfl, rfl, rfl, rfl⟩ rfl rfl rfl rfl rfl (by kernel_rfl) Tryz.func3 (by kernel_rfl)
    (of_decide_eq_true (by kernel_rfl)) (by unfold Func.isWrapper; first | (rw [if_pos (by decide +kernel)]; kernel_rfl) | (rw [if_neg (by decide +kernel)]; exact ⟨rfl, rfl⟩))
    (fun os started H enc _ F => by rw [OpenClaim.pre_eq_preRow]; exact liftedPosts os started H enc F)
theorem plainPosts (f : FuncId) (fn : Func) (hf : Tryz.pinned.checked.prog.funcNamed "annal/annallaw.Posts" = some f) (hfn : Tryz.pinned.checked.prog.funcs[f]? = some fn) :
    true = Tryz.pinned.checked.prog.looks [] ∧ ∀ (j : Nat) t, fn.params[j]? = some t → Tryz.pinned.checked.prog.wantsStandIn t = false := by
  obtain rfl : f = 3 := Option.some.inj ((show Tryz.prog.funcNamed "annal/annallaw.Posts" = some 3 by kernel_rfl).symm.trans hf) |>.symm
  obtain rfl : fn = Tryz.f3 := (Option.some.inj (Tryz.func3.symm.trans hfn)).symm
  refine ⟨by kernel_rfl, fun j t ht => ?_⟩
  rw [Tryz.params3] at ht
  obtain rfl : t = 22 := by simpa using Array.mem_of_getElem? ht
  exact (show Tryz.prog.wantsStandIn 22 = false by kernel_rfl)
theorem postsUptoCard : Rows.PostsUptoCardSaid :=
  Claim7.holds_tied_plain_at .later [] _ _ _ _ saidPosts (fun _ h => by cases h) (by kernel_rfl) (fun _ h => by cases h) postsUpto_row_tie rfl ⟨rfl, rfl⟩ (by kernel_rfl) rfl plainPosts (by kernel_rfl)
#print axioms postsUptoCard
end Go.Proofs.YtjnmoddcodnadaaGreatDoor
