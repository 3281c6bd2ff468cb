import Derived.Test.YtjnmoddcodnadaaGreatDoorG47
import Derived.Test.YtjnmoddcodnadaaGreatDoorG35
import Derived.Test.YtjnmoddcodnadaaGreatDoorG24
import Derived.Test.YtjnmoddcodnadaaGreatDoorG26
import Derived.Test.YtjnmoddcodnadaaGreatDoorRows
import Derived.WalkKit
import Derived.ProofKit
import Derived.OpenShut
import Derived.JoinedCond
import Derived.Carry
import Derived.Deep.Slices
import Derived.Test.YtjnmoddcodnadaaGreatDoorG44
set_option linter.unusedVariables false
set_option linter.unusedSimpArgs false
namespace Go.Proofs.YtjnmoddcodnadaaGreatDoor
open Go.RowKit Go.Annal Go.Sort
set_option maxHeartbeats 4000000 in
set_option maxRecDepth 100000 in
theorem step_bal (H L : Nat) (d : Ls) (kw A B C : Int) (name : ByteArray) (lv : Value) (w : World) (h : LawIs H w L d) (hnb : d.nb ≤ 100000000) (hn0 : 0 < d.nb) (h1 : -9223372036854775808 ≤ kw) (h2 : kw ≤ 9223372036854775807) :
    Calls Tryz.prog 17 #[.pointer (some ⟨L, 0, none⟩), .agg #[.int .i64 4, .int .i64 kw, .string name, .int .i64 A, .int .i64 B, .int .i64 C, lv]] w fun r w' => r = .returned (.bool true) ∧ ∃ d', LawIs H w' L d' ∧ Ls.Grows d d' ∧ Turn (fun b => H ≤ b) w w' := by
  have HL : Hid (LawIs H w L d) := h
  obtain ⟨ip, hip⟩ : ∃ ip : Nat, pickI kw d.nb = ip := ⟨(pickI kw d.nb).toNat, by have := pick_lt kw d.nb hn0; omega⟩
  have hipl : ip < d.nb := by have := pick_lt kw d.nb hn0; omega
  have CK : Hid (∀ W, Calls Tryz.prog 37 #[.int .i64 kw, .int .i64 d.nb] W fun r w' => r = .returned (.int .i64 ip) ∧ w' = W) := fun W => by
    have := pick_any kw d.nb W h1 h2 (by omega) (by omega)
    rw [hip] at this
    exact this
  obtain ⟨adb, cb, gb, eb, hcb, hab, hbc⟩ := owns_view h.rb
  obtain ⟨rfl, _, _⟩ := hab (by omega)
  have cL := blk_cell' h.bk (o := 0) rfl
  rw [eb] at cL
  have q0 : w.cell? ⟨gb, ip * 2, none⟩ = some (.pointer (some ⟨d.B ip, 0, none⟩)) := by
    rw [hbc (ip * 2) (by omega)]
    exact flat_get 2 (fun i => [Value.pointer (some ⟨d.B i, 0, none⟩), .pointer (some ⟨d.R i, 0, none⟩)]) (fun _ => rfl) d.nb ip 0 hipl (by omega)
  have q1 : w.cell? ⟨gb, ip * 2 + 1, none⟩ = some (.pointer (some ⟨d.R ip, 0, none⟩)) := by
    rw [hbc (ip * 2 + 1) (by omega)]
    exact flat_get 2 (fun i => [Value.pointer (some ⟨d.B i, 0, none⟩), .pointer (some ⟨d.R i, 0, none⟩)]) (fun _ => rfl) d.nb ip 1 hipl (by omega)
  have hi1 : (0 : Int) ≤ (ip : Int) := by omega
  have hi2 : (ip : Int) < (d.nb : Int) := by omega
  have hn1 : ¬ (d.nb : Int) = 0 := by omega
  clear h hbc eb hip
  have hga : Grew w (w.alloc (.cells #[.int .i64 4, .int .i64 kw, .string name, .int .i64 A, .int .i64 B, .int .i64 C, lv] 56)) := (Grew.refl w).alloc _
  have cL' := hga.cell' cL
  have q0' := hga.cell' q0
  have q1' := hga.cell' q1
  go_enter Tryz.func17, Tryz.ntmps17
  go_wp2_with (first
    | (go_at_call 37; refine Calls.mono (CK.out _) ?_; rintro e wx ⟨rfl, hw⟩; rw [hw]; clear hw wx))
  have hne1 : L ≠ w.heap.size := by have := blk_lt HL.out.bk; omega
  go_region_held3 (fun w' => w'.cell? ⟨L, 0, none⟩ = some (.slice (some ⟨gb, 0, none⟩) d.nb cb) ∧ w'.cell? ⟨w.heap.size, 1, none⟩ = some (.int .i64 kw) ∧ w'.cell? ⟨gb, ip * 2, none⟩ = some (.pointer (some ⟨d.B ip, 0, none⟩)) ∧ w'.cell? ⟨gb, ip * 2 + 1, none⟩ = some (.pointer (some ⟨d.R ip, 0, none⟩))) (go_keep) (first | (go_at_call 37; refine Calls.mono (CK.out _) ?_; rintro e wx ⟨rfl, hw⟩; rw [hw]; clear hw wx))
  all_goals
    have hb2 : Below w.heap.size w ((w.alloc (.cells #[.int .i64 4, .int .i64 kw, .string name, .int .i64 A, .int .i64 B, .int .i64 C, lv] 56)).alloc (.cells #[.pointer (some ⟨d.B ip, 0, none⟩), .pointer (some ⟨d.R ip, 0, none⟩)] 94)).drew := ((((Grew.refl w).alloc _).alloc _).drew).below
    have hx1 : ((w.alloc (.cells #[.int .i64 4, .int .i64 kw, .string name, .int .i64 A, .int .i64 B, .int .i64 C, lv] 56)).alloc (.cells #[.pointer (some ⟨d.B ip, 0, none⟩), .pointer (some ⟨d.R ip, 0, none⟩)] 94)).drew.heap[w.heap.size]? = some (.cells #[.int .i64 4, .int .i64 kw, .string name, .int .i64 A, .int .i64 B, .int .i64 C, lv] 56 (0, 0)) := Grew.blk ((Grew.refl _).alloc _).drew (heap_alloc_new w _)
    have hx2 : ((w.alloc (.cells #[.int .i64 4, .int .i64 kw, .string name, .int .i64 A, .int .i64 B, .int .i64 C, lv] 56)).alloc (.cells #[.pointer (some ⟨d.B ip, 0, none⟩), .pointer (some ⟨d.R ip, 0, none⟩)] 94)).drew.heap[w.heap.size + 1]? = some (.cells #[.pointer (some ⟨d.B ip, 0, none⟩), .pointer (some ⟨d.R ip, 0, none⟩)] 94 (0, 0)) := by
      have := heap_alloc_new (w.alloc (.cells #[.int .i64 4, .int .i64 kw, .string name, .int .i64 A, .int .i64 B, .int .i64 C, lv] 56)) (.cells #[.pointer (some ⟨d.B ip, 0, none⟩), .pointer (some ⟨d.R ip, 0, none⟩)] 94)
      rwa [World.size_alloc] at this
    obtain ⟨W2, hW2⟩ : ∃ W2, ((w.alloc (.cells #[.int .i64 4, .int .i64 kw, .string name, .int .i64 A, .int .i64 B, .int .i64 C, lv] 56)).alloc (.cells #[.pointer (some ⟨d.B ip, 0, none⟩), .pointer (some ⟨d.R ip, 0, none⟩)] 94)).drew = W2 := ⟨_, rfl⟩
    rw [hW2] at hb2 hx1 hx2 ⊢
    clear hW2 cL' q0' q1' hga cL q0 q1
  all_goals
    have a0 := blk_cell' hx1 (o := 0) rfl
    have a1 := blk_cell' hx1 (o := 1) rfl
    have a2 := blk_cell' hx1 (o := 2) rfl
    have a3 := blk_cell' hx1 (o := 3) rfl
    have a4 := blk_cell' hx1 (o := 4) rfl
    have a5 := blk_cell' hx1 (o := 5) rfl
    have a6 := blk_cell' hx1 (o := 6) rfl
    have b0 := blk_cell' hx2 (o := 0) rfl
    have b1 := blk_cell' hx2 (o := 1) rfl
    have C1 : Hid (type_of% (asks_bal H L ip d kw A B C name lv W2 (HL.out.mv hb2) hipl)) := asks_bal H L ip d kw A B C name lv W2 (HL.out.mv hb2) hipl
  go_wp2_with (go_at_call 45; refine Calls.mono C1.out ?_; rintro e w3 ⟨rfl, hd', hb3⟩)
  all_goals go_ret
  all_goals exact ⟨rfl, d, hd', ⟨⟨Nat.le_refl _, Nat.le_succ _⟩, Nat.le_add_right _ _, Nat.le_add_right _ _, Nat.le_succ _⟩, (Turn.of_below hb2).trans (Turn.of_below hb3)⟩
set_option maxHeartbeats 4000000 in
set_option maxRecDepth 100000 in
theorem step_trial (H L : Nat) (d : Ls) (kw A B C : Int) (name : ByteArray) (lv : Value) (w : World) (h : LawIs H w L d) (hnb : d.nb ≤ 100000000) (hn0 : 0 < d.nb) (h1 : -9223372036854775808 ≤ kw) (h2 : kw ≤ 9223372036854775807) (hnl : d.nl ≤ 100000000) (hni : d.ni ≤ 100000000) (hnt : d.nt ≤ 100000000) :
    Calls Tryz.prog 17 #[.pointer (some ⟨L, 0, none⟩), .agg #[.int .i64 5, .int .i64 kw, .string name, .int .i64 A, .int .i64 B, .int .i64 C, lv]] w fun r w' => r = .returned (.bool true) ∧ ∃ d', LawIs H w' L d' ∧ Ls.Grows d d' ∧ Turn (fun b => H ≤ b) w w' := by
  have HL : Hid (LawIs H w L d) := h
  obtain ⟨ip, hip⟩ : ∃ ip : Nat, pickI kw d.nb = ip := ⟨(pickI kw d.nb).toNat, by have := pick_lt kw d.nb hn0; omega⟩
  have hipl : ip < d.nb := by have := pick_lt kw d.nb hn0; omega
  have CK : Hid (∀ W, Calls Tryz.prog 37 #[.int .i64 kw, .int .i64 d.nb] W fun r w' => r = .returned (.int .i64 ip) ∧ w' = W) := fun W => by
    have := pick_any kw d.nb W h1 h2 (by omega) (by omega)
    rw [hip] at this
    exact this
  obtain ⟨adb, cb, gb, eb, hcb, hab, hbc⟩ := owns_view h.rb
  obtain ⟨rfl, _, _⟩ := hab (by omega)
  have cL := blk_cell' h.bk (o := 0) rfl
  rw [eb] at cL
  have q0 : w.cell? ⟨gb, ip * 2, none⟩ = some (.pointer (some ⟨d.B ip, 0, none⟩)) := by
    rw [hbc (ip * 2) (by omega)]
    exact flat_get 2 (fun i => [Value.pointer (some ⟨d.B i, 0, none⟩), .pointer (some ⟨d.R i, 0, none⟩)]) (fun _ => rfl) d.nb ip 0 hipl (by omega)
  have q1 : w.cell? ⟨gb, ip * 2 + 1, none⟩ = some (.pointer (some ⟨d.R ip, 0, none⟩)) := by
    rw [hbc (ip * 2 + 1) (by omega)]
    exact flat_get 2 (fun i => [Value.pointer (some ⟨d.B i, 0, none⟩), .pointer (some ⟨d.R i, 0, none⟩)]) (fun _ => rfl) d.nb ip 1 hipl (by omega)
  have hi1 : (0 : Int) ≤ (ip : Int) := by omega
  have hi2 : (ip : Int) < (d.nb : Int) := by omega
  have hn1 : ¬ (d.nb : Int) = 0 := by omega
  clear h hbc eb hip
  have hga : Grew w (w.alloc (.cells #[.int .i64 5, .int .i64 kw, .string name, .int .i64 A, .int .i64 B, .int .i64 C, lv] 56)) := (Grew.refl w).alloc _
  have cL' := hga.cell' cL
  have q0' := hga.cell' q0
  have q1' := hga.cell' q1
  go_enter Tryz.func17, Tryz.ntmps17
  go_wp2_with (first
    | (go_at_call 37; refine Calls.mono (CK.out _) ?_; rintro e wx ⟨rfl, hw⟩; rw [hw]; clear hw wx))
  have hne1 : L ≠ w.heap.size := by have := blk_lt HL.out.bk; omega
  go_region_held3 (fun w' => w'.cell? ⟨L, 0, none⟩ = some (.slice (some ⟨gb, 0, none⟩) d.nb cb) ∧ w'.cell? ⟨w.heap.size, 1, none⟩ = some (.int .i64 kw) ∧ w'.cell? ⟨gb, ip * 2, none⟩ = some (.pointer (some ⟨d.B ip, 0, none⟩)) ∧ w'.cell? ⟨gb, ip * 2 + 1, none⟩ = some (.pointer (some ⟨d.R ip, 0, none⟩))) (go_keep) (first | (go_at_call 37; refine Calls.mono (CK.out _) ?_; rintro e wx ⟨rfl, hw⟩; rw [hw]; clear hw wx))
  all_goals
    have hb2 : Below w.heap.size w ((w.alloc (.cells #[.int .i64 5, .int .i64 kw, .string name, .int .i64 A, .int .i64 B, .int .i64 C, lv] 56)).alloc (.cells #[.pointer (some ⟨d.B ip, 0, none⟩), .pointer (some ⟨d.R ip, 0, none⟩)] 94)).drew := ((((Grew.refl w).alloc _).alloc _).drew).below
    have hx1 : ((w.alloc (.cells #[.int .i64 5, .int .i64 kw, .string name, .int .i64 A, .int .i64 B, .int .i64 C, lv] 56)).alloc (.cells #[.pointer (some ⟨d.B ip, 0, none⟩), .pointer (some ⟨d.R ip, 0, none⟩)] 94)).drew.heap[w.heap.size]? = some (.cells #[.int .i64 5, .int .i64 kw, .string name, .int .i64 A, .int .i64 B, .int .i64 C, lv] 56 (0, 0)) := Grew.blk ((Grew.refl _).alloc _).drew (heap_alloc_new w _)
    have hx2 : ((w.alloc (.cells #[.int .i64 5, .int .i64 kw, .string name, .int .i64 A, .int .i64 B, .int .i64 C, lv] 56)).alloc (.cells #[.pointer (some ⟨d.B ip, 0, none⟩), .pointer (some ⟨d.R ip, 0, none⟩)] 94)).drew.heap[w.heap.size + 1]? = some (.cells #[.pointer (some ⟨d.B ip, 0, none⟩), .pointer (some ⟨d.R ip, 0, none⟩)] 94 (0, 0)) := by
      have := heap_alloc_new (w.alloc (.cells #[.int .i64 5, .int .i64 kw, .string name, .int .i64 A, .int .i64 B, .int .i64 C, lv] 56)) (.cells #[.pointer (some ⟨d.B ip, 0, none⟩), .pointer (some ⟨d.R ip, 0, none⟩)] 94)
      rwa [World.size_alloc] at this
    obtain ⟨W2, hW2⟩ : ∃ W2, ((w.alloc (.cells #[.int .i64 5, .int .i64 kw, .string name, .int .i64 A, .int .i64 B, .int .i64 C, lv] 56)).alloc (.cells #[.pointer (some ⟨d.B ip, 0, none⟩), .pointer (some ⟨d.R ip, 0, none⟩)] 94)).drew = W2 := ⟨_, rfl⟩
    rw [hW2] at hb2 hx1 hx2 ⊢
    clear hW2 cL' q0' q1' hga cL q0 q1
  all_goals
    have a0 := blk_cell' hx1 (o := 0) rfl
    have a1 := blk_cell' hx1 (o := 1) rfl
    have a2 := blk_cell' hx1 (o := 2) rfl
    have a3 := blk_cell' hx1 (o := 3) rfl
    have a4 := blk_cell' hx1 (o := 4) rfl
    have a5 := blk_cell' hx1 (o := 5) rfl
    have a6 := blk_cell' hx1 (o := 6) rfl
    have b0 := blk_cell' hx2 (o := 0) rfl
    have b1 := blk_cell' hx2 (o := 1) rfl
    have C1 : Hid (type_of% (asks_trial H L ip d kw A B C name lv W2 (HL.out.mv hb2) hipl hnl hni hnt)) := asks_trial H L ip d kw A B C name lv W2 (HL.out.mv hb2) hipl hnl hni hnt
  go_wp2_with (go_at_call 45; refine Calls.mono C1.out ?_; rintro e w3 ⟨rfl, d', hd', hgr, hT⟩)
  all_goals go_ret
  all_goals exact ⟨rfl, d', hd', hgr, (Turn.of_below hb2).trans hT⟩
set_option maxHeartbeats 4000000 in
set_option maxRecDepth 100000 in
theorem step_items (H L : Nat) (d : Ls) (kw A B C : Int) (name : ByteArray) (lv : Value) (w : World) (h : LawIs H w L d) (hnb : d.nb ≤ 100000000) (hn0 : 0 < d.nb) (h1 : -9223372036854775808 ≤ kw) (h2 : kw ≤ 9223372036854775807) (hnl : d.nl ≤ 100000000) (hni : d.ni ≤ 100000000) (hnt : d.nt ≤ 100000000) :
    Calls Tryz.prog 17 #[.pointer (some ⟨L, 0, none⟩), .agg #[.int .i64 6, .int .i64 kw, .string name, .int .i64 A, .int .i64 B, .int .i64 C, lv]] w fun r w' => r = .returned (.bool true) ∧ ∃ d', LawIs H w' L d' ∧ Ls.Grows d d' ∧ Turn (fun b => H ≤ b) w w' := by
  have HL : Hid (LawIs H w L d) := h
  obtain ⟨ip, hip⟩ : ∃ ip : Nat, pickI kw d.nb = ip := ⟨(pickI kw d.nb).toNat, by have := pick_lt kw d.nb hn0; omega⟩
  have hipl : ip < d.nb := by have := pick_lt kw d.nb hn0; omega
  have CK : Hid (∀ W, Calls Tryz.prog 37 #[.int .i64 kw, .int .i64 d.nb] W fun r w' => r = .returned (.int .i64 ip) ∧ w' = W) := fun W => by
    have := pick_any kw d.nb W h1 h2 (by omega) (by omega)
    rw [hip] at this
    exact this
  obtain ⟨adb, cb, gb, eb, hcb, hab, hbc⟩ := owns_view h.rb
  obtain ⟨rfl, _, _⟩ := hab (by omega)
  have cL := blk_cell' h.bk (o := 0) rfl
  rw [eb] at cL
  have q0 : w.cell? ⟨gb, ip * 2, none⟩ = some (.pointer (some ⟨d.B ip, 0, none⟩)) := by
    rw [hbc (ip * 2) (by omega)]
    exact flat_get 2 (fun i => [Value.pointer (some ⟨d.B i, 0, none⟩), .pointer (some ⟨d.R i, 0, none⟩)]) (fun _ => rfl) d.nb ip 0 hipl (by omega)
  have q1 : w.cell? ⟨gb, ip * 2 + 1, none⟩ = some (.pointer (some ⟨d.R ip, 0, none⟩)) := by
    rw [hbc (ip * 2 + 1) (by omega)]
    exact flat_get 2 (fun i => [Value.pointer (some ⟨d.B i, 0, none⟩), .pointer (some ⟨d.R i, 0, none⟩)]) (fun _ => rfl) d.nb ip 1 hipl (by omega)
  have hi1 : (0 : Int) ≤ (ip : Int) := by omega
  have hi2 : (ip : Int) < (d.nb : Int) := by omega
  have hn1 : ¬ (d.nb : Int) = 0 := by omega
  clear h hbc eb hip
  have hga : Grew w (w.alloc (.cells #[.int .i64 6, .int .i64 kw, .string name, .int .i64 A, .int .i64 B, .int .i64 C, lv] 56)) := (Grew.refl w).alloc _
  have cL' := hga.cell' cL
  have q0' := hga.cell' q0
  have q1' := hga.cell' q1
  go_enter Tryz.func17, Tryz.ntmps17
  go_wp2_with (first
    | (go_at_call 37; refine Calls.mono (CK.out _) ?_; rintro e wx ⟨rfl, hw⟩; rw [hw]; clear hw wx))
  have hne1 : L ≠ w.heap.size := by have := blk_lt HL.out.bk; omega
  go_region_held3 (fun w' => w'.cell? ⟨L, 0, none⟩ = some (.slice (some ⟨gb, 0, none⟩) d.nb cb) ∧ w'.cell? ⟨w.heap.size, 1, none⟩ = some (.int .i64 kw) ∧ w'.cell? ⟨gb, ip * 2, none⟩ = some (.pointer (some ⟨d.B ip, 0, none⟩)) ∧ w'.cell? ⟨gb, ip * 2 + 1, none⟩ = some (.pointer (some ⟨d.R ip, 0, none⟩))) (go_keep) (first | (go_at_call 37; refine Calls.mono (CK.out _) ?_; rintro e wx ⟨rfl, hw⟩; rw [hw]; clear hw wx))
  all_goals
    have hb2 : Below w.heap.size w ((w.alloc (.cells #[.int .i64 6, .int .i64 kw, .string name, .int .i64 A, .int .i64 B, .int .i64 C, lv] 56)).alloc (.cells #[.pointer (some ⟨d.B ip, 0, none⟩), .pointer (some ⟨d.R ip, 0, none⟩)] 94)).drew := ((((Grew.refl w).alloc _).alloc _).drew).below
    have hx1 : ((w.alloc (.cells #[.int .i64 6, .int .i64 kw, .string name, .int .i64 A, .int .i64 B, .int .i64 C, lv] 56)).alloc (.cells #[.pointer (some ⟨d.B ip, 0, none⟩), .pointer (some ⟨d.R ip, 0, none⟩)] 94)).drew.heap[w.heap.size]? = some (.cells #[.int .i64 6, .int .i64 kw, .string name, .int .i64 A, .int .i64 B, .int .i64 C, lv] 56 (0, 0)) := Grew.blk ((Grew.refl _).alloc _).drew (heap_alloc_new w _)
    have hx2 : ((w.alloc (.cells #[.int .i64 6, .int .i64 kw, .string name, .int .i64 A, .int .i64 B, .int .i64 C, lv] 56)).alloc (.cells #[.pointer (some ⟨d.B ip, 0, none⟩), .pointer (some ⟨d.R ip, 0, none⟩)] 94)).drew.heap[w.heap.size + 1]? = some (.cells #[.pointer (some ⟨d.B ip, 0, none⟩), .pointer (some ⟨d.R ip, 0, none⟩)] 94 (0, 0)) := by
      have := heap_alloc_new (w.alloc (.cells #[.int .i64 6, .int .i64 kw, .string name, .int .i64 A, .int .i64 B, .int .i64 C, lv] 56)) (.cells #[.pointer (some ⟨d.B ip, 0, none⟩), .pointer (some ⟨d.R ip, 0, none⟩)] 94)
      rwa [World.size_alloc] at this
    obtain ⟨W2, hW2⟩ : ∃ W2, ((w.alloc (.cells #[.int .i64 6, .int .i64 kw, .string name, .int .i64 A, .int .i64 B, .int .i64 C, lv] 56)).alloc (.cells #[.pointer (some ⟨d.B ip, 0, none⟩), .pointer (some ⟨d.R ip, 0, none⟩)] 94)).drew = W2 := ⟨_, rfl⟩
    rw [hW2] at hb2 hx1 hx2 ⊢
    clear hW2 cL' q0' q1' hga cL q0 q1
  all_goals
    have a0 := blk_cell' hx1 (o := 0) rfl
    have a1 := blk_cell' hx1 (o := 1) rfl
    have a2 := blk_cell' hx1 (o := 2) rfl
    have a3 := blk_cell' hx1 (o := 3) rfl
    have a4 := blk_cell' hx1 (o := 4) rfl
    have a5 := blk_cell' hx1 (o := 5) rfl
    have a6 := blk_cell' hx1 (o := 6) rfl
    have b0 := blk_cell' hx2 (o := 0) rfl
    have b1 := blk_cell' hx2 (o := 1) rfl
    have C1 : Hid (type_of% (asks_items H L ip d kw A B C name lv W2 (HL.out.mv hb2) hipl hnl hni hnt)) := asks_items H L ip d kw A B C name lv W2 (HL.out.mv hb2) hipl hnl hni hnt
  go_wp2_with (go_at_call 45; refine Calls.mono C1.out ?_; rintro e w3 ⟨rfl, d', hd', hgr, hT⟩)
  all_goals go_ret
  all_goals exact ⟨rfl, d', hd', hgr, (Turn.of_below hb2).trans hT⟩
end Go.Proofs.YtjnmoddcodnadaaGreatDoor
namespace Go.Proofs.YtjnmoddcodnadaaGreatDoor
open Go.RowKit Go.Annal Go.Sort
set_option maxHeartbeats 4000000 in
set_option maxRecDepth 100000 in
theorem step_none (H L : Nat) (d : Ls) (kk kw A B C : Int) (name : ByteArray) (lv : Value) (w : World) (h : LawIs H w L d) (hnb : d.nb ≤ 100000000) (hn0 : 0 < d.nb) (h1 : -9223372036854775808 ≤ kw) (h2 : kw ≤ 9223372036854775807) (hk : kk ≤ 0) :
    Calls Tryz.prog 17 #[.pointer (some ⟨L, 0, none⟩), .agg #[.int .i64 kk, .int .i64 kw, .string name, .int .i64 A, .int .i64 B, .int .i64 C, lv]] w fun r w' => r = .returned (.bool true) ∧ ∃ d', LawIs H w' L d' ∧ Ls.Grows d d' ∧ Turn (fun b => H ≤ b) w w' := by
  have HL : Hid (LawIs H w L d) := h
  obtain ⟨ip, hip⟩ : ∃ ip : Nat, pickI kw d.nb = ip := ⟨(pickI kw d.nb).toNat, by have := pick_lt kw d.nb hn0; omega⟩
  have hipl : ip < d.nb := by have := pick_lt kw d.nb hn0; omega
  have CK : Hid (∀ W, Calls Tryz.prog 37 #[.int .i64 kw, .int .i64 d.nb] W fun r w' => r = .returned (.int .i64 ip) ∧ w' = W) := fun W => by
    have := pick_any kw d.nb W h1 h2 (by omega) (by omega)
    rw [hip] at this
    exact this
  obtain ⟨adb, cb, gb, eb, hcb, hab, hbc⟩ := owns_view h.rb
  obtain ⟨rfl, _, _⟩ := hab (by omega)
  have cL := blk_cell' h.bk (o := 0) rfl
  rw [eb] at cL
  have q0 : w.cell? ⟨gb, ip * 2, none⟩ = some (.pointer (some ⟨d.B ip, 0, none⟩)) := by
    rw [hbc (ip * 2) (by omega)]
    exact flat_get 2 (fun i => [Value.pointer (some ⟨d.B i, 0, none⟩), .pointer (some ⟨d.R i, 0, none⟩)]) (fun _ => rfl) d.nb ip 0 hipl (by omega)
  have q1 : w.cell? ⟨gb, ip * 2 + 1, none⟩ = some (.pointer (some ⟨d.R ip, 0, none⟩)) := by
    rw [hbc (ip * 2 + 1) (by omega)]
    exact flat_get 2 (fun i => [Value.pointer (some ⟨d.B i, 0, none⟩), .pointer (some ⟨d.R i, 0, none⟩)]) (fun _ => rfl) d.nb ip 1 hipl (by omega)
  have hi1 : (0 : Int) ≤ (ip : Int) := by omega
  have hi2 : (ip : Int) < (d.nb : Int) := by omega
  have hn1 : ¬ (d.nb : Int) = 0 := by omega
  clear h hbc eb hip
  have hga : Grew w (w.alloc (.cells #[.int .i64 kk, .int .i64 kw, .string name, .int .i64 A, .int .i64 B, .int .i64 C, lv] 56)) := (Grew.refl w).alloc _
  have cL' := hga.cell' cL
  have q0' := hga.cell' q0
  have q1' := hga.cell' q1
  have hk1 : (kk == 1) = false := by simp; omega
  have hk2 : (kk == 2) = false := by simp; omega
  have hk3 : (kk == 3) = false := by simp; omega
  have hk4 : (kk == 4) = false := by simp; omega
  have hk5 : (kk == 5) = false := by simp; omega
  have hk6 : (kk == 6) = false := by simp; omega
  have hk7 : (kk == 7) = false := by simp; omega
  have hk8 : (kk == 8) = false := by simp; omega
  have hk9 : (kk == 9) = false := by simp; omega
  have hk10 : (kk == 10) = false := by simp; omega
  have hk11 : (kk == 11) = false := by simp; omega
  have hk12 : (kk == 12) = false := by simp; omega
  go_enter Tryz.func17, Tryz.ntmps17
  go_wp2_with (first
    | (go_at_call 37; refine Calls.mono (CK.out _) ?_; rintro e wx ⟨rfl, hw⟩; rw [hw]; clear hw wx))
  have hne1 : L ≠ w.heap.size := by have := blk_lt HL.out.bk; omega
  go_region_held3 (fun w' => w'.cell? ⟨L, 0, none⟩ = some (.slice (some ⟨gb, 0, none⟩) d.nb cb) ∧ w'.cell? ⟨w.heap.size, 1, none⟩ = some (.int .i64 kw) ∧ w'.cell? ⟨gb, ip * 2, none⟩ = some (.pointer (some ⟨d.B ip, 0, none⟩)) ∧ w'.cell? ⟨gb, ip * 2 + 1, none⟩ = some (.pointer (some ⟨d.R ip, 0, none⟩))) (go_keep) (first | (go_at_call 37; refine Calls.mono (CK.out _) ?_; rintro e wx ⟨rfl, hw⟩; rw [hw]; clear hw wx))
  all_goals
    have hb2 : Below w.heap.size w ((w.alloc (.cells #[.int .i64 kk, .int .i64 kw, .string name, .int .i64 A, .int .i64 B, .int .i64 C, lv] 56)).alloc (.cells #[.pointer (some ⟨d.B ip, 0, none⟩), .pointer (some ⟨d.R ip, 0, none⟩)] 94)).drew := ((((Grew.refl w).alloc _).alloc _).drew).below
    have hx1 : ((w.alloc (.cells #[.int .i64 kk, .int .i64 kw, .string name, .int .i64 A, .int .i64 B, .int .i64 C, lv] 56)).alloc (.cells #[.pointer (some ⟨d.B ip, 0, none⟩), .pointer (some ⟨d.R ip, 0, none⟩)] 94)).drew.heap[w.heap.size]? = some (.cells #[.int .i64 kk, .int .i64 kw, .string name, .int .i64 A, .int .i64 B, .int .i64 C, lv] 56 (0, 0)) := Grew.blk ((Grew.refl _).alloc _).drew (heap_alloc_new w _)
    have hx2 : ((w.alloc (.cells #[.int .i64 kk, .int .i64 kw, .string name, .int .i64 A, .int .i64 B, .int .i64 C, lv] 56)).alloc (.cells #[.pointer (some ⟨d.B ip, 0, none⟩), .pointer (some ⟨d.R ip, 0, none⟩)] 94)).drew.heap[w.heap.size + 1]? = some (.cells #[.pointer (some ⟨d.B ip, 0, none⟩), .pointer (some ⟨d.R ip, 0, none⟩)] 94 (0, 0)) := by
      have := heap_alloc_new (w.alloc (.cells #[.int .i64 kk, .int .i64 kw, .string name, .int .i64 A, .int .i64 B, .int .i64 C, lv] 56)) (.cells #[.pointer (some ⟨d.B ip, 0, none⟩), .pointer (some ⟨d.R ip, 0, none⟩)] 94)
      rwa [World.size_alloc] at this
    obtain ⟨W2, hW2⟩ : ∃ W2, ((w.alloc (.cells #[.int .i64 kk, .int .i64 kw, .string name, .int .i64 A, .int .i64 B, .int .i64 C, lv] 56)).alloc (.cells #[.pointer (some ⟨d.B ip, 0, none⟩), .pointer (some ⟨d.R ip, 0, none⟩)] 94)).drew = W2 := ⟨_, rfl⟩
    rw [hW2] at hb2 hx1 hx2 ⊢
    clear hW2 cL' q0' q1' hga cL q0 q1
  all_goals
    have a0 := blk_cell' hx1 (o := 0) rfl
  go_wp2
  all_goals go_ret
  all_goals exact ⟨rfl, d, HL.out.mv hb2, ⟨⟨Nat.le_refl _, Nat.le_succ _⟩, Nat.le_add_right _ _, Nat.le_add_right _ _, Nat.le_succ _⟩, Turn.of_below hb2⟩
end Go.Proofs.YtjnmoddcodnadaaGreatDoor
namespace Go.Proofs.YtjnmoddcodnadaaGreatDoor
open Go.RowKit Go.Annal Go.Sort
theorem DocAt.kinds {w : World} {R : Nat} {s : St} {ada ade : Option Addr} {ca ce : Nat} {gl cl : Nat → Nat} (h : DocAt w R s ada ade ca ce gl cl) {ga : Nat} (hA : AccsAt w R ga ca s.na ada s.fn) : ∀ i, i < s.na → w.cell? ⟨ga, i * 2 + 1, none⟩ = some (.int .i64 (s.kd i)) := fun i hi => by
  have ha := h.ac
  rw [hA.hA (by omega)] at ha
  rw [ha.cellAt (i * 2 + 1) (by omega)]
  exact flat_get 2 (fun i => [Value.string (s.fn i), .int .i64 (s.kd i)]) (fun _ => rfl) s.na i 1 hi (by omega)
theorem DocAt.lines {w : World} {R : Nat} {s : St} {ada ade : Option Addr} {ca ce : Nat} {gl cl : Nat → Nat} (h : DocAt w R s ada ade ca ce gl cl) {e : Nat} (he : e < s.ne) : LinesAt w (gl e) 0 (s.ln e) (s.la e) (s.lm e) :=
  ⟨fun j hj => by rw [Nat.zero_add, (h.li e he).cellAt (j * 2) (by omega)]; exact lineCells_a _ _ _ _ hj, fun j hj => by rw [Nat.zero_add, (h.li e he).cellAt (j * 2 + 1) (by omega)]; exact lineCells_m _ _ _ _ hj⟩
/-- Reverse of the document's book. -/
theorem docRev (R : Nat) (s : St) (Fd : Nat → Prop) (entry : Int) (w : World) (h : DocIs w R s Fd) (ho : s.Ok) :
    Calls Tryz.prog 42 #[.pointer (some ⟨R, 0, none⟩), .int .i64 entry] w fun r w' => r = .returned (.tuple #[.int .i64 (s.revN entry), .int .i64 (s.revE entry)]) ∧ ∃ Fd', DocIs w' R (s.afterRev entry) Fd' ∧ Turn Fd w w' ∧ ∀ k, Fd' k → Fd k ∨ w.heap.size ≤ k := by
  have hkeep : ∀ w', Below w.heap.size w w' → s.revE entry ≠ 0 → ∃ Fd', DocIs w' R (s.afterRev entry) Fd' ∧ Turn Fd w w' ∧ ∀ k, Fd' k → Fd k ∨ w.heap.size ≤ k := fun w' hb he => by
    refine ⟨Fd, ?_, Turn.of_below hb, fun k hk => .inl hk⟩
    unfold St.afterRev
    rw [if_neg he]
    exact h.turn (S := fun _ => False) (Turn.of_below hb) (fun _ _ h => h)
  have hN : s.revE entry ≠ 0 → s.revN entry = 0 := fun he => by unfold St.revN; rw [if_neg he]
  obtain ⟨ada, ade, ca, ce, gl, cl, h1, h2⟩ := id h
  have hne := ho.ne
  have hna := ho.na
  have hlk := ho.lk
  have htx := h1.tx
  by_cases hin : 1 ≤ entry ∧ entry ≤ s.ne
  · obtain ⟨e, rfl⟩ : ∃ e : Nat, entry = (e : Int) + 1 := ⟨(entry - 1).toNat, by omega⟩
    have he : e < s.ne := by omega
    have hx : ((e : Int) + 1 - 1).toNat = e := by omega
    have hE : s.revE ((e : Int) + 1) = Go.Annal.revE true (s.gn e) (decide (9999 < revDay (s.dy e) s.lk)) (decide (60 ≤ s.ne)) := by
      unfold St.revE; rw [hx, decide_eq_true hin]
    obtain ⟨ge, rfl⟩ : ∃ ge, ade = some ⟨ge, 0, none⟩ := by
      rcases h1.en.2 with ⟨_, h0⟩ | ⟨g, cap, cur, e1, _⟩
      · omega
      · injection e1 with e1; exact ⟨g, e1⟩
    have cell : ∀ o, o < 3 → w.cell? ⟨ge, e * 3 + o, none⟩ = ([Value.int .i64 (s.dy e), .slice (some ⟨gl e, 0, none⟩) (s.ln e) (cl e), .bool (s.gn e)])[o]? := fun o ho' => by
      rw [h1.en.cellAt (e * 3 + o) (by omega)]
      exact flat_get 3 (fun i => [Value.int .i64 (s.dy i), .slice (some ⟨gl i, 0, none⟩) (s.ln i) (cl i), .bool (s.gn i)]) (fun _ => rfl) s.ne e o he ho'
    have cd : w.cell? ⟨ge, e * 3, none⟩ = some (.int .i64 (s.dy e)) := cell 0 (by omega)
    have cl' : w.cell? ⟨ge, e * 3 + 1, none⟩ = some (.slice (some ⟨gl e, 0, none⟩) (s.ln e) (cl e)) := cell 1 (by omega)
    have cg : w.cell? ⟨ge, e * 3 + 2, none⟩ = some (.bool (s.gn e)) := cell 2 (by omega)
    by_cases hz : s.revE ((e : Int) + 1) = 0
    · have hz' : s.gn e = false ∧ ¬ 9999 < revDay (s.dy e) s.lk ∧ s.ne < 60 := by
        have h0 := hE ▸ hz
        unfold Go.Annal.revE at h0
        cases hg : s.gn e
        · rw [hg] at h0
          by_cases hd : 9999 < revDay (s.dy e) s.lk
          · rw [decide_eq_true hd] at h0; simp at h0
          · rw [decide_eq_false hd] at h0
            by_cases hf : 60 ≤ s.ne
            · rw [decide_eq_true hf] at h0; simp at h0
            · exact ⟨rfl, hd, by omega⟩
        · rw [hg] at h0; simp at h0
      rw [hz'.1] at cg
      have hlc : s.ln e ≤ cl e := by
        obtain ⟨ad, c, g, e1, hc, _⟩ := owns_view' (h1.li e he)
        injection e1 with _ _ e3
        omega
      have hln := ho.ln e he
      refine (ReverseR_ok R s.ne ce e ge (gl e) (s.ln e) (cl e) _ s.lk (s.dy e) s.tx _ (s.la e) (s.lm e) w h1.bk h1.en he hz'.2.2 cd cl' cg hlk (h1.lines he) (ho.l1 e he) (by omega) hlc (ho.bd e he) (by omega) hz'.2.1).mono ?_
      rintro r w' ⟨rfl, g, cap', gl', cl2, hR', hown', hli', hT, hg⟩
      have hdl := digZ_len ((e : Int) + 1)
      refine ⟨by rw [hz]; unfold St.revN; rw [if_pos hz]; rfl, ?_⟩
      unfold St.afterRev
      rw [if_pos hz, hx]
      refine doc_entered h1 h2 hR' (by rw [entCells_snoc, ← entCells_set _ _ _ _ _ _ _ he]; exact hown') hli' (hT.mono (fun k _ hk => hk.imp id (fun h => by rw [h]; rfl))) (hg.imp (fun h => by rw [h]; rfl) id) ?_
      simp only [ByteArray.size_append, sz_arr, List.size_toArray, List.length_cons, List.length_nil]
      omega
    · refine (ReverseR_err R s.ne ce e ge (gl e) (s.ln e) (cl e) _ _ s.lk (s.dy e) (s.gn e) w h1.bk he (by omega) cd cl' cg hlk (hE ▸ hz)).mono ?_
      rintro r w' ⟨rfl, hb⟩
      exact ⟨by rw [hN hz, hE], hkeep _ hb hz⟩
  · have hE : s.revE entry = 7 := by unfold St.revE; rw [decide_eq_false hin]; rfl
    refine (ReverseR_none R s.ne ce ade _ _ _ entry w h1.bk (by omega)).mono ?_
    rintro r w' ⟨rfl, hb⟩
    exact ⟨by rw [hN (by rw [hE]; decide), hE], hkeep _ hb (by rw [hE]; decide)⟩
/-- Close of the document's book. -/
theorem docClose (R : Nat) (s : St) (Fd : Nat → Prop) (day : Int) (into : ByteArray) (w : World) (h : DocIs w R s Fd) (ho : s.Ok) (hin : into.size ≤ 1000000000) :
    Calls Tryz.prog 44 #[.pointer (some ⟨R, 0, none⟩), .int .i64 day, .string into] w fun r w' => r = .returned (.tuple #[.int .i64 (s.closeN day into), .int .i64 (s.closeE day into)]) ∧ ∃ Fd', DocIs w' R (s.afterClose day into) Fd' ∧ Turn Fd w w' ∧ ∀ k, Fd' k → Fd k ∨ w.heap.size ≤ k := by
  have hkeep : ∀ w', Below w.heap.size w w' → s.closeE day into ≠ 0 → ∃ Fd', DocIs w' R (s.afterClose day into) Fd' ∧ Turn Fd w w' ∧ ∀ k, Fd' k → Fd k ∨ w.heap.size ≤ k := fun w' hb he => by
    refine ⟨Fd, ?_, Turn.of_below hb, fun k hk => .inl hk⟩
    unfold St.afterClose
    rw [if_neg he]
    exact h.turn (S := fun _ => False) (Turn.of_below hb) (fun _ _ h => h)
  have hN : s.closeE day into ≠ 0 → s.closeN day into = 0 := fun he => by unfold St.closeN; rw [if_neg he]
  obtain ⟨ada, ade, ca, ce, gl, cl, h1, h2⟩ := id h
  have hne := ho.ne
  have hna := ho.na
  have hlk := ho.lk
  have htx := h1.tx
  obtain ⟨ga, hA⟩ := h1.accs ho
  obtain ⟨ge, hEn⟩ := h1.ents ho
  have hat : atI s.fn s.na into < s.na ∨ s.na = 0 ∧ atI s.fn s.na into < 0 := by
    by_cases h0 : 0 ≤ atI s.fn s.na into
    · have := (atI_at s.fn s.na into h0).1; left; omega
    · by_cases h3 : s.na = 0
      · right; exact ⟨h3, by omega⟩
      · left; omega
  have hat' : atI s.fn s.na into < s.na := by omega
  by_cases hF : s.closeF day into = 0
  · obtain ⟨f1, f2, f3, f4⟩ := closeE1_zero hF
    have g2 : 0 ≤ atI s.fn s.na into := by simpa using f2
    have g3 : ¬ s.kd (atI s.fn s.na into).toNat = 1 := by simpa using f3
    have g4 : ¬ day ≤ s.lk := by simpa using f4
    have hE : s.closeE day into = closeE2 (s.closeL0 day).isEmpty (decide (60 ≤ s.ne)) := by unfold St.closeE; rw [if_neg (by simpa using hF)]
    refine (CloseR_any R ga ca s.na ge ce s.ne ada ade s.fn s.kd s.dy gl s.ln cl s.la s.lm s.tx _ s.lk day into w h1.bk hA (h1.kinds hA) hEn h1.en f1 g2 hat' g3 g4 hna hne hin (by omega) (s.closeL0 day) (s.closeS day) rfl rfl).mono ?_
    rintro r w' ⟨q1, q2⟩
    by_cases hz : closeE2 (s.closeL0 day).isEmpty (decide (60 ≤ s.ne)) = 0
    · obtain ⟨rfl, g, cap', gl', cl2, L', rfl, hR', hown', hli', hT, hg⟩ := q2 hz
      have hz' : s.closeE day into = 0 := by rw [hE, hz]
      have hdl := digZ_len day
      have hd0 : 0 ≤ day := by unfold dayB at f1; simp at f1; omega
      refine ⟨by rw [hz']; unfold St.closeN; rw [if_pos hz']; rfl, ?_⟩
      unfold St.afterClose
      rw [if_pos hz']
      refine doc_entered h1 h2 hR' (by rw [entCells_snoc]; exact hown') (xa := lnA (s.closeLs day into)) (xm := lnM (s.closeLs day into)) ?_ hT hg ?_
      · rw [lineCells_ofL]; exact hli'
      · simp only [ByteArray.size_append, sz_arr, List.size_toArray, List.length_cons, List.length_nil]
        omega
    · obtain ⟨rfl, hb⟩ := q1 hz
      have hz' : s.closeE day into ≠ 0 := by rw [hE]; exact hz
      exact ⟨by rw [hN hz', hE], hkeep _ hb hz'⟩
  · have hE : s.closeE day into = s.closeF day into := by unfold St.closeE; rw [if_pos hF]
    refine (CloseR_err1 R ga ca s.na s.ne ce ada ade s.fn s.kd _ s.lk day into w h1.bk hA (h1.kinds hA) hF hat').mono ?_
    rintro r w' ⟨rfl, rfl⟩
    exact ⟨by rw [hN (by rw [hE]; exact hF), hE]; rfl, hkeep _ (Below.refl _ _) (by rw [hE]; exact hF)⟩
end Go.Proofs.YtjnmoddcodnadaaGreatDoor
namespace Go.Proofs.YtjnmoddcodnadaaGreatDoor
open Go.RowKit Go.Annal Go.Sort
set_option maxHeartbeats 4000000 in
set_option maxRecDepth 100000 in
theorem step_reverse (H L : Nat) (d : Ls) (kw A B C : Int) (name : ByteArray) (lv : Value) (w : World) (h : LawIs H w L d) (hnb : d.nb ≤ 100000000) (hn0 : 0 < d.nb) (h1 : -9223372036854775808 ≤ kw) (h2 : kw ≤ 9223372036854775807) :
    Calls Tryz.prog 17 #[.pointer (some ⟨L, 0, none⟩), .agg #[.int .i64 7, .int .i64 kw, .string name, .int .i64 A, .int .i64 B, .int .i64 C, lv]] w fun r w' => r = .returned (.bool true) ∧ ∃ d', LawIs H w' L d' ∧ Ls.Grows d d' ∧ Turn (fun b => H ≤ b) w w' := by
  have HL : Hid (LawIs H w L d) := h
  obtain ⟨ip, hip⟩ : ∃ ip : Nat, pickI kw d.nb = ip := ⟨(pickI kw d.nb).toNat, by have := pick_lt kw d.nb hn0; omega⟩
  have hipl : ip < d.nb := by have := pick_lt kw d.nb hn0; omega
  have CK : Hid (∀ W, Calls Tryz.prog 37 #[.int .i64 kw, .int .i64 d.nb] W fun r w' => r = .returned (.int .i64 ip) ∧ w' = W) := fun W => by
    have := pick_any kw d.nb W h1 h2 (by omega) (by omega)
    rw [hip] at this
    exact this
  obtain ⟨adb, cb, gb, eb, hcb, hab, hbc⟩ := owns_view h.rb
  obtain ⟨rfl, _, _⟩ := hab (by omega)
  have cL := blk_cell' h.bk (o := 0) rfl
  rw [eb] at cL
  have q0 : w.cell? ⟨gb, ip * 2, none⟩ = some (.pointer (some ⟨d.B ip, 0, none⟩)) := by
    rw [hbc (ip * 2) (by omega)]
    exact flat_get 2 (fun i => [Value.pointer (some ⟨d.B i, 0, none⟩), .pointer (some ⟨d.R i, 0, none⟩)]) (fun _ => rfl) d.nb ip 0 hipl (by omega)
  have q1 : w.cell? ⟨gb, ip * 2 + 1, none⟩ = some (.pointer (some ⟨d.R ip, 0, none⟩)) := by
    rw [hbc (ip * 2 + 1) (by omega)]
    exact flat_get 2 (fun i => [Value.pointer (some ⟨d.B i, 0, none⟩), .pointer (some ⟨d.R i, 0, none⟩)]) (fun _ => rfl) d.nb ip 1 hipl (by omega)
  have hi1 : (0 : Int) ≤ (ip : Int) := by omega
  have hi2 : (ip : Int) < (d.nb : Int) := by omega
  have hn1 : ¬ (d.nb : Int) = 0 := by omega
  clear h hbc eb hip
  have hga : Grew w (w.alloc (.cells #[.int .i64 7, .int .i64 kw, .string name, .int .i64 A, .int .i64 B, .int .i64 C, lv] 56)) := (Grew.refl w).alloc _
  have cL' := hga.cell' cL
  have q0' := hga.cell' q0
  have q1' := hga.cell' q1
  go_enter Tryz.func17, Tryz.ntmps17
  go_wp2_with (first
    | (go_at_call 37; refine Calls.mono (CK.out _) ?_; rintro e wx ⟨rfl, hw⟩; rw [hw]; clear hw wx))
  have hne1 : L ≠ w.heap.size := by have := blk_lt HL.out.bk; omega
  go_region_held3 (fun w' => w'.cell? ⟨L, 0, none⟩ = some (.slice (some ⟨gb, 0, none⟩) d.nb cb) ∧ w'.cell? ⟨w.heap.size, 1, none⟩ = some (.int .i64 kw) ∧ w'.cell? ⟨gb, ip * 2, none⟩ = some (.pointer (some ⟨d.B ip, 0, none⟩)) ∧ w'.cell? ⟨gb, ip * 2 + 1, none⟩ = some (.pointer (some ⟨d.R ip, 0, none⟩))) (go_keep) (first | (go_at_call 37; refine Calls.mono (CK.out _) ?_; rintro e wx ⟨rfl, hw⟩; rw [hw]; clear hw wx))
  all_goals
    have hb2 : Below w.heap.size w ((w.alloc (.cells #[.int .i64 7, .int .i64 kw, .string name, .int .i64 A, .int .i64 B, .int .i64 C, lv] 56)).alloc (.cells #[.pointer (some ⟨d.B ip, 0, none⟩), .pointer (some ⟨d.R ip, 0, none⟩)] 94)).drew := ((((Grew.refl w).alloc _).alloc _).drew).below
    have hx1 : ((w.alloc (.cells #[.int .i64 7, .int .i64 kw, .string name, .int .i64 A, .int .i64 B, .int .i64 C, lv] 56)).alloc (.cells #[.pointer (some ⟨d.B ip, 0, none⟩), .pointer (some ⟨d.R ip, 0, none⟩)] 94)).drew.heap[w.heap.size]? = some (.cells #[.int .i64 7, .int .i64 kw, .string name, .int .i64 A, .int .i64 B, .int .i64 C, lv] 56 (0, 0)) := Grew.blk ((Grew.refl _).alloc _).drew (heap_alloc_new w _)
    have hx2 : ((w.alloc (.cells #[.int .i64 7, .int .i64 kw, .string name, .int .i64 A, .int .i64 B, .int .i64 C, lv] 56)).alloc (.cells #[.pointer (some ⟨d.B ip, 0, none⟩), .pointer (some ⟨d.R ip, 0, none⟩)] 94)).drew.heap[w.heap.size + 1]? = some (.cells #[.pointer (some ⟨d.B ip, 0, none⟩), .pointer (some ⟨d.R ip, 0, none⟩)] 94 (0, 0)) := by
      have := heap_alloc_new (w.alloc (.cells #[.int .i64 7, .int .i64 kw, .string name, .int .i64 A, .int .i64 B, .int .i64 C, lv] 56)) (.cells #[.pointer (some ⟨d.B ip, 0, none⟩), .pointer (some ⟨d.R ip, 0, none⟩)] 94)
      rwa [World.size_alloc] at this
    obtain ⟨W2, hW2⟩ : ∃ W2, ((w.alloc (.cells #[.int .i64 7, .int .i64 kw, .string name, .int .i64 A, .int .i64 B, .int .i64 C, lv] 56)).alloc (.cells #[.pointer (some ⟨d.B ip, 0, none⟩), .pointer (some ⟨d.R ip, 0, none⟩)] 94)).drew = W2 := ⟨_, rfl⟩
    rw [hW2] at hb2 hx1 hx2 ⊢
    clear hW2 cL' q0' q1' hga cL q0 q1
  all_goals
    have a0 := blk_cell' hx1 (o := 0) rfl
    have a2 := blk_cell' hx1 (o := 2) rfl
    have a3 := blk_cell' hx1 (o := 3) rfl
    have b0 := blk_cell' hx2 (o := 0) rfl
    have b1 := blk_cell' hx2 (o := 1) rfl
    have C1 : Hid (type_of% (progRev (d.B ip) (d.st ip) (d.Fp ip) A W2 ((HL.out.mv hb2).pr ip hipl) (HL.out.ok ip hipl))) := progRev (d.B ip) (d.st ip) (d.Fp ip) A W2 ((HL.out.mv hb2).pr ip hipl) (HL.out.ok ip hipl)
    have C2 : Hid (∀ W, Turn (d.Fp ip) W2 W → Calls Tryz.prog 42 #[.pointer (some ⟨d.R ip, 0, none⟩), .int .i64 A] W fun r w' => r = .returned (.tuple #[.int .i64 ((d.st ip).revN A), .int .i64 ((d.st ip).revE A)]) ∧ ∃ Fd', DocIs w' (d.R ip) ((d.st ip).afterRev A) Fd' ∧ Turn (d.Fd ip) W w' ∧ ∀ k, Fd' k → d.Fd ip k ∨ W.heap.size ≤ k) := fun W hW => docRev (d.R ip) (d.st ip) (d.Fd ip) A W (((HL.out.mv hb2).dc ip hipl).turn hW (fun k hk hp => HL.out.pd ip ip k hipl hipl hp hk)) (HL.out.ok ip hipl)
    have hnp : ∀ k, w.heap.size ≤ k → ¬ d.Fp ip k := fun k hk h => by have := HL.out.plt hipl h; omega
    generalize hpn : (d.st ip).revN A = pn at C1 C2
    generalize hpe : (d.st ip).revE A = pe at C1 C2
    clear hpe
    clear hpn
  go_wp2_with (first
    | (go_at_call 30; refine Calls.mono C1.out ?_; rintro e w3 ⟨rfl, Fp', hP', hTp, hFp'⟩; have hy1 := hTp.blk hx1 (hnp _ (Nat.le_refl _)); have hy2 := hTp.blk hx2 (hnp _ (Nat.le_succ _)); have c2 := blk_cell' hy1 (o := 2) rfl; have c3 := blk_cell' hy1 (o := 3) rfl; have d1 := blk_cell' hy2 (o := 1) rfl)
    | (go_at_call 42; refine Calls.mono (C2.out _ hTp) ?_; rintro e w4 ⟨rfl, Fd', hD', hTd, hFd'⟩)
    | (go_at_call 40; refine Calls.mono (num_any _ _) ?_; rintro e wx ⟨rfl, hw⟩; rw [hw]; clear hw wx))
  all_goals go_ret
  all_goals
    have hwt : Turn (stepS d ip L) w w4 := (Turn.of_below hb2).trans ((hTp.mono (fun _ _ h => .inl h)).trans (hTd.mono (fun _ _ h => .inr (.inl h))))
    have hT2 : Turn (fun b => d.Fp ip b ∨ d.Fd ip b) w w4 := (Turn.of_below hb2).trans ((hTp.mono (fun _ _ h => .inl h)).trans (hTd.mono (fun _ _ h => .inr h)))
    have hL4 := hT2.blk HL.out.bk (fun hs => hs.elim (prog_not (HL.out.pr ip hipl) HL.out.bk (by decide)) (doc_not (HL.out.dc ip hipl) HL.out.bk (by decide)))
    have hrt4 := owns_turn HL.out.rt hT2 (fun g e hs => by
      obtain ⟨c, fz, hc⟩ := owns_kind HL.out.rt g e
      exact hs.elim (prog_not (HL.out.pr ip hipl) hc (by decide)) (doc_not (HL.out.dc ip hipl) hc (by decide)))
    have hD3 : DocIs w3 (d.R ip) (d.st ip) (d.Fd ip) := ((HL.out.mv hb2).dc ip hipl).turn hTp (fun k hk hp => HL.out.pd ip ip k hipl hipl hp hk)
    have hP4 := hP'.turn hTd (fun k hk hk' => (hFp' k hk).elim (fun h => HL.out.pd ip ip k hipl hipl h hk') (fun h => by have := HL.out.dlt hipl hk'; have := hb2.size; omega))
    have hbs := hb2.size
    have hps := hTp.size
    have hFp4 : ∀ k, Fp' k → d.Fp ip k ∨ w.heap.size ≤ k := fun k hk => (hFp' k hk).imp id (fun h => by omega)
    have hFd4 : ∀ k, Fd' k → d.Fd ip k ∨ w.heap.size ≤ k := fun k hk => (hFd' k hk).imp id (fun h => by omega)
    have hPD4 : ∀ k, Fp' k → ¬ Fd' k := fun k hk hk' => by
      rcases hFd' k hk' with h | h
      · rcases hFp' k hk with h' | h'
        · exact HL.out.pd ip ip k hipl hipl h' h
        · have := HL.out.dlt hipl h; omega
      · have := hP'.lt hk; omega
    exact ⟨rfl, d.turned ip ((d.st ip).afterRev A) Fp' Fd' d.nt d.tv d.vt, HL.out.pairStep hipl hwt hL4 hrt4 (fun b e => .inl e) hP4 hD' (St.afterRev_ok (HL.out.ok ip hipl) _) hFp4 hFd4 hPD4 (HL.out.lentOn hipl hwt hFp4 hFd4), ⟨⟨Nat.le_refl _, Nat.le_succ _⟩, Nat.le_add_right _ _, Nat.le_add_right _ _, Nat.le_succ _⟩, hwt.mono (fun k _ hk => HL.out.stepH hipl k hk)⟩
end Go.Proofs.YtjnmoddcodnadaaGreatDoor
namespace Go.Proofs.YtjnmoddcodnadaaGreatDoor
open Go.RowKit Go.Annal Go.Sort
set_option maxHeartbeats 4000000 in
set_option maxRecDepth 100000 in
theorem step_locks (H L : Nat) (d : Ls) (kw A B C : Int) (name : ByteArray) (lv : Value) (w : World) (h : LawIs H w L d) (hnb : d.nb ≤ 100000000) (hn0 : 0 < d.nb) (h1 : -9223372036854775808 ≤ kw) (h2 : kw ≤ 9223372036854775807) :
    Calls Tryz.prog 17 #[.pointer (some ⟨L, 0, none⟩), .agg #[.int .i64 8, .int .i64 kw, .string name, .int .i64 A, .int .i64 B, .int .i64 C, lv]] w fun r w' => r = .returned (.bool true) ∧ ∃ d', LawIs H w' L d' ∧ Ls.Grows d d' ∧ Turn (fun b => H ≤ b) w w' := by
  have HL : Hid (LawIs H w L d) := h
  obtain ⟨ip, hip⟩ : ∃ ip : Nat, pickI kw d.nb = ip := ⟨(pickI kw d.nb).toNat, by have := pick_lt kw d.nb hn0; omega⟩
  have hipl : ip < d.nb := by have := pick_lt kw d.nb hn0; omega
  have CK : Hid (∀ W, Calls Tryz.prog 37 #[.int .i64 kw, .int .i64 d.nb] W fun r w' => r = .returned (.int .i64 ip) ∧ w' = W) := fun W => by
    have := pick_any kw d.nb W h1 h2 (by omega) (by omega)
    rw [hip] at this
    exact this
  obtain ⟨adb, cb, gb, eb, hcb, hab, hbc⟩ := owns_view h.rb
  obtain ⟨rfl, _, _⟩ := hab (by omega)
  have cL := blk_cell' h.bk (o := 0) rfl
  rw [eb] at cL
  have q0 : w.cell? ⟨gb, ip * 2, none⟩ = some (.pointer (some ⟨d.B ip, 0, none⟩)) := by
    rw [hbc (ip * 2) (by omega)]
    exact flat_get 2 (fun i => [Value.pointer (some ⟨d.B i, 0, none⟩), .pointer (some ⟨d.R i, 0, none⟩)]) (fun _ => rfl) d.nb ip 0 hipl (by omega)
  have q1 : w.cell? ⟨gb, ip * 2 + 1, none⟩ = some (.pointer (some ⟨d.R ip, 0, none⟩)) := by
    rw [hbc (ip * 2 + 1) (by omega)]
    exact flat_get 2 (fun i => [Value.pointer (some ⟨d.B i, 0, none⟩), .pointer (some ⟨d.R i, 0, none⟩)]) (fun _ => rfl) d.nb ip 1 hipl (by omega)
  have hi1 : (0 : Int) ≤ (ip : Int) := by omega
  have hi2 : (ip : Int) < (d.nb : Int) := by omega
  have hn1 : ¬ (d.nb : Int) = 0 := by omega
  clear h hbc eb hip
  have hga : Grew w (w.alloc (.cells #[.int .i64 8, .int .i64 kw, .string name, .int .i64 A, .int .i64 B, .int .i64 C, lv] 56)) := (Grew.refl w).alloc _
  have cL' := hga.cell' cL
  have q0' := hga.cell' q0
  have q1' := hga.cell' q1
  go_enter Tryz.func17, Tryz.ntmps17
  go_wp2_with (first
    | (go_at_call 37; refine Calls.mono (CK.out _) ?_; rintro e wx ⟨rfl, hw⟩; rw [hw]; clear hw wx))
  have hne1 : L ≠ w.heap.size := by have := blk_lt HL.out.bk; omega
  go_region_held3 (fun w' => w'.cell? ⟨L, 0, none⟩ = some (.slice (some ⟨gb, 0, none⟩) d.nb cb) ∧ w'.cell? ⟨w.heap.size, 1, none⟩ = some (.int .i64 kw) ∧ w'.cell? ⟨gb, ip * 2, none⟩ = some (.pointer (some ⟨d.B ip, 0, none⟩)) ∧ w'.cell? ⟨gb, ip * 2 + 1, none⟩ = some (.pointer (some ⟨d.R ip, 0, none⟩))) (go_keep) (first | (go_at_call 37; refine Calls.mono (CK.out _) ?_; rintro e wx ⟨rfl, hw⟩; rw [hw]; clear hw wx))
  all_goals
    have hb2 : Below w.heap.size w ((w.alloc (.cells #[.int .i64 8, .int .i64 kw, .string name, .int .i64 A, .int .i64 B, .int .i64 C, lv] 56)).alloc (.cells #[.pointer (some ⟨d.B ip, 0, none⟩), .pointer (some ⟨d.R ip, 0, none⟩)] 94)).drew := ((((Grew.refl w).alloc _).alloc _).drew).below
    have hx1 : ((w.alloc (.cells #[.int .i64 8, .int .i64 kw, .string name, .int .i64 A, .int .i64 B, .int .i64 C, lv] 56)).alloc (.cells #[.pointer (some ⟨d.B ip, 0, none⟩), .pointer (some ⟨d.R ip, 0, none⟩)] 94)).drew.heap[w.heap.size]? = some (.cells #[.int .i64 8, .int .i64 kw, .string name, .int .i64 A, .int .i64 B, .int .i64 C, lv] 56 (0, 0)) := Grew.blk ((Grew.refl _).alloc _).drew (heap_alloc_new w _)
    have hx2 : ((w.alloc (.cells #[.int .i64 8, .int .i64 kw, .string name, .int .i64 A, .int .i64 B, .int .i64 C, lv] 56)).alloc (.cells #[.pointer (some ⟨d.B ip, 0, none⟩), .pointer (some ⟨d.R ip, 0, none⟩)] 94)).drew.heap[w.heap.size + 1]? = some (.cells #[.pointer (some ⟨d.B ip, 0, none⟩), .pointer (some ⟨d.R ip, 0, none⟩)] 94 (0, 0)) := by
      have := heap_alloc_new (w.alloc (.cells #[.int .i64 8, .int .i64 kw, .string name, .int .i64 A, .int .i64 B, .int .i64 C, lv] 56)) (.cells #[.pointer (some ⟨d.B ip, 0, none⟩), .pointer (some ⟨d.R ip, 0, none⟩)] 94)
      rwa [World.size_alloc] at this
    obtain ⟨W2, hW2⟩ : ∃ W2, ((w.alloc (.cells #[.int .i64 8, .int .i64 kw, .string name, .int .i64 A, .int .i64 B, .int .i64 C, lv] 56)).alloc (.cells #[.pointer (some ⟨d.B ip, 0, none⟩), .pointer (some ⟨d.R ip, 0, none⟩)] 94)).drew = W2 := ⟨_, rfl⟩
    rw [hW2] at hb2 hx1 hx2 ⊢
    clear hW2 cL' q0' q1' hga cL q0 q1
  all_goals
    have a0 := blk_cell' hx1 (o := 0) rfl
    have a2 := blk_cell' hx1 (o := 2) rfl
    have a3 := blk_cell' hx1 (o := 3) rfl
    have b0 := blk_cell' hx2 (o := 0) rfl
    have b1 := blk_cell' hx2 (o := 1) rfl
    have C1 : Hid (type_of% (progLock (d.B ip) (d.st ip) (d.Fp ip) A W2 ((HL.out.mv hb2).pr ip hipl) (HL.out.ok ip hipl))) := progLock (d.B ip) (d.st ip) (d.Fp ip) A W2 ((HL.out.mv hb2).pr ip hipl) (HL.out.ok ip hipl)
    have C2 : Hid (∀ W, Turn (d.Fp ip) W2 W → Calls Tryz.prog 43 #[.pointer (some ⟨d.R ip, 0, none⟩), .int .i64 A] W fun r w' => r = .returned (.int .i64 ((d.st ip).lockE A)) ∧ ∃ Fd', DocIs w' (d.R ip) ((d.st ip).afterLock A) Fd' ∧ Turn (d.Fd ip) W w' ∧ ∀ k, Fd' k → d.Fd ip k ∨ W.heap.size ≤ k) := fun W hW => docLock (d.R ip) (d.st ip) (d.Fd ip) A W (((HL.out.mv hb2).dc ip hipl).turn hW (fun k hk hp => HL.out.pd ip ip k hipl hipl hp hk)) (HL.out.ok ip hipl)
    have hnp : ∀ k, w.heap.size ≤ k → ¬ d.Fp ip k := fun k hk h => by have := HL.out.plt hipl h; omega
    generalize hpe : (d.st ip).lockE A = pe at C1 C2
    clear hpe
  go_wp2_with (first
    | (go_at_call 31; refine Calls.mono C1.out ?_; rintro e w3 ⟨rfl, Fp', hP', hTp, hFp'⟩; have hy1 := hTp.blk hx1 (hnp _ (Nat.le_refl _)); have hy2 := hTp.blk hx2 (hnp _ (Nat.le_succ _)); have c2 := blk_cell' hy1 (o := 2) rfl; have c3 := blk_cell' hy1 (o := 3) rfl; have d1 := blk_cell' hy2 (o := 1) rfl)
    | (go_at_call 43; refine Calls.mono (C2.out _ hTp) ?_; rintro e w4 ⟨rfl, Fd', hD', hTd, hFd'⟩)
    | (go_at_call 40; refine Calls.mono (num_any _ _) ?_; rintro e wx ⟨rfl, hw⟩; rw [hw]; clear hw wx))
  all_goals go_ret
  all_goals
    have hwt : Turn (stepS d ip L) w w4 := (Turn.of_below hb2).trans ((hTp.mono (fun _ _ h => .inl h)).trans (hTd.mono (fun _ _ h => .inr (.inl h))))
    have hT2 : Turn (fun b => d.Fp ip b ∨ d.Fd ip b) w w4 := (Turn.of_below hb2).trans ((hTp.mono (fun _ _ h => .inl h)).trans (hTd.mono (fun _ _ h => .inr h)))
    have hL4 := hT2.blk HL.out.bk (fun hs => hs.elim (prog_not (HL.out.pr ip hipl) HL.out.bk (by decide)) (doc_not (HL.out.dc ip hipl) HL.out.bk (by decide)))
    have hrt4 := owns_turn HL.out.rt hT2 (fun g e hs => by
      obtain ⟨c, fz, hc⟩ := owns_kind HL.out.rt g e
      exact hs.elim (prog_not (HL.out.pr ip hipl) hc (by decide)) (doc_not (HL.out.dc ip hipl) hc (by decide)))
    have hD3 : DocIs w3 (d.R ip) (d.st ip) (d.Fd ip) := ((HL.out.mv hb2).dc ip hipl).turn hTp (fun k hk hp => HL.out.pd ip ip k hipl hipl hp hk)
    have hP4 := hP'.turn hTd (fun k hk hk' => (hFp' k hk).elim (fun h => HL.out.pd ip ip k hipl hipl h hk') (fun h => by have := HL.out.dlt hipl hk'; have := hb2.size; omega))
    have hbs := hb2.size
    have hps := hTp.size
    have hFp4 : ∀ k, Fp' k → d.Fp ip k ∨ w.heap.size ≤ k := fun k hk => (hFp' k hk).imp id (fun h => by omega)
    have hFd4 : ∀ k, Fd' k → d.Fd ip k ∨ w.heap.size ≤ k := fun k hk => (hFd' k hk).imp id (fun h => by omega)
    have hPD4 : ∀ k, Fp' k → ¬ Fd' k := fun k hk hk' => by
      rcases hFd' k hk' with h | h
      · rcases hFp' k hk with h' | h'
        · exact HL.out.pd ip ip k hipl hipl h' h
        · have := HL.out.dlt hipl h; omega
      · have := hP'.lt hk; omega
    exact ⟨rfl, d.turned ip ((d.st ip).afterLock A) Fp' Fd' d.nt d.tv d.vt, HL.out.pairStep hipl hwt hL4 hrt4 (fun b e => .inl e) hP4 hD' (St.afterLock_ok (HL.out.ok ip hipl) _) hFp4 hFd4 hPD4 (HL.out.lentOn hipl hwt hFp4 hFd4), ⟨⟨Nat.le_refl _, Nat.le_succ _⟩, Nat.le_add_right _ _, Nat.le_add_right _ _, Nat.le_succ _⟩, hwt.mono (fun k _ hk => HL.out.stepH hipl k hk)⟩
end Go.Proofs.YtjnmoddcodnadaaGreatDoor
namespace Go.Proofs.YtjnmoddcodnadaaGreatDoor
open Go.RowKit Go.Annal Go.Sort
set_option maxHeartbeats 4000000 in
set_option maxRecDepth 100000 in
theorem step_closes (H L : Nat) (d : Ls) (kw A B C : Int) (name : ByteArray) (lv : Value) (w : World) (h : LawIs H w L d) (hnb : d.nb ≤ 100000000) (hn0 : 0 < d.nb) (h1 : -9223372036854775808 ≤ kw) (h2 : kw ≤ 9223372036854775807) (hs : name.size ≤ 1000000000) :
    Calls Tryz.prog 17 #[.pointer (some ⟨L, 0, none⟩), .agg #[.int .i64 9, .int .i64 kw, .string name, .int .i64 A, .int .i64 B, .int .i64 C, lv]] w fun r w' => r = .returned (.bool true) ∧ ∃ d', LawIs H w' L d' ∧ Ls.Grows d d' ∧ Turn (fun b => H ≤ b) w w' := by
  have HL : Hid (LawIs H w L d) := h
  obtain ⟨ip, hip⟩ : ∃ ip : Nat, pickI kw d.nb = ip := ⟨(pickI kw d.nb).toNat, by have := pick_lt kw d.nb hn0; omega⟩
  have hipl : ip < d.nb := by have := pick_lt kw d.nb hn0; omega
  have CK : Hid (∀ W, Calls Tryz.prog 37 #[.int .i64 kw, .int .i64 d.nb] W fun r w' => r = .returned (.int .i64 ip) ∧ w' = W) := fun W => by
    have := pick_any kw d.nb W h1 h2 (by omega) (by omega)
    rw [hip] at this
    exact this
  obtain ⟨adb, cb, gb, eb, hcb, hab, hbc⟩ := owns_view h.rb
  obtain ⟨rfl, _, _⟩ := hab (by omega)
  have cL := blk_cell' h.bk (o := 0) rfl
  rw [eb] at cL
  have q0 : w.cell? ⟨gb, ip * 2, none⟩ = some (.pointer (some ⟨d.B ip, 0, none⟩)) := by
    rw [hbc (ip * 2) (by omega)]
    exact flat_get 2 (fun i => [Value.pointer (some ⟨d.B i, 0, none⟩), .pointer (some ⟨d.R i, 0, none⟩)]) (fun _ => rfl) d.nb ip 0 hipl (by omega)
  have q1 : w.cell? ⟨gb, ip * 2 + 1, none⟩ = some (.pointer (some ⟨d.R ip, 0, none⟩)) := by
    rw [hbc (ip * 2 + 1) (by omega)]
    exact flat_get 2 (fun i => [Value.pointer (some ⟨d.B i, 0, none⟩), .pointer (some ⟨d.R i, 0, none⟩)]) (fun _ => rfl) d.nb ip 1 hipl (by omega)
  have hi1 : (0 : Int) ≤ (ip : Int) := by omega
  have hi2 : (ip : Int) < (d.nb : Int) := by omega
  have hn1 : ¬ (d.nb : Int) = 0 := by omega
  clear h hbc eb hip
  have hga : Grew w (w.alloc (.cells #[.int .i64 9, .int .i64 kw, .string name, .int .i64 A, .int .i64 B, .int .i64 C, lv] 56)) := (Grew.refl w).alloc _
  have cL' := hga.cell' cL
  have q0' := hga.cell' q0
  have q1' := hga.cell' q1
  go_enter Tryz.func17, Tryz.ntmps17
  go_wp2_with (first
    | (go_at_call 37; refine Calls.mono (CK.out _) ?_; rintro e wx ⟨rfl, hw⟩; rw [hw]; clear hw wx))
  have hne1 : L ≠ w.heap.size := by have := blk_lt HL.out.bk; omega
  go_region_held3 (fun w' => w'.cell? ⟨L, 0, none⟩ = some (.slice (some ⟨gb, 0, none⟩) d.nb cb) ∧ w'.cell? ⟨w.heap.size, 1, none⟩ = some (.int .i64 kw) ∧ w'.cell? ⟨gb, ip * 2, none⟩ = some (.pointer (some ⟨d.B ip, 0, none⟩)) ∧ w'.cell? ⟨gb, ip * 2 + 1, none⟩ = some (.pointer (some ⟨d.R ip, 0, none⟩))) (go_keep) (first | (go_at_call 37; refine Calls.mono (CK.out _) ?_; rintro e wx ⟨rfl, hw⟩; rw [hw]; clear hw wx))
  all_goals
    have hb2 : Below w.heap.size w ((w.alloc (.cells #[.int .i64 9, .int .i64 kw, .string name, .int .i64 A, .int .i64 B, .int .i64 C, lv] 56)).alloc (.cells #[.pointer (some ⟨d.B ip, 0, none⟩), .pointer (some ⟨d.R ip, 0, none⟩)] 94)).drew := ((((Grew.refl w).alloc _).alloc _).drew).below
    have hx1 : ((w.alloc (.cells #[.int .i64 9, .int .i64 kw, .string name, .int .i64 A, .int .i64 B, .int .i64 C, lv] 56)).alloc (.cells #[.pointer (some ⟨d.B ip, 0, none⟩), .pointer (some ⟨d.R ip, 0, none⟩)] 94)).drew.heap[w.heap.size]? = some (.cells #[.int .i64 9, .int .i64 kw, .string name, .int .i64 A, .int .i64 B, .int .i64 C, lv] 56 (0, 0)) := Grew.blk ((Grew.refl _).alloc _).drew (heap_alloc_new w _)
    have hx2 : ((w.alloc (.cells #[.int .i64 9, .int .i64 kw, .string name, .int .i64 A, .int .i64 B, .int .i64 C, lv] 56)).alloc (.cells #[.pointer (some ⟨d.B ip, 0, none⟩), .pointer (some ⟨d.R ip, 0, none⟩)] 94)).drew.heap[w.heap.size + 1]? = some (.cells #[.pointer (some ⟨d.B ip, 0, none⟩), .pointer (some ⟨d.R ip, 0, none⟩)] 94 (0, 0)) := by
      have := heap_alloc_new (w.alloc (.cells #[.int .i64 9, .int .i64 kw, .string name, .int .i64 A, .int .i64 B, .int .i64 C, lv] 56)) (.cells #[.pointer (some ⟨d.B ip, 0, none⟩), .pointer (some ⟨d.R ip, 0, none⟩)] 94)
      rwa [World.size_alloc] at this
    obtain ⟨W2, hW2⟩ : ∃ W2, ((w.alloc (.cells #[.int .i64 9, .int .i64 kw, .string name, .int .i64 A, .int .i64 B, .int .i64 C, lv] 56)).alloc (.cells #[.pointer (some ⟨d.B ip, 0, none⟩), .pointer (some ⟨d.R ip, 0, none⟩)] 94)).drew = W2 := ⟨_, rfl⟩
    rw [hW2] at hb2 hx1 hx2 ⊢
    clear hW2 cL' q0' q1' hga cL q0 q1
  all_goals
    have a0 := blk_cell' hx1 (o := 0) rfl
    have a2 := blk_cell' hx1 (o := 2) rfl
    have a3 := blk_cell' hx1 (o := 3) rfl
    have b0 := blk_cell' hx2 (o := 0) rfl
    have b1 := blk_cell' hx2 (o := 1) rfl
    have C1 : Hid (type_of% (progClose (d.B ip) (d.st ip) (d.Fp ip) A name W2 ((HL.out.mv hb2).pr ip hipl) (HL.out.ok ip hipl))) := progClose (d.B ip) (d.st ip) (d.Fp ip) A name W2 ((HL.out.mv hb2).pr ip hipl) (HL.out.ok ip hipl)
    have C2 : Hid (∀ W, Turn (d.Fp ip) W2 W → Calls Tryz.prog 44 #[.pointer (some ⟨d.R ip, 0, none⟩), .int .i64 A, .string name] W fun r w' => r = .returned (.tuple #[.int .i64 ((d.st ip).closeN A name), .int .i64 ((d.st ip).closeE A name)]) ∧ ∃ Fd', DocIs w' (d.R ip) ((d.st ip).afterClose A name) Fd' ∧ Turn (d.Fd ip) W w' ∧ ∀ k, Fd' k → d.Fd ip k ∨ W.heap.size ≤ k) := fun W hW => docClose (d.R ip) (d.st ip) (d.Fd ip) A name W (((HL.out.mv hb2).dc ip hipl).turn hW (fun k hk hp => HL.out.pd ip ip k hipl hipl hp hk)) (HL.out.ok ip hipl) hs
    have hnp : ∀ k, w.heap.size ≤ k → ¬ d.Fp ip k := fun k hk h => by have := HL.out.plt hipl h; omega
    generalize hpn : (d.st ip).closeN A name = pn at C1 C2
    generalize hpe : (d.st ip).closeE A name = pe at C1 C2
    clear hpe
    clear hpn
  go_wp2_with (first
    | (go_at_call 32; refine Calls.mono C1.out ?_; rintro e w3 ⟨rfl, Fp', hP', hTp, hFp'⟩; have hy1 := hTp.blk hx1 (hnp _ (Nat.le_refl _)); have hy2 := hTp.blk hx2 (hnp _ (Nat.le_succ _)); have c2 := blk_cell' hy1 (o := 2) rfl; have c3 := blk_cell' hy1 (o := 3) rfl; have d1 := blk_cell' hy2 (o := 1) rfl)
    | (go_at_call 44; refine Calls.mono (C2.out _ hTp) ?_; rintro e w4 ⟨rfl, Fd', hD', hTd, hFd'⟩)
    | (go_at_call 40; refine Calls.mono (num_any _ _) ?_; rintro e wx ⟨rfl, hw⟩; rw [hw]; clear hw wx))
  all_goals go_ret
  all_goals
    have hwt : Turn (stepS d ip L) w w4 := (Turn.of_below hb2).trans ((hTp.mono (fun _ _ h => .inl h)).trans (hTd.mono (fun _ _ h => .inr (.inl h))))
    have hT2 : Turn (fun b => d.Fp ip b ∨ d.Fd ip b) w w4 := (Turn.of_below hb2).trans ((hTp.mono (fun _ _ h => .inl h)).trans (hTd.mono (fun _ _ h => .inr h)))
    have hL4 := hT2.blk HL.out.bk (fun hs => hs.elim (prog_not (HL.out.pr ip hipl) HL.out.bk (by decide)) (doc_not (HL.out.dc ip hipl) HL.out.bk (by decide)))
    have hrt4 := owns_turn HL.out.rt hT2 (fun g e hs => by
      obtain ⟨c, fz, hc⟩ := owns_kind HL.out.rt g e
      exact hs.elim (prog_not (HL.out.pr ip hipl) hc (by decide)) (doc_not (HL.out.dc ip hipl) hc (by decide)))
    have hD3 : DocIs w3 (d.R ip) (d.st ip) (d.Fd ip) := ((HL.out.mv hb2).dc ip hipl).turn hTp (fun k hk hp => HL.out.pd ip ip k hipl hipl hp hk)
    have hP4 := hP'.turn hTd (fun k hk hk' => (hFp' k hk).elim (fun h => HL.out.pd ip ip k hipl hipl h hk') (fun h => by have := HL.out.dlt hipl hk'; have := hb2.size; omega))
    have hbs := hb2.size
    have hps := hTp.size
    have hFp4 : ∀ k, Fp' k → d.Fp ip k ∨ w.heap.size ≤ k := fun k hk => (hFp' k hk).imp id (fun h => by omega)
    have hFd4 : ∀ k, Fd' k → d.Fd ip k ∨ w.heap.size ≤ k := fun k hk => (hFd' k hk).imp id (fun h => by omega)
    have hPD4 : ∀ k, Fp' k → ¬ Fd' k := fun k hk hk' => by
      rcases hFd' k hk' with h | h
      · rcases hFp' k hk with h' | h'
        · exact HL.out.pd ip ip k hipl hipl h' h
        · have := HL.out.dlt hipl h; omega
      · have := hP'.lt hk; omega
    exact ⟨rfl, d.turned ip ((d.st ip).afterClose A name) Fp' Fd' d.nt d.tv d.vt, HL.out.pairStep hipl hwt hL4 hrt4 (fun b e => .inl e) hP4 hD' (St.afterClose_ok (HL.out.ok ip hipl) _ _) hFp4 hFd4 hPD4 (HL.out.lentOn hipl hwt hFp4 hFd4), ⟨⟨Nat.le_refl _, Nat.le_succ _⟩, Nat.le_add_right _ _, Nat.le_add_right _ _, Nat.le_succ _⟩, hwt.mono (fun k _ hk => HL.out.stepH hipl k hk)⟩
end Go.Proofs.YtjnmoddcodnadaaGreatDoor
namespace Go.Proofs.YtjnmoddcodnadaaGreatDoor
open Go.RowKit Go.Annal Go.Sort
/-- One step of a script, whatever it is. -/
theorem step_any (H L : Nat) (d : Ls) (kk kw A B C : Int) (name : ByteArray) (n cap : Nat) (lad : Option Addr) (xa : Nat → ByteArray) (xm : Nat → Int) (w : World) (h : LawIs H w L d) (hn0 : 0 < d.nb) (hnb : d.nb ≤ 100000000) (hnl : d.nl ≤ 100000000) (hni : d.ni ≤ 100000000) (hnt : d.nt ≤ 100000000) (hk : kk ≤ 9) (h1 : -9223372036854775808 ≤ kw) (h2 : kw ≤ 9223372036854775807) (hs : name.size ≤ 1000000000)
    (hLn : LinesV w lad n cap xa xm) (hnil : lad = none → cap = 0) (hap : ∀ a, lad = some a → 0 < n → a.block < w.heap.size ∧ ∀ j, j < d.nb → ¬ d.Fp j a.block ∧ ¬ d.Fd j a.block) :
    Calls Tryz.prog 17 #[.pointer (some ⟨L, 0, none⟩), .agg #[.int .i64 kk, .int .i64 kw, .string name, .int .i64 A, .int .i64 B, .int .i64 C, .slice lad n cap]] w fun r w' => r = .returned (.bool true) ∧ ∃ d', LawIs H w' L d' ∧ Ls.Grows d d' ∧ Turn (fun b => H ≤ b) w w' := by
  by_cases k0 : kk ≤ 0
  · exact step_none H L d kk kw A B C name _ w h hnb hn0 h1 h2 k0
  · have : kk = 1 ∨ kk = 2 ∨ kk = 3 ∨ kk = 4 ∨ kk = 5 ∨ kk = 6 ∨ kk = 7 ∨ kk = 8 ∨ kk = 9 := by omega
    rcases this with rfl | rfl | rfl | rfl | rfl | rfl | rfl | rfl | rfl
    · refine (step_new H L d kw A B C name _ w h hnb).mono ?_
      rintro r w' ⟨rfl, d', hd, hg, _, hT⟩
      exact ⟨rfl, d', hd, hg, hT⟩
    · exact step_open H L d kw A B C name _ w h hnb hn0 h1 h2 hs
    · exact step_post H L d kw A B C name n cap lad w h hnb hn0 h1 h2 hnt xa xm hLn hnil hap
    · exact step_bal H L d kw A B C name _ w h hnb hn0 h1 h2
    · exact step_trial H L d kw A B C name _ w h hnb hn0 h1 h2 hnl hni hnt
    · exact step_items H L d kw A B C name _ w h hnb hn0 h1 h2 hnl hni hnt
    · exact step_reverse H L d kw A B C name _ w h hnb hn0 h1 h2
    · exact step_locks H L d kw A B C name _ w h hnb hn0 h1 h2
    · exact step_closes H L d kw A B C name _ w h hnb hn0 h1 h2 hs
/-- A script, as it lies in memory. -/
structure ScriptAt (W : World) (sg so sn : Nat) (kd kw A B C : Nat → Int) (nm : Nat → ByteArray) (lad : Nat → Option Addr) (ln lc : Nat → Nat) (xa : Nat → Nat → ByteArray) (xm : Nat → Nat → Int) : Prop where
  c0 : ∀ i, i < sn → W.cell? ⟨sg, so + i * 7, none⟩ = some (.int .i64 (kd i))
  c1 : ∀ i, i < sn → W.cell? ⟨sg, so + i * 7 + 1, none⟩ = some (.int .i64 (kw i))
  c2 : ∀ i, i < sn → W.cell? ⟨sg, so + i * 7 + 2, none⟩ = some (.string (nm i))
  c3 : ∀ i, i < sn → W.cell? ⟨sg, so + i * 7 + 3, none⟩ = some (.int .i64 (A i))
  c4 : ∀ i, i < sn → W.cell? ⟨sg, so + i * 7 + 4, none⟩ = some (.int .i64 (B i))
  c5 : ∀ i, i < sn → W.cell? ⟨sg, so + i * 7 + 5, none⟩ = some (.int .i64 (C i))
  c6 : ∀ i, i < sn → W.cell? ⟨sg, so + i * 7 + 6, none⟩ = some (.slice (lad i) (ln i) (lc i))
  wb : ∀ i, i < sn → -9223372036854775808 ≤ kw i ∧ kw i ≤ 9223372036854775807
  sm : ∀ i, i < sn → (nm i).size ≤ 999999999
  ls : ∀ i, i < sn → LinesV W (lad i) (ln i) (lc i) (xa i) (xm i)
  nl : ∀ i, i < sn → lad i = none → lc i = 0
  lt : ∀ i, i < sn → ∀ a, lad i = some a → 0 < ln i → a.block < W.heap.size
theorem ScriptAt.mv {W W' : World} {sg so sn : Nat} {kd kw A B C : Nat → Int} {nm : Nat → ByteArray} {lad : Nat → Option Addr} {ln lc : Nat → Nat} {xa : Nat → Nat → ByteArray} {xm : Nat → Nat → Int} (h : ScriptAt W sg so sn kd kw A B C nm lad ln lc xa xm) (hb : Below W.heap.size W W') : ScriptAt W' sg so sn kd kw A B C nm lad ln lc xa xm :=
  ⟨fun i hi => cell_later hb (h.c0 i hi), fun i hi => cell_later hb (h.c1 i hi), fun i hi => cell_later hb (h.c2 i hi), fun i hi => cell_later hb (h.c3 i hi), fun i hi => cell_later hb (h.c4 i hi), fun i hi => cell_later hb (h.c5 i hi), fun i hi => cell_later hb (h.c6 i hi), h.wb, h.sm, fun i hi => (h.ls i hi).mv hb, h.nl, fun i hi a e hn => Nat.lt_of_lt_of_le (h.lt i hi a e hn) hb.size⟩
theorem below_of_turn {w w' : World} (h : Turn (fun b => w.heap.size ≤ b) w w') : Below w.heap.size w w' := ⟨h.os, h.tape, h.output, h.size, fun k hk => h.block k hk (by omega)⟩
def Ls.none : Ls := ⟨0, fun _ => 0, fun _ => 0, fun _ => St.new, fun _ _ => False, fun _ _ => False, 0, fun _ => .slice Option.none 0 0, fun _ => 0, 0, fun _ => .slice Option.none 0 0, fun _ => 0, 0, fun _ => .slice Option.none 0 0, .slice Option.none 0 0, .slice Option.none 0 0, .slice Option.none 0 0, .slice Option.none 0 0, .slice Option.none 0 0, .slice Option.none 0 0⟩
theorem lawNone {H : Nat} {w : World} {L : Nat} (hH : H ≤ L) (h : w.heap[L]? = some (.cells #[.slice none 0 0, .slice none 0 0, .slice none 0 0, .slice none 0 0, .slice none 0 0, .slice none 0 0] 52 (0, 0))) : LawIs H w L Ls.none :=
  ⟨hH, h, ⟨rfl, .inl ⟨rfl, rfl⟩⟩, ⟨rfl, .inl ⟨rfl, rfl⟩⟩, ⟨rfl, .inl ⟨rfl, rfl⟩⟩, ⟨rfl, .inl ⟨rfl, rfl⟩⟩, ⟨rfl, .inl ⟨rfl, rfl⟩⟩, ⟨rfl, .inl ⟨rfl, rfl⟩⟩, fun k e => (by cases e), fun k e => (by cases e), fun i hi => absurd hi (Nat.not_lt_zero _), fun i hi => absurd hi (Nat.not_lt_zero _), fun i hi => absurd hi (Nat.not_lt_zero _), fun i j k hi => absurd hi (Nat.not_lt_zero _), fun i j k hi => absurd hi (Nat.not_lt_zero _), fun i j k hi => absurd hi (Nat.not_lt_zero _), fun i k hi => absurd hi (Nat.not_lt_zero _), fun i k hi => absurd hi (Nat.not_lt_zero _), fun i hi => absurd hi (Nat.not_lt_zero _), fun i hi => absurd hi (Nat.not_lt_zero _), fun i hi => absurd hi (Nat.not_lt_zero _)⟩
/-- What a law's world may have grown to behind k steps. -/
structure Few (d : Ls) (k : Nat) : Prop where
  b0 : 0 < d.nb
  nb : d.nb ≤ k
  nl : d.nl ≤ 4 * k
  ni : d.ni ≤ 4 * k
  nt : d.nt ≤ k
theorem Few.grow {d d' : Ls} {k : Nat} (h : Few d k) (hg : Ls.Grows d d') : Few d' (k + 1) := by
  have := h.b0; have := h.nb; have := h.nl; have := h.ni; have := h.nt; have := hg.nb; have := hg.nl; have := hg.ni; have := hg.nt
  exact ⟨by omega, by omega, by omega, by omega, by omega⟩
theorem LinesV.nil (w : World) (xa : Nat → ByteArray) (xm : Nat → Int) : LinesV w none 0 0 xa xm := ⟨Nat.le_refl _, by omega, fun k hk => by omega, fun h => by omega⟩
set_option maxHeartbeats 4000000 in
set_option maxRecDepth 100000 in
theorem played_any (last : Int) (hla : last ≤ 9) (sg so sn sc : Nat) (sad : Option Addr) (kd kw A B C : Nat → Int) (nm : Nat → ByteArray) (lad : Nat → Option Addr) (ln lc : Nat → Nat) (xa : Nat → Nat → ByteArray) (xm : Nat → Nat → Int) (w : World) (hS : ScriptAt w sg so sn kd kw A B C nm lad ln lc xa xm) (hsa : 0 < sn → sad = some ⟨sg, so, none⟩) (hsn : sn ≤ 2000000) :
    Calls Tryz.prog 8 #[.slice sad sn sc, .int .i64 last] w fun r w' => r = .returned (.bool true) ∧ Below w.heap.size w w' := by
  have HS : Hid (type_of% hS) := hS
  clear hS
  go_enter Tryz.func8, Tryz.ntmps8
  have hL0 : LawIs w.heap.size (w.alloc (.cells #[.slice none 0 0, .slice none 0 0, .slice none 0 0, .slice none 0 0, .slice none 0 0, .slice none 0 0] 52)) w.heap.size Ls.none := lawNone (Nat.le_refl _) (heap_alloc_new w _)
  have hT0 : Turn (fun b => w.heap.size ≤ b) w (w.alloc (.cells #[.slice none 0 0, .slice none 0 0, .slice none 0 0, .slice none 0 0, .slice none 0 0, .slice none 0 0] 52)) := (Turn.refl _ w).alloc _
  obtain ⟨W0, hW0⟩ : ∃ W0, W0 = w.alloc (.cells #[.slice none 0 0, .slice none 0 0, .slice none 0 0, .slice none 0 0, .slice none 0 0, .slice none 0 0] 52) := ⟨_, rfl⟩
  rw [← hW0] at hL0 hT0
  have HW0 : Hid (type_of% hW0) := hW0
  have HL0 : Hid (type_of% hL0) := hL0
  have HT0 : Hid (type_of% hT0) := hT0
  clear hW0 hL0 hT0
  go_wp2_with fail
  rw [← HW0.out]
  refine Calls.mono (step_new w.heap.size w.heap.size Ls.none 0 0 0 0 ⟨#[]⟩ _ W0 HL0.out (Nat.zero_le _)) ?_
  rintro e w1 ⟨rfl, d1, hd1, hg1, hn1, hT1⟩
  go_wp2_with fail
  have F1 : Few d1 1 := ⟨by rw [hn1]; exact Nat.succ_pos _, by rw [hn1]; exact Nat.le_refl _, hg1.nl, hg1.ni, hg1.nt⟩
  refine Calls.mono (step_open w.heap.size w.heap.size d1 0 0 0 0 ⟨#[99, 97, 115, 104]⟩ _ w1 hd1 (by have := F1.nb; omega) F1.b0 (by decide) (by decide) (by decide)) ?_
  rintro e w2 ⟨rfl, d2, hd2, hg2, hT2⟩
  have F2 := F1.grow hg2
  go_wp2_with fail
  refine Calls.mono (step_open w.heap.size w.heap.size d2 0 1 0 0 ⟨#[114, 101, 110, 116]⟩ _ w2 hd2 (by have := F2.nb; omega) F2.b0 (by decide) (by decide) (by decide)) ?_
  rintro e w3 ⟨rfl, d3, hd3, hg3, hT3⟩
  have F3 := F2.grow hg3
  go_wp2_with fail
  have hbl : (w3.alloc (.cells #[.string ⟨#[99, 97, 115, 104]⟩, .int .i64 (-30), .string ⟨#[114, 101, 110, 116]⟩, .int .i64 30] 58)).heap[w3.heap.size]? = some (.cells #[.string ⟨#[99, 97, 115, 104]⟩, .int .i64 (-30), .string ⟨#[114, 101, 110, 116]⟩, .int .i64 30] 58 (0, 0)) := heap_alloc_new w3 _
  have hLA : LinesAt (w3.alloc (.cells #[.string ⟨#[99, 97, 115, 104]⟩, .int .i64 (-30), .string ⟨#[114, 101, 110, 116]⟩, .int .i64 30] 58)) w3.heap.size 0 2 (fun k => if k = 0 then ⟨#[99, 97, 115, 104]⟩ else ⟨#[114, 101, 110, 116]⟩) (fun k => if k = 0 then -30 else 30) := by
    refine ⟨fun k hk => ?_, fun k hk => ?_⟩
    · have : k = 0 ∨ k = 1 := by omega
      rcases this with rfl | rfl
      · exact blk_cell' hbl (o := 0) rfl
      · exact blk_cell' hbl (o := 2) rfl
    · have : k = 0 ∨ k = 1 := by omega
      rcases this with rfl | rfl
      · exact blk_cell' hbl (o := 1) rfl
      · exact blk_cell' hbl (o := 3) rfl
  have hb34 : Below w3.heap.size w3 (w3.alloc (.cells #[.string ⟨#[99, 97, 115, 104]⟩, .int .i64 (-30), .string ⟨#[114, 101, 110, 116]⟩, .int .i64 30] 58)) := ((Grew.refl w3).alloc _).below
  refine Calls.mono (step_post w.heap.size w.heap.size d3 0 5 0 0 ⟨#[]⟩ 2 2 (some ⟨w3.heap.size, 0, none⟩) _ (hd3.mv hb34) (by have := F3.nb; omega) F3.b0 (by decide) (by decide) (by have := F3.nt; omega) (fun k => if k = 0 then ⟨#[99, 97, 115, 104]⟩ else ⟨#[114, 101, 110, 116]⟩) (fun k => if k = 0 then -30 else 30) ⟨Nat.le_refl _, by decide, fun k hk => by split <;> decide, fun _ => ⟨_, _, rfl, hLA⟩⟩ (fun e => by cases e) (fun a e _ => by injection e with e; subst e; exact ⟨by simp, fun j hj => ⟨fun h => by have := hd3.plt hj h; simp at this, fun h => by have := hd3.dlt hj h; simp at this⟩⟩)) ?_
  rintro e w4 ⟨rfl, d4, hd4, hg4, hT4⟩
  have F4 := F3.grow hg4
  have hTw : Turn (fun b => w.heap.size ≤ b) w w4 := (((HT0.out.trans hT1).trans hT2).trans hT3).trans ((Turn.of_below hb34).trans hT4)
  have HD4 : Hid (type_of% hd4) := hd4
  have HF4 : Hid (Few d4 (0 + 4)) := F4
  have HT4 : Hid (type_of% hTw) := hTw
  clear hTw F4 hd4 hT4 hg4 hb34 hLA hbl F3 hd3 hg3 hT3 F2 hd2 hg2 hT2 F1 hd1 hg1 hT1 hn1 HL0 HT0 HW0
  go_wp2
  go_loopw [6, 7] (fun okv iv wr => ∃ (k : Nat) (d : Ls), k ≤ sn ∧ iv = .int .i64 k ∧ okv = .bool true ∧ Hid (LawIs w.heap.size wr w.heap.size d) ∧ Hid (Few d (k + 4)) ∧ Hid (Turn (fun b => w.heap.size ≤ b) w wr)) (fun _ iv _ => sn - (intOf iv).toNat)
  case atStart => exact ⟨0, d4, Nat.zero_le _, rfl, rfl, HD4, HF4, HT4⟩
  case round =>
    obtain ⟨k, d, hk, rfl, rfl, hd, hf, hT⟩ := hrel
    clear HD4 HF4 HT4
    by_cases hlt : k < sn
    · have hlt' : (k : Int) < (sn : Int) := by omega
      have hk0 : (0 : Int) ≤ (k : Int) := by omega
      obtain rfl := hsa (by omega)
      have hsb := below_of_turn hT.out
      have hS := HS.out.mv hsb
      have c0 := hS.c0 k hlt
      have c1 := hS.c1 k hlt
      have c2 := hS.c2 k hlt
      have c3 := hS.c3 k hlt
      have c4 := hS.c4 k hlt
      have c5 := hS.c5 k hlt
      have c6 := hS.c6 k hlt
      by_cases hk6 : kd k ≤ last
      · have C1 : Hid (Calls Tryz.prog 17 #[.pointer (some ⟨w.heap.size, 0, none⟩), .agg #[.int .i64 (kd k), .int .i64 (kw k), .string (nm k), .int .i64 (A k), .int .i64 (B k), .int .i64 (C k), .slice (lad k) (ln k) (lc k)]] wr fun r w' => r = .returned (.bool true) ∧ ∃ d', LawIs w.heap.size w' w.heap.size d' ∧ Ls.Grows d d' ∧ Turn (fun b => w.heap.size ≤ b) wr w') := by
          have h1 := hf.out.nb; have h2 := hf.out.nl; have h3 := hf.out.ni; have h4 := hf.out.nt
          exact step_any w.heap.size w.heap.size d (kd k) (kw k) (A k) (B k) (C k) (nm k) (ln k) (lc k) (lad k) (xa k) (xm k) wr hd.out hf.out.b0 (by omega) (by omega) (by omega) (by omega) (Int.le_trans hk6 hla) (hS.wb k hlt).1 (hS.wb k hlt).2 (Nat.le_trans (hS.sm k hlt) (by decide)) (hS.ls k hlt) (hS.nl k hlt) (fun a e hn => ⟨hS.lt k hlt a e hn, fun j hj => ⟨fun h => by have := hd.out.pH j _ hj h; have := HS.out.lt k hlt a e hn; omega, fun h => by have := hd.out.dH j _ hj h; have := HS.out.lt k hlt a e hn; omega⟩⟩)
        clear hS hsb
        go_wp2_with (first
          | (go_at_call 17; refine Calls.mono C1.out ?_; rintro e w5 ⟨rfl, d5, hd5, hg5, hT5⟩; have F5 := hf.out.grow hg5)
          | (go_at_call 18; refine Calls.mono (looks_any w.heap.size _ w.heap.size d5 hd5 (by have := F5.nl; omega) (by have := F5.ni; omega) (by have := F5.nt; omega)) ?_; rintro e w6 ⟨rfl, hb6⟩))
        exact ⟨⟨k + 1, d5, by omega, by go_num, rfl, hd5.mv hb6, by have := F5; rw [show k + 4 + 1 = k + 1 + 4 by omega] at this; exact this, show Hid _ from (hT.out.trans hT5).trans (Turn.of_below hb6)⟩, by simp [intOf]; omega⟩
      · clear hS hsb
        go_wp2_with (go_at_call 18; refine Calls.mono (looks_any w.heap.size _ w.heap.size d hd.out (by have := hf.out.nl; omega) (by have := hf.out.ni; omega) (by have := hf.out.nt; omega)) ?_; rintro e w6 ⟨rfl, hb6⟩)
        exact ⟨⟨k + 1, d, by omega, by go_num, rfl, hd.out.mv hb6, by have h := hf.out; exact ⟨h.b0, by have := h.nb; omega, by have := h.nl; omega, by have := h.ni; omega, by have := h.nt; omega⟩, show Hid _ from hT.out.trans (Turn.of_below hb6)⟩, by simp [intOf]; omega⟩
    · have hlt' : ¬ (k : Int) < (sn : Int) := by omega
      have hlt'' : decide ((k : Int) < (sn : Int)) = false := by simpa using hlt'
      go_wp2
      go_ret
      exact ⟨rfl, below_of_turn hT.out⟩
set_option maxHeartbeats 1000000 in
theorem posts_walk (sg so sn sc : Nat) (sad : Option Addr) (kd kw A B C : Nat → Int) (nm : Nat → ByteArray) (lad : Nat → Option Addr) (ln lc : Nat → Nat) (xa : Nat → Nat → ByteArray) (xm : Nat → Nat → Int) (w : World) (hS : ScriptAt w sg so sn kd kw A B C nm lad ln lc xa xm) (hsa : 0 < sn → sad = some ⟨sg, so, none⟩) (hsn : sn ≤ 2000000) :
    Calls Tryz.prog 3 #[.slice sad sn sc] w fun r w' => r = .returned (.bool true) ∧ Below w.heap.size w w' := by
  have C0 : Hid (type_of% (played_any 6 (by decide) sg so sn sc sad kd kw A B C nm lad ln lc xa xm w hS hsa hsn)) := played_any 6 (by decide) sg so sn sc sad kd kw A B C nm lad ln lc xa xm w hS hsa hsn
  clear hS
  go_enter Tryz.func3, Tryz.ntmps3
  go_wp2_with (go_at_call 8; refine Calls.mono C0.out ?_; rintro e w1 ⟨rfl, hb⟩)
  go_ret
  exact ⟨rfl, hb⟩
set_option maxHeartbeats 1000000 in
theorem changes_walk (sg so sn sc : Nat) (sad : Option Addr) (kd kw A B C : Nat → Int) (nm : Nat → ByteArray) (lad : Nat → Option Addr) (ln lc : Nat → Nat) (xa : Nat → Nat → ByteArray) (xm : Nat → Nat → Int) (w : World) (hS : ScriptAt w sg so sn kd kw A B C nm lad ln lc xa xm) (hsa : 0 < sn → sad = some ⟨sg, so, none⟩) (hsn : sn ≤ 2000000) :
    Calls Tryz.prog 4 #[.slice sad sn sc] w fun r w' => r = .returned (.bool true) ∧ Below w.heap.size w w' := by
  have C0 : Hid (type_of% (played_any 9 (by decide) sg so sn sc sad kd kw A B C nm lad ln lc xa xm w hS hsa hsn)) := played_any 9 (by decide) sg so sn sc sad kd kw A B C nm lad ln lc xa xm w hS hsa hsn
  clear hS
  go_enter Tryz.func4, Tryz.ntmps4
  go_wp2_with (go_at_call 8; refine Calls.mono C0.out ?_; rintro e w1 ⟨rfl, hb⟩)
  go_ret
  exact ⟨rfl, hb⟩
end Go.Proofs.YtjnmoddcodnadaaGreatDoor
namespace Go.Proofs.YtjnmoddcodnadaaGreatDoor
open Go.ChangeShapes Go.WideShapes Go.ChangeAt Go.RowKit Go.Annal Go.Deep
theorem bulk_pos {H : Type} (d : DataW H) : 1 ≤ Rows.uptoBulk d := by
  cases d with
  | lit l => cases l <;> simp [Rows.uptoBulk]
  | nil => simp [Rows.uptoBulk]
  | ptr d => simp [Rows.uptoBulk]
  | slice a b => simp [Rows.uptoBulk]
  | agg a => simp [Rows.uptoBulk]
  | iface t d => simp [Rows.uptoBulk]
  | map m => simp [Rows.uptoBulk]
  | held h => simp [Rows.uptoBulk]
theorem bulk_mem {H : Type} {d : DataW H} : ∀ {l : List (DataW H)}, d ∈ l → Rows.uptoBulk d ≤ Rows.uptoBulkAll l
  | x :: r, h => by
    simp only [Rows.uptoBulkAll]
    rcases List.mem_cons.1 h with rfl | h
    · omega
    · have := bulk_mem h; omega
theorem bulk_len {H : Type} : ∀ l : List (DataW H), l.length ≤ Rows.uptoBulkAll l
  | [] => by simp [Rows.uptoBulkAll]
  | x :: r => by
    have := bulk_len r
    have := bulk_pos x
    simp only [Rows.uptoBulkAll, List.length_cons]
    omega
theorem bulk_slice {H : Type} (len m : Nat) (D : Nat → DataW H) {sp : List (DataW H)} (h : Rows.uptoBulk (.slice ((List.range len).map D) sp) ≤ m) : len ≤ m ∧ ∀ i, i < len → Rows.uptoBulk (D i) ≤ m := by
  simp only [Rows.uptoBulk] at h
  have h1 := bulk_len ((List.range len).map D)
  rw [List.length_map, List.length_range] at h1
  refine ⟨by omega, fun i hi => ?_⟩
  have := bulk_mem (d := D i) (l := (List.range len).map D) (List.mem_map.2 ⟨i, by simpa using hi, rfl⟩)
  omega
theorem two_of {α : Type} : ∀ l : List α, l.length = 2 → ∃ a b, l = [a, b]
  | [a, b], _ => ⟨a, b, rfl⟩
theorem seven_of {α : Type} : ∀ l : List α, l.length = 7 → ∃ a b c d e f g, l = [a, b, c, d, e, f, g]
  | [a, b, c, d, e, f, g], _ => ⟨a, b, c, d, e, f, g, rfl⟩
theorem Tryz.c3 : Tryz.prog.cellsOf 3 = 1 := by kernel_rfl
theorem Tryz.c9 : Tryz.prog.cellsOf 9 = 1 := by kernel_rfl
theorem Tryz.c34 : Tryz.prog.cellsOf 54 = 1 := by kernel_rfl
theorem Tryz.c38 : Tryz.prog.cellsOf 58 = 2 := by kernel_rfl
theorem Tryz.c36 : Tryz.prog.cellsOf 56 = 7 := by kernel_rfl
section
variable {H : Type} {enc : TypeId × Value → H} {W : World}
/-- A list of lines that came in. -/
theorem open_lines {n : Nat} {v : Value} {x : DataW H × List MemPlace} (h : DataW.trod enc Tryz.prog W 0 (fun _ => true) true n 54 [v] = some x) (hb : Rows.uptoBulk x.1 ≤ 1048576) :
    ∃ q : Option Addr × Nat × Nat × (Nat → ByteArray) × (Nat → Int), v = .slice q.1 q.2.1 q.2.2.1 ∧ LinesV W q.1 q.2.1 q.2.2.1 q.2.2.2.1 q.2.2.2.2 ∧ (q.1 = none → q.2.2.1 = 0) ∧ ∀ a, q.1 = some a → 0 < q.2.1 → a.block < W.heap.size := by
  rcases open_slice Tryz.underlying54 h with ⟨hcs, hx⟩ | ⟨a, len, cap, m, n', D, Pl, hcs, _, hl, hm, hmm, hx, hel⟩
  · simp at hcs
    exact ⟨(none, 0, 0, fun _ => ⟨#[]⟩, fun _ => 0), hcs, LinesV.nil _ _ _, fun _ => rfl, fun a e => by cases e⟩
  · simp at hcs
    simp only [if_true] at hmm
    subst hmm
    rw [hx] at hb
    obtain ⟨hb1, hb2⟩ := bulk_slice len _ D hb
    have raw : ∀ i, i < len → ∃ p : ByteArray × Int, W.cell? ((a.add (i * 2)).add 0) = some (.string p.1) ∧ W.cell? ((a.add (i * 2)).add 1) = some (.int .i64 p.2) ∧ p.1.size ≤ 1048576 := fun i hi => by
      obtain ⟨cs', hc, ht⟩ := hel i (by omega)
      rw [Tryz.c38] at hc
      obtain ⟨y0, y1, k, hD, hlen, h0, h1⟩ := trod_struct2 Tryz.underlying58 ht
      obtain ⟨_, hl2, hcell⟩ := World.cells?_some hc
      obtain ⟨c0, c1, rfl⟩ := two_of cs' hl2
      obtain ⟨s, hs1, hs2, _⟩ := DataW.trod_string Tryz.underlying9 h0
      obtain ⟨z, hz1, hz2, _⟩ := DataW.trod_int Tryz.underlying3 h1
      simp only [Tryz.c9, Tryz.c3, List.drop_zero, List.take_succ_cons, List.take_zero, List.drop_succ_cons] at hs1 hz1
      have e0 : c0 = .string s := by simpa using hs1
      have e1 : c1 = .int .i64 z := by simpa using hz1
      subst e0 e1
      refine ⟨(s, z), hcell 0 (by omega), hcell 1 (by omega), ?_⟩
      have hbi := hb2 i hi
      have hDi : D i = .agg [y0.1, y1.1] := congrArg Prod.fst hD
      rw [hDi, hs2] at hbi
      simp only [Rows.uptoBulk, Rows.uptoBulkAll, Array.length_toList] at hbi
      show s.data.size ≤ _
      omega
    by_cases h0 : len = 0
    · subst h0
      refine ⟨(some a, 0, m, fun _ => ⟨#[]⟩, fun _ => 0), hcs, ⟨Nat.zero_le _, Nat.zero_le _, fun k hk => absurd hk (Nat.not_lt_zero _), fun h => absurd h (Nat.not_lt_zero _)⟩, (fun e => by cases e), fun a e h => absurd h (Nat.not_lt_zero _)⟩
    · obtain ⟨b, off, spot⟩ := a
      obtain ⟨p0, hp0, _, _⟩ := raw 0 (by omega)
      obtain rfl : spot = none := by simpa [Addr.add] using World.cell?_spot hp0
      obtain ⟨f, hf⟩ := choose_lt (α := ByteArray × Int) raw
      have hblk : b < W.heap.size := by
        have := World.block_lt_of_cell? _ _ hp0
        simpa [Addr.add] using this
      refine ⟨(some ⟨b, off, none⟩, len, m, fun i => (f i).1, fun i => (f i).2), hcs, ⟨hl, by show len ≤ _; omega, fun k hk => by have := (hf k hk).2.2; show (f k).1.size ≤ _; omega, fun _ => ⟨b, off, rfl, fun k hk => ?_, fun k hk => ?_⟩⟩, (fun e => by cases e), fun a e _ => by injection e with e; subst e; exact hblk⟩
      · have := (hf k hk).1
        rw [addr_add, addr_add] at this
        exact this
      · have := (hf k hk).2.1
        rw [addr_add, addr_add] at this
        exact this
/-- A step that came in: its seven cells. -/
structure OpIs (W : World) (a : Addr) (p : Int × Int × ByteArray × Int × Int × Int × Option Addr × Nat × Nat × (Nat → ByteArray) × (Nat → Int)) : Prop where
  c0 : W.cell? (a.add 0) = some (.int .i64 p.1)
  c1 : W.cell? (a.add 1) = some (.int .i64 p.2.1)
  c2 : W.cell? (a.add 2) = some (.string p.2.2.1)
  c3 : W.cell? (a.add 3) = some (.int .i64 p.2.2.2.1)
  c4 : W.cell? (a.add 4) = some (.int .i64 p.2.2.2.2.1)
  c5 : W.cell? (a.add 5) = some (.int .i64 p.2.2.2.2.2.1)
  c6 : W.cell? (a.add 6) = some (.slice p.2.2.2.2.2.2.1 p.2.2.2.2.2.2.2.1 p.2.2.2.2.2.2.2.2.1)
  wb : -9223372036854775808 ≤ p.2.1 ∧ p.2.1 ≤ 9223372036854775807
  sm : p.2.2.1.size ≤ 999999999
  ls : LinesV W p.2.2.2.2.2.2.1 p.2.2.2.2.2.2.2.1 p.2.2.2.2.2.2.2.2.1 p.2.2.2.2.2.2.2.2.2.1 p.2.2.2.2.2.2.2.2.2.2
  nl : p.2.2.2.2.2.2.1 = none → p.2.2.2.2.2.2.2.2.1 = 0
  lt : ∀ x, p.2.2.2.2.2.2.1 = some x → 0 < p.2.2.2.2.2.2.2.1 → x.block < W.heap.size
theorem open_op {n : Nat} {a : Addr} {cs : List Value} {D : DataW H} {Pl : List MemPlace} (hc : W.cells? 0 a 7 = some cs) (h : DataW.trod enc Tryz.prog W 0 (fun _ => true) true n 56 cs = some (D, Pl)) (hb : Rows.uptoBulk D ≤ 1048576) : ∃ p, OpIs W a p := by
  obtain ⟨_, hl7, hcell⟩ := World.cells?_some hc
  obtain ⟨v0, v1, v2, v3, v4, v5, v6, rfl⟩ := seven_of cs hl7
  obtain ⟨xs, k, _, hx, _, hlen, hf⟩ := DataW.trod_struct Tryz.underlying56 h
  obtain ⟨y0, y1, y2, y3, y4, y5, y6, rfl⟩ := seven_of xs hlen
  have hD : D = .agg [y0.1, y1.1, y2.1, y3.1, y4.1, y5.1, y6.1] := congrArg Prod.fst hx
  have f0 : DataW.trod enc Tryz.prog W 0 (fun _ => true) true k 3 (List.take (Tryz.prog.cellsOf 3) (List.drop 0 [v0, v1, v2, v3, v4, v5, v6])) = some y0 := hf 0 _ rfl
  rw [Tryz.c3] at f0
  have g0 : DataW.trod enc Tryz.prog W 0 (fun _ => true) true k 3 [v0] = some y0 := f0
  have f1 : DataW.trod enc Tryz.prog W 0 (fun _ => true) true k 3 (List.take (Tryz.prog.cellsOf 3) (List.drop 1 [v0, v1, v2, v3, v4, v5, v6])) = some y1 := hf 1 _ rfl
  rw [Tryz.c3] at f1
  have g1 : DataW.trod enc Tryz.prog W 0 (fun _ => true) true k 3 [v1] = some y1 := f1
  have f2 : DataW.trod enc Tryz.prog W 0 (fun _ => true) true k 9 (List.take (Tryz.prog.cellsOf 9) (List.drop 2 [v0, v1, v2, v3, v4, v5, v6])) = some y2 := hf 2 _ rfl
  rw [Tryz.c9] at f2
  have g2 : DataW.trod enc Tryz.prog W 0 (fun _ => true) true k 9 [v2] = some y2 := f2
  have f3 : DataW.trod enc Tryz.prog W 0 (fun _ => true) true k 3 (List.take (Tryz.prog.cellsOf 3) (List.drop 3 [v0, v1, v2, v3, v4, v5, v6])) = some y3 := hf 3 _ rfl
  rw [Tryz.c3] at f3
  have g3 : DataW.trod enc Tryz.prog W 0 (fun _ => true) true k 3 [v3] = some y3 := f3
  have f4 : DataW.trod enc Tryz.prog W 0 (fun _ => true) true k 3 (List.take (Tryz.prog.cellsOf 3) (List.drop 4 [v0, v1, v2, v3, v4, v5, v6])) = some y4 := hf 4 _ rfl
  rw [Tryz.c3] at f4
  have g4 : DataW.trod enc Tryz.prog W 0 (fun _ => true) true k 3 [v4] = some y4 := f4
  have f5 : DataW.trod enc Tryz.prog W 0 (fun _ => true) true k 3 (List.take (Tryz.prog.cellsOf 3) (List.drop 5 [v0, v1, v2, v3, v4, v5, v6])) = some y5 := hf 5 _ rfl
  rw [Tryz.c3] at f5
  have g5 : DataW.trod enc Tryz.prog W 0 (fun _ => true) true k 3 [v5] = some y5 := f5
  have f6 : DataW.trod enc Tryz.prog W 0 (fun _ => true) true k 54 (List.take (Tryz.prog.cellsOf 54) (List.drop 6 [v0, v1, v2, v3, v4, v5, v6])) = some y6 := hf 6 _ rfl
  rw [Tryz.c34] at f6
  have g6 : DataW.trod enc Tryz.prog W 0 (fun _ => true) true k 54 [v6] = some y6 := f6
  obtain ⟨z0, e0, _, w0⟩ := DataW.trod_int Tryz.underlying3 g0
  have e0' : v0 = .int .i64 z0 := by simpa using e0
  obtain ⟨z1, e1, _, w1⟩ := DataW.trod_int Tryz.underlying3 g1
  have e1' : v1 = .int .i64 z1 := by simpa using e1
  obtain ⟨z3, e3, _, w3⟩ := DataW.trod_int Tryz.underlying3 g3
  have e3' : v3 = .int .i64 z3 := by simpa using e3
  obtain ⟨z4, e4, _, w4⟩ := DataW.trod_int Tryz.underlying3 g4
  have e4' : v4 = .int .i64 z4 := by simpa using e4
  obtain ⟨z5, e5, _, w5⟩ := DataW.trod_int Tryz.underlying3 g5
  have e5' : v5 = .int .i64 z5 := by simpa using e5
  obtain ⟨s2, e2, hs2, _⟩ := DataW.trod_string Tryz.underlying9 g2
  have e2' : v2 = .string s2 := by simpa using e2
  have hbD := hb
  rw [hD] at hbD
  simp only [Rows.uptoBulk, Rows.uptoBulkAll] at hbD
  have hb2 : Rows.uptoBulk y2.1 ≤ 1048576 := by omega
  have hb6 : Rows.uptoBulk y6.1 ≤ 1048576 := by omega
  rw [hs2] at hb2
  simp only [Rows.uptoBulk, Array.length_toList] at hb2
  obtain ⟨q, hq, hL, hn, hlt⟩ := open_lines g6 hb6
  have hw := bounds_i64 w1
  subst e0' e1' e2' e3' e4' e5' hq
  exact ⟨(z0, z1, s2, z3, z4, z5, q), hcell 0 (by omega), hcell 1 (by omega), hcell 2 (by omega), hcell 3 (by omega), hcell 4 (by omega), hcell 5 (by omega), hcell 6 (by omega), hw, by show s2.data.size ≤ _; omega, hL, hn, hlt⟩
/-- A script that came in. -/
theorem open_script {P : Value → Prop} {v0 : Value} {d0 : DataW H} {p : List MemPlace} (h0 : DataW.Trod enc Tryz.prog W 0 (fun _ => true) true 22 v0 d0 p) (hsl : ∃ a len cap, v0 = .slice a len cap) (hb : Rows.uptoBulk d0 ≤ 1048576)
    (hP : ∀ (sg so sn sc : Nat) (sad : Option Addr) (kd kw A B C : Nat → Int) (nm : Nat → ByteArray) (lad : Nat → Option Addr) (ln lc : Nat → Nat) (xa : Nat → Nat → ByteArray) (xm : Nat → Nat → Int), ScriptAt W sg so sn kd kw A B C nm lad ln lc xa xm → (0 < sn → sad = some ⟨sg, so, none⟩) → sn ≤ 2000000 → P (.slice sad sn sc)) : P v0 := by
  obtain ⟨fuel, hf⟩ := h0
  obtain ⟨a0, len0, cap0, rfl⟩ := hsl
  rcases open_slice Tryz.underlying22 hf with ⟨hcs, _⟩ | ⟨a, len, cap, m, n, D, Pl, hcs, _, hl, hm, hmm, hx, hel⟩
  · simp [Value.cells] at hcs
    obtain ⟨rfl, rfl, rfl⟩ := hcs
    exact hP 0 0 0 0 none (fun _ => 0) (fun _ => 0) (fun _ => 0) (fun _ => 0) (fun _ => 0) (fun _ => ⟨#[]⟩) (fun _ => none) (fun _ => 0) (fun _ => 0) (fun _ _ => ⟨#[]⟩) (fun _ _ => 0) ⟨fun i h => absurd h (Nat.not_lt_zero _), fun i h => absurd h (Nat.not_lt_zero _), fun i h => absurd h (Nat.not_lt_zero _), fun i h => absurd h (Nat.not_lt_zero _), fun i h => absurd h (Nat.not_lt_zero _), fun i h => absurd h (Nat.not_lt_zero _), fun i h => absurd h (Nat.not_lt_zero _), fun i h => absurd h (Nat.not_lt_zero _), fun i h => absurd h (Nat.not_lt_zero _), fun i h => absurd h (Nat.not_lt_zero _), fun i h => absurd h (Nat.not_lt_zero _), fun i h => absurd h (Nat.not_lt_zero _)⟩ (fun h => absurd h (Nat.not_lt_zero _)) (Nat.zero_le _)
  · simp [Value.cells] at hcs
    obtain ⟨rfl, rfl, rfl⟩ := hcs
    simp only [if_true] at hmm
    subst hmm
    have hd : d0 = .slice ((List.range len0).map D) ((List.range (m - len0)).map fun j => D (len0 + j)) := congrArg Prod.fst hx
    rw [hd] at hb
    obtain ⟨hb1, hb2⟩ := bulk_slice len0 _ D hb
    have raw : ∀ i, i < len0 → ∃ p, OpIs W (a.add (i * 7)) p := fun i hi => by
      obtain ⟨cs', hc, ht⟩ := hel i (by omega)
      rw [Tryz.c36] at hc
      exact open_op hc ht (hb2 i hi)
    by_cases hz : len0 = 0
    · subst hz
      exact hP 0 0 0 _ _ (fun _ => 0) (fun _ => 0) (fun _ => 0) (fun _ => 0) (fun _ => 0) (fun _ => ⟨#[]⟩) (fun _ => none) (fun _ => 0) (fun _ => 0) (fun _ _ => ⟨#[]⟩) (fun _ _ => 0) ⟨fun i h => absurd h (Nat.not_lt_zero _), fun i h => absurd h (Nat.not_lt_zero _), fun i h => absurd h (Nat.not_lt_zero _), fun i h => absurd h (Nat.not_lt_zero _), fun i h => absurd h (Nat.not_lt_zero _), fun i h => absurd h (Nat.not_lt_zero _), fun i h => absurd h (Nat.not_lt_zero _), fun i h => absurd h (Nat.not_lt_zero _), fun i h => absurd h (Nat.not_lt_zero _), fun i h => absurd h (Nat.not_lt_zero _), fun i h => absurd h (Nat.not_lt_zero _), fun i h => absurd h (Nat.not_lt_zero _)⟩ (fun h => absurd h (Nat.not_lt_zero _)) (Nat.zero_le _)
    · obtain ⟨b, off, spot⟩ := a
      obtain ⟨p0, hp0⟩ := raw 0 (by omega)
      obtain rfl : spot = none := by simpa [Addr.add] using World.cell?_spot hp0.c0
      obtain ⟨f, hf'⟩ := choose_lt (α := Int × Int × ByteArray × Int × Int × Int × Option Addr × Nat × Nat × (Nat → ByteArray) × (Nat → Int)) raw
      have cc : ∀ i o, (Addr.add (Addr.add ⟨b, off, none⟩ (i * 7)) o) = ⟨b, off + i * 7 + o, none⟩ := fun i o => by rw [addr_add, addr_add]
      refine hP b off len0 m (some ⟨b, off, none⟩) (fun i => (f i).1) (fun i => (f i).2.1) (fun i => (f i).2.2.2.1) (fun i => (f i).2.2.2.2.1) (fun i => (f i).2.2.2.2.2.1) (fun i => (f i).2.2.1) (fun i => (f i).2.2.2.2.2.2.1) (fun i => (f i).2.2.2.2.2.2.2.1) (fun i => (f i).2.2.2.2.2.2.2.2.1) (fun i => (f i).2.2.2.2.2.2.2.2.2.1) (fun i => (f i).2.2.2.2.2.2.2.2.2.2) ⟨fun i hi => ?_, fun i hi => ?_, fun i hi => ?_, fun i hi => ?_, fun i hi => ?_, fun i hi => ?_, fun i hi => ?_, fun i hi => (hf' i hi).wb, fun i hi => (hf' i hi).sm, fun i hi => (hf' i hi).ls, fun i hi => (hf' i hi).nl, fun i hi => (hf' i hi).lt⟩ (fun _ => rfl) (by omega)
      · have := (hf' i hi).c0; rw [cc] at this; exact this
      · have := (hf' i hi).c1; rw [cc] at this; exact this
      · have := (hf' i hi).c2; rw [cc] at this; exact this
      · have := (hf' i hi).c3; rw [cc] at this; exact this
      · have := (hf' i hi).c4; rw [cc] at this; exact this
      · have := (hf' i hi).c5; rw [cc] at this; exact this
      · have := (hf' i hi).c6; rw [cc] at this; exact this
end
end Go.Proofs.YtjnmoddcodnadaaGreatDoor
namespace Go.Proofs.YtjnmoddcodnadaaGreatDoor
open Go.ChangeShapes Go.WideShapes Go.ChangeAt Go.RowKit Go.Annal Go.Deep
theorem readsOp : Tryz.prog.readableRec 22 = true := by kernel_rfl
theorem rowOp : 22 < Tryz.prog.types.size := of_decide_eq_true (by kernel_rfl)
end Go.Proofs.YtjnmoddcodnadaaGreatDoor
