import Derived.Test.YtjnmoddcodnadaaGreatDoorG38
set_option linter.unusedVariables false
set_option linter.unusedSimpArgs false
namespace Go.Proofs.YtjnmoddcodnadaaGreatDoor
open Go.RowKit Go.Annal Go.Sort
set_option maxHeartbeats 4000000 in
set_option maxRecDepth 100000 in
theorem step_bal (H L : Nat) (d : Ls) (kw A B C : Int) (name : ByteArray) (lv : Value) (w : World) (h : LawIs H w L d) (hnb : d.nb ≤ 100000000) (hn0 : 0 < d.nb) (h1 : -9223372036854775808 ≤ kw) (h2 : kw ≤ 9223372036854775807) :
    Calls Tryz.prog 17 #[.pointer (some ⟨L, 0, none⟩), .agg #[.int .i64 4, .int .i64 kw, .string name, .int .i64 A, .int .i64 B, .int .i64 C, lv]] w fun r w' => r = .returned (.bool true) ∧ ∃ d', LawIs H w' L d' ∧ Ls.Grows d d' ∧ Turn (fun b => H ≤ b) w w' := by
  have HL : Hid (LawIs H w L d) := h
  obtain ⟨ip, hip⟩ : ∃ ip : Nat, pickI kw d.nb = ip := ⟨(pickI kw d.nb).toNat, by have := pick_lt kw d.nb hn0; omega⟩
  have hipl : ip < d.nb := by have := pick_lt kw d.nb hn0; omega
  have CK : Hid (∀ W, Calls Tryz.prog 37 #[.int .i64 kw, .int .i64 d.nb] W fun r w' => r = .returned (.int .i64 ip) ∧ w' = W) := fun W => by
    have := pick_any kw d.nb W h1 h2 (by omega) (by omega)
    rw [hip] at this
    exact this
  obtain ⟨adb, cb, gb, eb, hcb, hab, hbc⟩ := owns_view h.rb
  obtain ⟨rfl, _, _⟩ := hab (by omega)
  have cL := blk_cell' h.bk (o := 0) rfl
  rw [eb] at cL
  have q0 : w.cell? ⟨gb, ip * 2, none⟩ = some (.pointer (some ⟨d.B ip, 0, none⟩)) := by
    rw [hbc (ip * 2) (by omega)]
    exact flat_get 2 (fun i => [Value.pointer (some ⟨d.B i, 0, none⟩), .pointer (some ⟨d.R i, 0, none⟩)]) (fun _ => rfl) d.nb ip 0 hipl (by omega)
  have q1 : w.cell? ⟨gb, ip * 2 + 1, none⟩ = some (.pointer (some ⟨d.R ip, 0, none⟩)) := by
    rw [hbc (ip * 2 + 1) (by omega)]
    exact flat_get 2 (fun i => [Value.pointer (some ⟨d.B i, 0, none⟩), .pointer (some ⟨d.R i, 0, none⟩)]) (fun _ => rfl) d.nb ip 1 hipl (by omega)
  have hi1 : (0 : Int) ≤ (ip : Int) := by omega
  have hi2 : (ip : Int) < (d.nb : Int) := by omega
  have hn1 : ¬ (d.nb : Int) = 0 := by omega
  clear h hbc eb hip
  have hga : Grew w (w.alloc (.cells #[.int .i64 4, .int .i64 kw, .string name, .int .i64 A, .int .i64 B, .int .i64 C, lv] 56)) := (Grew.refl w).alloc _
  have cL' := hga.cell' cL
  have q0' := hga.cell' q0
  have q1' := hga.cell' q1
  go_enter Tryz.func17, Tryz.ntmps17
  go_wp2_with (first
    | (go_at_call 37; refine Calls.mono (CK.out _) ?_; rintro e wx ⟨rfl, hw⟩; rw [hw]; clear hw wx))
  have hne1 : L ≠ w.heap.size := by have := blk_lt HL.out.bk; omega
  go_region_held3 (fun w' => w'.cell? ⟨L, 0, none⟩ = some (.slice (some ⟨gb, 0, none⟩) d.nb cb) ∧ w'.cell? ⟨w.heap.size, 1, none⟩ = some (.int .i64 kw) ∧ w'.cell? ⟨gb, ip * 2, none⟩ = some (.pointer (some ⟨d.B ip, 0, none⟩)) ∧ w'.cell? ⟨gb, ip * 2 + 1, none⟩ = some (.pointer (some ⟨d.R ip, 0, none⟩))) (go_keep) (first | (go_at_call 37; refine Calls.mono (CK.out _) ?_; rintro e wx ⟨rfl, hw⟩; rw [hw]; clear hw wx))
  all_goals
    have hb2 : Below w.heap.size w ((w.alloc (.cells #[.int .i64 4, .int .i64 kw, .string name, .int .i64 A, .int .i64 B, .int .i64 C, lv] 56)).alloc (.cells #[.pointer (some ⟨d.B ip, 0, none⟩), .pointer (some ⟨d.R ip, 0, none⟩)] 94)).drew := ((((Grew.refl w).alloc _).alloc _).drew).below
    have hx1 : ((w.alloc (.cells #[.int .i64 4, .int .i64 kw, .string name, .int .i64 A, .int .i64 B, .int .i64 C, lv] 56)).alloc (.cells #[.pointer (some ⟨d.B ip, 0, none⟩), .pointer (some ⟨d.R ip, 0, none⟩)] 94)).drew.heap[w.heap.size]? = some (.cells #[.int .i64 4, .int .i64 kw, .string name, .int .i64 A, .int .i64 B, .int .i64 C, lv] 56 (0, 0)) := Grew.blk ((Grew.refl _).alloc _).drew (heap_alloc_new w _)
    have hx2 : ((w.alloc (.cells #[.int .i64 4, .int .i64 kw, .string name, .int .i64 A, .int .i64 B, .int .i64 C, lv] 56)).alloc (.cells #[.pointer (some ⟨d.B ip, 0, none⟩), .pointer (some ⟨d.R ip, 0, none⟩)] 94)).drew.heap[w.heap.size + 1]? = some (.cells #[.pointer (some ⟨d.B ip, 0, none⟩), .pointer (some ⟨d.R ip, 0, none⟩)] 94 (0, 0)) := by
      have := heap_alloc_new (w.alloc (.cells #[.int .i64 4, .int .i64 kw, .string name, .int .i64 A, .int .i64 B, .int .i64 C, lv] 56)) (.cells #[.pointer (some ⟨d.B ip, 0, none⟩), .pointer (some ⟨d.R ip, 0, none⟩)] 94)
      rwa [World.size_alloc] at this
    obtain ⟨W2, hW2⟩ : ∃ W2, ((w.alloc (.cells #[.int .i64 4, .int .i64 kw, .string name, .int .i64 A, .int .i64 B, .int .i64 C, lv] 56)).alloc (.cells #[.pointer (some ⟨d.B ip, 0, none⟩), .pointer (some ⟨d.R ip, 0, none⟩)] 94)).drew = W2 := ⟨_, rfl⟩
    rw [hW2] at hb2 hx1 hx2 ⊢
    clear hW2 cL' q0' q1' hga cL q0 q1
  all_goals
    have a0 := blk_cell' hx1 (o := 0) rfl
    have a1 := blk_cell' hx1 (o := 1) rfl
    have a2 := blk_cell' hx1 (o := 2) rfl
    have a3 := blk_cell' hx1 (o := 3) rfl
    have a4 := blk_cell' hx1 (o := 4) rfl
    have a5 := blk_cell' hx1 (o := 5) rfl
    have a6 := blk_cell' hx1 (o := 6) rfl
    have b0 := blk_cell' hx2 (o := 0) rfl
    have b1 := blk_cell' hx2 (o := 1) rfl
    have C1 : Hid (type_of% (asks_bal H L ip d kw A B C name lv W2 (HL.out.mv hb2) hipl)) := asks_bal H L ip d kw A B C name lv W2 (HL.out.mv hb2) hipl
  go_wp2_with (go_at_call 45; refine Calls.mono C1.out ?_; rintro e w3 ⟨rfl, hd', hb3⟩)
  all_goals go_ret
  all_goals exact ⟨rfl, d, hd', ⟨⟨Nat.le_refl _, Nat.le_succ _⟩, Nat.le_add_right _ _, Nat.le_add_right _ _, Nat.le_succ _⟩, (Turn.of_below hb2).trans (Turn.of_below hb3)⟩
set_option maxHeartbeats 4000000 in
set_option maxRecDepth 100000 in
theorem step_trial (H L : Nat) (d : Ls) (kw A B C : Int) (name : ByteArray) (lv : Value) (w : World) (h : LawIs H w L d) (hnb : d.nb ≤ 100000000) (hn0 : 0 < d.nb) (h1 : -9223372036854775808 ≤ kw) (h2 : kw ≤ 9223372036854775807) (hnl : d.nl ≤ 100000000) (hni : d.ni ≤ 100000000) (hnt : d.nt ≤ 100000000) :
    Calls Tryz.prog 17 #[.pointer (some ⟨L, 0, none⟩), .agg #[.int .i64 5, .int .i64 kw, .string name, .int .i64 A, .int .i64 B, .int .i64 C, lv]] w fun r w' => r = .returned (.bool true) ∧ ∃ d', LawIs H w' L d' ∧ Ls.Grows d d' ∧ Turn (fun b => H ≤ b) w w' := by
  have HL : Hid (LawIs H w L d) := h
  obtain ⟨ip, hip⟩ : ∃ ip : Nat, pickI kw d.nb = ip := ⟨(pickI kw d.nb).toNat, by have := pick_lt kw d.nb hn0; omega⟩
  have hipl : ip < d.nb := by have := pick_lt kw d.nb hn0; omega
  have CK : Hid (∀ W, Calls Tryz.prog 37 #[.int .i64 kw, .int .i64 d.nb] W fun r w' => r = .returned (.int .i64 ip) ∧ w' = W) := fun W => by
    have := pick_any kw d.nb W h1 h2 (by omega) (by omega)
    rw [hip] at this
    exact this
  obtain ⟨adb, cb, gb, eb, hcb, hab, hbc⟩ := owns_view h.rb
  obtain ⟨rfl, _, _⟩ := hab (by omega)
  have cL := blk_cell' h.bk (o := 0) rfl
  rw [eb] at cL
  have q0 : w.cell? ⟨gb, ip * 2, none⟩ = some (.pointer (some ⟨d.B ip, 0, none⟩)) := by
    rw [hbc (ip * 2) (by omega)]
    exact flat_get 2 (fun i => [Value.pointer (some ⟨d.B i, 0, none⟩), .pointer (some ⟨d.R i, 0, none⟩)]) (fun _ => rfl) d.nb ip 0 hipl (by omega)
  have q1 : w.cell? ⟨gb, ip * 2 + 1, none⟩ = some (.pointer (some ⟨d.R ip, 0, none⟩)) := by
    rw [hbc (ip * 2 + 1) (by omega)]
    exact flat_get 2 (fun i => [Value.pointer (some ⟨d.B i, 0, none⟩), .pointer (some ⟨d.R i, 0, none⟩)]) (fun _ => rfl) d.nb ip 1 hipl (by omega)
  have hi1 : (0 : Int) ≤ (ip : Int) := by omega
  have hi2 : (ip : Int) < (d.nb : Int) := by omega
  have hn1 : ¬ (d.nb : Int) = 0 := by omega
  clear h hbc eb hip
  have hga : Grew w (w.alloc (.cells #[.int .i64 5, .int .i64 kw, .string name, .int .i64 A, .int .i64 B, .int .i64 C, lv] 56)) := (Grew.refl w).alloc _
  have cL' := hga.cell' cL
  have q0' := hga.cell' q0
  have q1' := hga.cell' q1
  go_enter Tryz.func17, Tryz.ntmps17
  go_wp2_with (first
    | (go_at_call 37; refine Calls.mono (CK.out _) ?_; rintro e wx ⟨rfl, hw⟩; rw [hw]; clear hw wx))
  have hne1 : L ≠ w.heap.size := by have := blk_lt HL.out.bk; omega
  go_region_held3 (fun w' => w'.cell? ⟨L, 0, none⟩ = some (.slice (some ⟨gb, 0, none⟩) d.nb cb) ∧ w'.cell? ⟨w.heap.size, 1, none⟩ = some (.int .i64 kw) ∧ w'.cell? ⟨gb, ip * 2, none⟩ = some (.pointer (some ⟨d.B ip, 0, none⟩)) ∧ w'.cell? ⟨gb, ip * 2 + 1, none⟩ = some (.pointer (some ⟨d.R ip, 0, none⟩))) (go_keep) (first | (go_at_call 37; refine Calls.mono (CK.out _) ?_; rintro e wx ⟨rfl, hw⟩; rw [hw]; clear hw wx))
  all_goals
    have hb2 : Below w.heap.size w ((w.alloc (.cells #[.int .i64 5, .int .i64 kw, .string name, .int .i64 A, .int .i64 B, .int .i64 C, lv] 56)).alloc (.cells #[.pointer (some ⟨d.B ip, 0, none⟩), .pointer (some ⟨d.R ip, 0, none⟩)] 94)).drew := ((((Grew.refl w).alloc _).alloc _).drew).below
    have hx1 : ((w.alloc (.cells #[.int .i64 5, .int .i64 kw, .string name, .int .i64 A, .int .i64 B, .int .i64 C, lv] 56)).alloc (.cells #[.pointer (some ⟨d.B ip, 0, none⟩), .pointer (some ⟨d.R ip, 0, none⟩)] 94)).drew.heap[w.heap.size]? = some (.cells #[.int .i64 5, .int .i64 kw, .string name, .int .i64 A, .int .i64 B, .int .i64 C, lv] 56 (0, 0)) := Grew.blk ((Grew.refl _).alloc _).drew (heap_alloc_new w _)
    have hx2 : ((w.alloc (.cells #[.int .i64 5, .int .i64 kw, .string name, .int .i64 A, .int .i64 B, .int .i64 C, lv] 56)).alloc (.cells #[.pointer (some ⟨d.B ip, 0, none⟩), .pointer (some ⟨d.R ip, 0, none⟩)] 94)).drew.heap[w.heap.size + 1]? = some (.cells #[.pointer (some ⟨d.B ip, 0, none⟩), .pointer (some ⟨d.R ip, 0, none⟩)] 94 (0, 0)) := by
      have := heap_alloc_new (w.alloc (.cells #[.int .i64 5, .int .i64 kw, .string name, .int .i64 A, .int .i64 B, .int .i64 C, lv] 56)) (.cells #[.pointer (some ⟨d.B ip, 0, none⟩), .pointer (some ⟨d.R ip, 0, none⟩)] 94)
      rwa [World.size_alloc] at this
    obtain ⟨W2, hW2⟩ : ∃ W2, ((w.alloc (.cells #[.int .i64 5, .int .i64 kw, .string name, .int .i64 A, .int .i64 B, .int .i64 C, lv] 56)).alloc (.cells #[.pointer (some ⟨d.B ip, 0, none⟩), .pointer (some ⟨d.R ip, 0, none⟩)] 94)).drew = W2 := ⟨_, rfl⟩
    rw [hW2] at hb2 hx1 hx2 ⊢
    clear hW2 cL' q0' q1' hga cL q0 q1
  all_goals
    have a0 := blk_cell' hx1 (o := 0) rfl
    have a1 := blk_cell' hx1 (o := 1) rfl
    have a2 := blk_cell' hx1 (o := 2) rfl
    have a3 := blk_cell' hx1 (o := 3) rfl
    have a4 := blk_cell' hx1 (o := 4) rfl
    have a5 := blk_cell' hx1 (o := 5) rfl
    have a6 := blk_cell' hx1 (o := 6) rfl
    have b0 := blk_cell' hx2 (o := 0) rfl
    have b1 := blk_cell' hx2 (o := 1) rfl
    have C1 : Hid (type_of% (asks_trial H L ip d kw A B C name lv W2 (HL.out.mv hb2) hipl hnl hni hnt)) := asks_trial H L ip d kw A B C name lv W2 (HL.out.mv hb2) hipl hnl hni hnt
  go_wp2_with (go_at_call 45; refine Calls.mono C1.out ?_; rintro e w3 ⟨rfl, d', hd', hgr, hT⟩)
  all_goals go_ret
  all_goals exact ⟨rfl, d', hd', hgr, (Turn.of_below hb2).trans hT⟩
set_option maxHeartbeats 4000000 in
set_option maxRecDepth 100000 in
theorem step_items (H L : Nat) (d : Ls) (kw A B C : Int) (name : ByteArray) (lv : Value) (w : World) (h : LawIs H w L d) (hnb : d.nb ≤ 100000000) (hn0 : 0 < d.nb) (h1 : -9223372036854775808 ≤ kw) (h2 : kw ≤ 9223372036854775807) (hnl : d.nl ≤ 100000000) (hni : d.ni ≤ 100000000) (hnt : d.nt ≤ 100000000) :
    Calls Tryz.prog 17 #[.pointer (some ⟨L, 0, none⟩), .agg #[.int .i64 6, .int .i64 kw, .string name, .int .i64 A, .int .i64 B, .int .i64 C, lv]] w fun r w' => r = .returned (.bool true) ∧ ∃ d', LawIs H w' L d' ∧ Ls.Grows d d' ∧ Turn (fun b => H ≤ b) w w' := by
  have HL : Hid (LawIs H w L d) := h
  obtain ⟨ip, hip⟩ : ∃ ip : Nat, pickI kw d.nb = ip := ⟨(pickI kw d.nb).toNat, by have := pick_lt kw d.nb hn0; omega⟩
  have hipl : ip < d.nb := by have := pick_lt kw d.nb hn0; omega
  have CK : Hid (∀ W, Calls Tryz.prog 37 #[.int .i64 kw, .int .i64 d.nb] W fun r w' => r = .returned (.int .i64 ip) ∧ w' = W) := fun W => by
    have := pick_any kw d.nb W h1 h2 (by omega) (by omega)
    rw [hip] at this
    exact this
  obtain ⟨adb, cb, gb, eb, hcb, hab, hbc⟩ := owns_view h.rb
  obtain ⟨rfl, _, _⟩ := hab (by omega)
  have cL := blk_cell' h.bk (o := 0) rfl
  rw [eb] at cL
  have q0 : w.cell? ⟨gb, ip * 2, none⟩ = some (.pointer (some ⟨d.B ip, 0, none⟩)) := by
    rw [hbc (ip * 2) (by omega)]
    exact flat_get 2 (fun i => [Value.pointer (some ⟨d.B i, 0, none⟩), .pointer (some ⟨d.R i, 0, none⟩)]) (fun _ => rfl) d.nb ip 0 hipl (by omega)
  have q1 : w.cell? ⟨gb, ip * 2 + 1, none⟩ = some (.pointer (some ⟨d.R ip, 0, none⟩)) := by
    rw [hbc (ip * 2 + 1) (by omega)]
    exact flat_get 2 (fun i => [Value.pointer (some ⟨d.B i, 0, none⟩), .pointer (some ⟨d.R i, 0, none⟩)]) (fun _ => rfl) d.nb ip 1 hipl (by omega)
  have hi1 : (0 : Int) ≤ (ip : Int) := by omega
  have hi2 : (ip : Int) < (d.nb : Int) := by omega
  have hn1 : ¬ (d.nb : Int) = 0 := by omega
  clear h hbc eb hip
  have hga : Grew w (w.alloc (.cells #[.int .i64 6, .int .i64 kw, .string name, .int .i64 A, .int .i64 B, .int .i64 C, lv] 56)) := (Grew.refl w).alloc _
  have cL' := hga.cell' cL
  have q0' := hga.cell' q0
  have q1' := hga.cell' q1
  go_enter Tryz.func17, Tryz.ntmps17
  go_wp2_with (first
    | (go_at_call 37; refine Calls.mono (CK.out _) ?_; rintro e wx ⟨rfl, hw⟩; rw [hw]; clear hw wx))
  have hne1 : L ≠ w.heap.size := by have := blk_lt HL.out.bk; omega
  go_region_held3 (fun w' => w'.cell? ⟨L, 0, none⟩ = some (.slice (some ⟨gb, 0, none⟩) d.nb cb) ∧ w'.cell? ⟨w.heap.size, 1, none⟩ = some (.int .i64 kw) ∧ w'.cell? ⟨gb, ip * 2, none⟩ = some (.pointer (some ⟨d.B ip, 0, none⟩)) ∧ w'.cell? ⟨gb, ip * 2 + 1, none⟩ = some (.pointer (some ⟨d.R ip, 0, none⟩))) (go_keep) (first | (go_at_call 37; refine Calls.mono (CK.out _) ?_; rintro e wx ⟨rfl, hw⟩; rw [hw]; clear hw wx))
  all_goals
    have hb2 : Below w.heap.size w ((w.alloc (.cells #[.int .i64 6, .int .i64 kw, .string name, .int .i64 A, .int .i64 B, .int .i64 C, lv] 56)).alloc (.cells #[.pointer (some ⟨d.B ip, 0, none⟩), .pointer (some ⟨d.R ip, 0, none⟩)] 94)).drew := ((((Grew.refl w).alloc _).alloc _).drew).below
    have hx1 : ((w.alloc (.cells #[.int .i64 6, .int .i64 kw, .string name, .int .i64 A, .int .i64 B, .int .i64 C, lv] 56)).alloc (.cells #[.pointer (some ⟨d.B ip, 0, none⟩), .pointer (some ⟨d.R ip, 0, none⟩)] 94)).drew.heap[w.heap.size]? = some (.cells #[.int .i64 6, .int .i64 kw, .string name, .int .i64 A, .int .i64 B, .int .i64 C, lv] 56 (0, 0)) := Grew.blk ((Grew.refl _).alloc _).drew (heap_alloc_new w _)
    have hx2 : ((w.alloc (.cells #[.int .i64 6, .int .i64 kw, .string name, .int .i64 A, .int .i64 B, .int .i64 C, lv] 56)).alloc (.cells #[.pointer (some ⟨d.B ip, 0, none⟩), .pointer (some ⟨d.R ip, 0, none⟩)] 94)).drew.heap[w.heap.size + 1]? = some (.cells #[.pointer (some ⟨d.B ip, 0, none⟩), .pointer (some ⟨d.R ip, 0, none⟩)] 94 (0, 0)) := by
      have := heap_alloc_new (w.alloc (.cells #[.int .i64 6, .int .i64 kw, .string name, .int .i64 A, .int .i64 B, .int .i64 C, lv] 56)) (.cells #[.pointer (some ⟨d.B ip, 0, none⟩), .pointer (some ⟨d.R ip, 0, none⟩)] 94)
      rwa [World.size_alloc] at this
    obtain ⟨W2, hW2⟩ : ∃ W2, ((w.alloc (.cells #[.int .i64 6, .int .i64 kw, .string name, .int .i64 A, .int .i64 B, .int .i64 C, lv] 56)).alloc (.cells #[.pointer (some ⟨d.B ip, 0, none⟩), .pointer (some ⟨d.R ip, 0, none⟩)] 94)).drew = W2 := ⟨_, rfl⟩
    rw [hW2] at hb2 hx1 hx2 ⊢
    clear hW2 cL' q0' q1' hga cL q0 q1
  all_goals
    have a0 := blk_cell' hx1 (o := 0) rfl
    have a1 := blk_cell' hx1 (o := 1) rfl
    have a2 := blk_cell' hx1 (o := 2) rfl
    have a3 := blk_cell' hx1 (o := 3) rfl
    have a4 := blk_cell' hx1 (o := 4) rfl
    have a5 := blk_cell' hx1 (o := 5) rfl
    have a6 := blk_cell' hx1 (o := 6) rfl
    have b0 := blk_cell' hx2 (o := 0) rfl
    have b1 := blk_cell' hx2 (o := 1) rfl
    have C1 : Hid (type_of% (asks_items H L ip d kw A B C name lv W2 (HL.out.mv hb2) hipl hnl hni hnt)) := asks_items H L ip d kw A B C name lv W2 (HL.out.mv hb2) hipl hnl hni hnt
  go_wp2_with (go_at_call 45; refine Calls.mono C1.out ?_; rintro e w3 ⟨rfl, d', hd', hgr, hT⟩)
  all_goals go_ret
  all_goals exact ⟨rfl, d', hd', hgr, (Turn.of_below hb2).trans hT⟩
end Go.Proofs.YtjnmoddcodnadaaGreatDoor
