import Derived.Test.YtjnmoddcodnadaaGreatDoorG37
set_option linter.unusedVariables false
set_option linter.unusedSimpArgs false
namespace Go.Proofs.YtjnmoddcodnadaaGreatDoor
open Go.RowKit Go.Annal Go.Sort
def strV (ws : List ByteArray) : List Value := ws.map Value.string
abbrev digB (n : Int) : ByteArray := ⟨(digZ n).toArray⟩
set_option maxHeartbeats 1000000 in
set_option maxRecDepth 100000 in
theorem wordsOpen_any (name : ByteArray) (kind : Int) (w : World) (ht : Tabs w) (h1 : -1000000000000000000 < kind) (h2 : kind < 1000000000000000000) :
    Calls Tryz.prog 246 #[.agg #[.string name, .int .i64 kind]] w fun r w' => ∃ v, r = .returned v ∧ Hid (w'.ownsRow w.heap.size 9 1 v 3 (strV [⟨#[111]⟩, name, digB kind]) ∧ Below w.heap.size w w') := by
  have hka : Grew w (w.alloc (.cells #[.string name, .int .i64 kind] 140)) := (Grew.refl _).alloc _
  have hbp := heap_alloc_new w (.cells #[.string name, .int .i64 kind] 140)
  have p0 := blk_cell' hbp (o := 0) rfl
  have p1 := blk_cell' hbp (o := 1) rfl
  obtain ⟨W1, hW1⟩ : ∃ W1, w.alloc (.cells #[.string name, .int .i64 kind] 140) = W1 := ⟨_, rfl⟩
  rw [hW1] at hka hbp p0 p1
  have C : Hid (∀ W, Below w.heap.size w W → _) := fun W hW => itoa_any kind W (ht.below hW) h1 h2
  have hkb := hka.below
  go_enter Tryz.func246, Tryz.ntmps246
  go_wp2_with fail
  go_region_with (go_at_call 135; with_reducible refine Calls.mono (C.out _ ?_) ?_; (first | exact hkb.drew | exact hkb); rintro e w3 ⟨rfl, hb3⟩; have hb13 : Below W1.heap.size W1 w3 := (by first | exact below_drew hb3 | exact hb3); have p03 := cell_later hb13 p0)
  all_goals go_wp2
  all_goals go_ret
  all_goals
    have hbw := hkb.trans (hb13.mono hkb.size)
    exact ⟨_, rfl, owns_made hbw.size (by decide) rfl, hbw.alloc hbw.size _⟩
set_option maxHeartbeats 1000000 in
set_option maxRecDepth 100000 in
theorem dayWord_any (day : Int) (w : World) (ht : Tabs w) (h1 : -1000000000000000000 < day) (h2 : day < 1000000000000000000) :
    Calls Tryz.prog 239 #[.agg #[.int .i64 day]] w fun r w' => r = .returned (.string (digB day)) ∧ Below w.heap.size w w' := by
  have hka : Grew w (w.alloc (.cells #[.int .i64 day] 120)) := (Grew.refl _).alloc _
  have hbp := heap_alloc_new w (.cells #[.int .i64 day] 120)
  have p0 := blk_cell' hbp (o := 0) rfl
  obtain ⟨W1, hW1⟩ : ∃ W1, w.alloc (.cells #[.int .i64 day] 120) = W1 := ⟨_, rfl⟩
  rw [hW1] at hka hbp p0
  have C : Hid (∀ W, Below w.heap.size w W → _) := fun W hW => itoa_any day W (ht.below hW) h1 h2
  have hkb := hka.below
  go_enter Tryz.func239, Tryz.ntmps239
  go_wp2_with (go_at_call 135; with_reducible refine Calls.mono (C.out _ ?_) ?_; (first | exact hkb.drew | exact hkb); rintro e w3 ⟨rfl, hb3⟩)
  go_ret
  exact ⟨rfl, hkb.trans (hb3.mono hkb.size)⟩
set_option maxHeartbeats 1000000 in
set_option maxRecDepth 100000 in
theorem wordsRev_any (day u : Int) (g n c : Nat) (w : World) (ht : Tabs w) (h1 : -1000000000000000000 < u) (h2 : u < 1000000000000000000) :
    Calls Tryz.prog 244 #[.agg #[.int .i64 day, .slice (some ⟨g, 0, none⟩) n c, .int .i64 u]] w fun r w' => ∃ v, r = .returned v ∧ Hid (w'.ownsRow w.heap.size 9 1 v 2 (strV [⟨#[114]⟩, digB u]) ∧ Below w.heap.size w w') := by
  have hka : Grew w (w.alloc (.cells #[.int .i64 day, .slice (some ⟨g, 0, none⟩) n c, .int .i64 u] 127)) := (Grew.refl _).alloc _
  have hbp := heap_alloc_new w (.cells #[.int .i64 day, .slice (some ⟨g, 0, none⟩) n c, .int .i64 u] 127)
  have p0 := blk_cell' hbp (o := 0) rfl
  have p1 := blk_cell' hbp (o := 1) rfl
  have p2 := blk_cell' hbp (o := 2) rfl
  obtain ⟨W1, hW1⟩ : ∃ W1, w.alloc (.cells #[.int .i64 day, .slice (some ⟨g, 0, none⟩) n c, .int .i64 u] 127) = W1 := ⟨_, rfl⟩
  rw [hW1] at hka hbp p0 p1 p2
  have C : Hid (∀ W, Below w.heap.size w W → _) := fun W hW => itoa_any u W (ht.below hW) h1 h2
  have hkb := hka.below
  go_enter Tryz.func244, Tryz.ntmps244
  go_wp2_with (go_at_call 135; with_reducible refine Calls.mono (C.out _ ?_) ?_; (first | exact hkb.drew | exact hkb); rintro e w3 ⟨rfl, hb3⟩; have hb13 : Below W1.heap.size W1 w3 := (by first | exact below_drew hb3 | exact hb3))
  all_goals go_wp2
  all_goals go_ret
  all_goals
    have hbw := hkb.trans (hb13.mono hkb.size)
    exact ⟨_, rfl, owns_made hbw.size (by decide) rfl, hbw.alloc hbw.size _⟩
set_option maxHeartbeats 1000000 in
set_option maxRecDepth 100000 in
theorem wordsLock_any (day : Int) (w : World) (ht : Tabs w) (h1 : -1000000000000000000 < day) (h2 : day < 1000000000000000000) :
    Calls Tryz.prog 245 #[.agg #[.int .i64 day]] w fun r w' => ∃ v, r = .returned v ∧ Hid (w'.ownsRow w.heap.size 9 1 v 2 (strV [⟨#[108]⟩, digB day]) ∧ Below w.heap.size w w') := by
  have hka : Grew w (w.alloc (.cells #[.int .i64 day] 131)) := (Grew.refl _).alloc _
  have hbp := heap_alloc_new w (.cells #[.int .i64 day] 131)
  have p0 := blk_cell' hbp (o := 0) rfl
  obtain ⟨W1, hW1⟩ : ∃ W1, w.alloc (.cells #[.int .i64 day] 131) = W1 := ⟨_, rfl⟩
  rw [hW1] at hka hbp p0
  have C : Hid (∀ W, Below w.heap.size w W → _) := fun W hW => dayWord_any day W (ht.below hW) h1 h2
  have hkb := hka.below
  go_enter Tryz.func245, Tryz.ntmps245
  go_wp2_with (go_at_call 239; with_reducible refine Calls.mono (C.out _ ?_) ?_; (first | exact hkb.drew | exact hkb); rintro e w3 ⟨rfl, hb3⟩; have hb13 : Below W1.heap.size W1 w3 := (by first | exact below_drew hb3 | exact hb3))
  all_goals go_wp2
  all_goals go_ret
  all_goals
    have hbw := hkb.trans (hb13.mono hkb.size)
    exact ⟨_, rfl, owns_made hbw.size (by decide) rfl, hbw.alloc hbw.size _⟩
set_option maxHeartbeats 1000000 in
set_option maxRecDepth 100000 in
theorem wordsClose_any (day : Int) (g n c : Nat) (into : ByteArray) (w : World) (ht : Tabs w) (h1 : -1000000000000000000 < day) (h2 : day < 1000000000000000000) :
    Calls Tryz.prog 247 #[.agg #[.int .i64 day, .slice (some ⟨g, 0, none⟩) n c, .string into]] w fun r w' => ∃ v, r = .returned v ∧ Hid (w'.ownsRow w.heap.size 9 1 v 3 (strV [⟨#[99]⟩, digB day, into]) ∧ Below w.heap.size w w') := by
  have hka : Grew w (w.alloc (.cells #[.int .i64 day, .slice (some ⟨g, 0, none⟩) n c, .string into] 136)) := (Grew.refl _).alloc _
  have hbp := heap_alloc_new w (.cells #[.int .i64 day, .slice (some ⟨g, 0, none⟩) n c, .string into] 136)
  have p0 := blk_cell' hbp (o := 0) rfl
  have p1 := blk_cell' hbp (o := 1) rfl
  have p2 := blk_cell' hbp (o := 2) rfl
  obtain ⟨W1, hW1⟩ : ∃ W1, w.alloc (.cells #[.int .i64 day, .slice (some ⟨g, 0, none⟩) n c, .string into] 136) = W1 := ⟨_, rfl⟩
  rw [hW1] at hka hbp p0 p1 p2
  have C : Hid (∀ W, Below w.heap.size w W → _) := fun W hW => dayWord_any day W (ht.below hW) h1 h2
  have hkb := hka.below
  go_enter Tryz.func247, Tryz.ntmps247
  go_wp2_with fail
  go_region_with (go_at_call 239; with_reducible refine Calls.mono (C.out _ ?_) ?_; (first | exact hkb.drew | exact hkb); rintro e w3 ⟨rfl, hb3⟩; have hb13 : Below W1.heap.size W1 w3 := (by first | exact below_drew hb3 | exact hb3); have p23 := cell_later hb13 p2)
  all_goals go_wp2
  all_goals go_ret
  all_goals
    have hbw := hkb.trans (hb13.mono hkb.size)
    exact ⟨_, rfl, owns_made hbw.size (by decide) rfl, hbw.alloc hbw.size _⟩
end Go.Proofs.YtjnmoddcodnadaaGreatDoor
