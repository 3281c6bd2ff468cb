import Derived.Test.YtjnmoddcodnadaaGreatDoorG19
import Derived.Test.YtjnmoddcodnadaaGreatDoorG20
set_option linter.unusedVariables false
set_option linter.unusedSimpArgs false
namespace Go.Annal
/-- One account more. -/
def Bk.opens (k : Bk) (p A g cap : Nat) (name : ByteArray) : Bk := { k with na := k.na + 1, ca := cap, ada := some ⟨g, 0, none⟩, pa := sh p A k.pa, nm := sh p name k.nm }
end Go.Annal
namespace Go.Proofs.YtjnmoddcodnadaaGreatDoor
open Go.RowKit Go.Annal Go.Sort
set_option maxHeartbeats 1000000 in
set_option maxRecDepth 100000 in
theorem open_insert (B : Nat) (k : Bk) (kd : Nat → Int) (mm : Nat → Nat) (ff : Nat → Nat → It) (F : Nat → Prop) (name : ByteArray) (kind : Int) (p o : Nat) (w W W5 : World) (h : BookIs w B k) (hA : Accs w k.na k.pa k.nm kd mm ff F) (hR : Rise (sh p name k.nm) (k.na + 1)) (hna : k.na < 10) (hpl : p ≤ k.na) (hb : Below w.heap.size w W)
    (ho : W.heap[o]? = some (.cells #[.string name, .int .i64 kind] 140 (0, 0))) (ho2 : w.heap.size ≤ o)
    (hW5 : W5 = ((W.alloc (.cells #[.string name, .int .i64 kind, .slice none 0 0] 145)).alloc (.cells #[.pointer (some ⟨W.heap.size, 0, none⟩)] 132)).drew) :
    Calls Tryz.prog 75 #[k.av, .int .i64 p, .slice (some ⟨W.heap.size + 1, 0, none⟩) 1 1] W5 fun r w' => ∃ g' cap', r = .returned (.slice (some ⟨g', 0, none⟩) (k.na + 1) cap') ∧
        w'.cell? ⟨B, 0, none⟩ = some k.av ∧ w'.frozen? ⟨B, 0, none⟩ = false ∧ ∃ w'' F', w'.setCell ⟨B, 0, none⟩ (.slice (some ⟨g', 0, none⟩) (k.na + 1) cap') = w'' ∧ w''.cell? ⟨B, 1, none⟩ = some k.dv ∧ w''.cell? ⟨o, 0, none⟩ = some (.string name) ∧ w''.cell? ⟨o, 1, none⟩ = some (.int .i64 kind) ∧
        Hid (BookIs w'' B (k.opens p W.heap.size g' cap' name) ∧ Accs w'' (k.na + 1) (sh p W.heap.size k.pa) (sh p name k.nm) (sh p kind kd) (sh p 0 mm) (sh p (fun _ => (0, 0, 0)) ff) F' ∧
        Turn (fun b => b = B ∨ k.av.ownBlock = some b) w w'' ∧ (∀ b, F' b → F b ∨ w.heap.size ≤ b) ∧ (k.av.ownBlock = some g' ∨ w.heap.size ≤ g')) := by
    have hT5 : Turn (fun _ => False) w W5 := by rw [hW5]; exact (((Turn.of_below hb).alloc _).alloc _).drew
    have h5 := h.turn hT5 (fun _ _ h => h)
    have hA5 := hA.turn hT5 (fun _ _ h => h)
    have hbs := hb.size
    have hRB := blk_lt h.bk
    have hv : W5.heap[W.heap.size + 1]? = some (.cells #[.pointer (some ⟨W.heap.size, 0, none⟩)] 132 (0, 0)) := by
      rw [hW5]; exact heap_alloc2_new W _ _
    have hA4 : W5.heap[W.heap.size]? = some (.cells #[.string name, .int .i64 kind, .slice none 0 0] 145 (0, 0)) := by
      rw [hW5]; exact heap_alloc2_old W _ _
    have ho5 : W5.heap[o]? = some (.cells #[.string name, .int .i64 kind] 140 (0, 0)) := by
      rw [hW5]; exact Grew.blk ((((Grew.refl W).alloc _).alloc _).drew) ho
    have hown0 := h.ac
    have hvb : k.av.ownBlock ≠ some (W.heap.size + 1) := fun e => by have := (hown0.lt _ e).2; omega
    refine (insert_any k.av k.ada k.ca k.na p (W.heap.size + 1) (ptrs k.pa k.na) _ W5 rfl h5.ac hpl (by omega) hv hvb rfl (ptrs_one k.pa k.na)).mono ?_
    rintro r w' ⟨g', cap', rfl, hown, hT, hg⟩
    have hoB : k.av.ownBlock ≠ some B := owns_ne h5.ac h5.bk (by decide)
    have bk' := hT.blk h5.bk hoB
    have hoA : k.av.ownBlock ≠ some W.heap.size := fun e => by have := (hown0.lt _ e).2; omega
    have hoo : k.av.ownBlock ≠ some o := fun e => by have := (hown0.lt _ e).2; omega
    have hA6 := hT.blk hA4 hoA
    have hFo : ∀ b, F b → k.av.ownBlock ≠ some b := fun b hb e => h5.apart hA5 (.inr (.inl e)) hb
    have hFB : ¬ F B := h5.apart hA5 (.inl rfl)
    have hFA : ¬ F W.heap.size := fun hk => by
      obtain ⟨c, t, hc, _⟩ := hA.kind hk
      have := blk_lt hc; omega
    have hset := blk_set bk' 0 (.slice (some ⟨g', 0, none⟩) (k.na + 1) cap')
    have hAB : W.heap.size ≠ B := by omega
    have hT6 : Turn (fun b => b = B ∨ k.av.ownBlock = some b) W5 (w'.setCell ⟨B, 0, none⟩ (.slice (some ⟨g', 0, none⟩) (k.na + 1) cap')) := (hT.mono (fun b _ hb => .inr hb)).set _ _ (fun _ => .inl rfl)
    have hoo6 := hT6.blk ho5 (fun hs => hs.elim (fun e => by omega) (fun e => hoo e))
    refine ⟨g', cap', rfl, blk_cell' bk' (o := 0) rfl, blk_free bk' 0, _, fun b => F b ∨ b = W.heap.size, rfl, blk_cell' hset rfl, blk_cell' hoo6 rfl, blk_cell' hoo6 rfl, ⟨⟨hset, ?_, ?_, ?_, hR.up⟩, ?_, (hT5.mono (fun _ _ h => h.elim)).trans hT6, ?_, ?_⟩⟩
    · have e := ptrs_open k.pa k.na p W.heap.size hpl
      show World.ownsRow _ _ _ _ _ _ (ptrs (sh p W.heap.size k.pa) (k.na + 1))
      rw [e]
      exact ownsRow_setCell_other hown (a := ⟨B, 0, none⟩) (owns_ne hown bk' (by decide)) _
    · exact owns_turn h5.dn hT6 (fun b hb hs => by
        rcases hs with rfl | hs
        · exact owns_ne h5.dn h5.bk (by decide) hb
        · obtain ⟨c, f, hc⟩ := owns_kind h5.ac b hs
          exact owns_ne h5.dn hc (by decide) hb)
    · exact owns_turn h5.en hT6 (fun b hb hs => by
        rcases hs with rfl | hs
        · exact owns_ne h5.en h5.bk (by decide) hb
        · obtain ⟨c, f, hc⟩ := owns_kind h5.ac b hs
          exact owns_ne h5.en hc (by decide) hb)
    · exact accs_open (hA5.turn hT6 (fun b hb hs => hs.elim (fun e => hFB (e ▸ hb)) (fun e => hFo b hb e))) hpl (hT6.blk hA4 (fun hs => hs.elim (fun e => hAB e) (fun e => hoA e))) hFA
    · rintro b (hb | rfl)
      · exact .inl hb
      · exact .inr hbs
    · rcases hg with hg | hg
      · exact .inl hg
      · have := hT5.size
        exact .inr (by omega)
theorem open_fin {w w6 w8 : World} {B : Nat} {k : Bk} {p A g' cap' : Nat} {name : ByteArray} {kind : Int} {kd : Nat → Int} {mm : Nat → Nat} {ff : Nat → Nat → It} {F F' : Nat → Prop} {g7 cap7 : Nat} {e : Value}
    (h6 : BookIs w6 B (k.opens p A g' cap' name) ∧ Accs w6 (k.na + 1) (sh p A k.pa) (sh p name k.nm) (sh p kind kd) (sh p 0 mm) (sh p (fun _ => (0, 0, 0)) ff) F' ∧ Turn (fun b => b = B ∨ k.av.ownBlock = some b) w w6 ∧ (∀ b, F' b → F b ∨ w.heap.size ≤ b) ∧ (k.av.ownBlock = some g' ∨ w.heap.size ≤ g'))
    (h8 : BookIs w8 B ((k.opens p A g' cap' name).did g7 cap7 e) ∧ Turn (fun b => b = B ∨ (k.opens p A g' cap' name).dv.ownBlock = some b) w6 w8) (hat : k.dv.ownBlock = some g7 ∨ g7 = w6.heap.size + 1) (hA : w.heap.size ≤ A) :
    Hid (∃ A g cap g2 cap2 F', w.heap.size ≤ A ∧ BookIs w8 B ((k.opens p A g cap name).did g2 cap2 e) ∧ Accs w8 (k.na + 1) (sh p A k.pa) (sh p name k.nm) (sh p kind kd) (sh p 0 mm) (sh p (fun _ => (0, 0, 0)) ff) F' ∧
      Turn (fun b => k.own B b) w w8 ∧ (∀ b, F' b → F b ∨ w.heap.size ≤ b) ∧ (k.av.ownBlock = some g ∨ w.heap.size ≤ g) ∧ (k.dv.ownBlock = some g2 ∨ w.heap.size ≤ g2)) := by
  obtain ⟨hB6, hA6, hT6, hF6, hg6⟩ := h6
  refine ⟨A, g', cap', g7, cap7, F', hA, h8.1, hA6.turn h8.2 (fun b hb hs => ?_), ?_, hF6, hg6, hat.elim .inl (fun h => .inr (by have := hT6.size; omega))⟩
  · rcases hs with rfl | hs
    · exact hB6.apart hA6 (.inl rfl) hb
    · exact hB6.apart hA6 (.inr (.inr (.inl hs))) hb
  · exact (hT6.mono (fun b _ hb => hb.elim .inl (fun h => .inr (.inl h)))).trans (h8.2.mono (fun b _ hb => hb.elim .inl (fun h => .inr (.inr (.inl h)))))
set_option maxHeartbeats 20000000 in
set_option maxRecDepth 100000 in
theorem OpenA_ok (B : Nat) (k : Bk) (kd : Nat → Int) (mm : Nat → Nat) (ff : Nat → Nat → It) (F : Nat → Prop) (name : ByteArray) (kind : Int) (w : World) (h : BookIs w B k) (hA : Accs w k.na k.pa k.nm kd mm ff F) (hR : Rise (sh (lessN k.nm k.na name) name k.nm) (k.na + 1)) (hna : k.na < 10) (hnd : k.nd ≤ 100000) (hs : name.size ≤ 1000000000)
    (h1 : isName name = true) (h2 : kind = 0 ∨ kind = 1) (h3 : isAt k.nm k.na name = false) :
    Calls Tryz.prog 38 #[.pointer (some ⟨B, 0, none⟩), .string name, .int .i64 kind] w fun r w' => r = .returned (.int .i64 0) ∧ Hid (∃ A g cap g2 cap2 F', w.heap.size ≤ A ∧
      BookIs w' B ((k.opens (lessN k.nm k.na name) A g cap name).did g2 cap2 (.iface 140 (.agg #[.string name, .int .i64 kind]))) ∧ Accs w' (k.na + 1) (sh (lessN k.nm k.na name) A k.pa) (sh (lessN k.nm k.na name) name k.nm) (sh (lessN k.nm k.na name) kind kd) (sh (lessN k.nm k.na name) 0 mm) (sh (lessN k.nm k.na name) (fun _ => (0, 0, 0)) ff) F' ∧
      Turn (fun b => k.own B b) w w' ∧ (∀ b, F' b → F b ∨ w.heap.size ≤ b) ∧ (k.av.ownBlock = some g ∨ w.heap.size ≤ g) ∧ (k.dv.ownBlock = some g2 ∨ w.heap.size ≤ g2)) := by
  obtain ⟨i0, hi, hz0, hz1, hz2⟩ := info_parts Tryz.infoDeed
  obtain ⟨ga, hat⟩ := h.at hA
  have C1 : Hid (type_of% (place_any B ga k.ca k.na k.ada k.pa k.nm name w hat (by omega))) := place_any B ga k.ca k.na k.ada k.pa k.nm name w hat (by omega)
  have C2 : Hid (type_of% (fun W => right_any name W (by omega))) := fun W => right_any name W (by omega)
  have C3 : Hid (type_of% (fun W => clone_any name W hs)) := fun W => clone_any name W hs
  have hpl := lessN_le k.nm k.na name
  rw [h3] at C1
  rw [h1] at C2
  have cA : w.cell? ⟨B, 0, none⟩ = some k.av := hat.cB
  have hna' : ¬ (10 : Int) ≤ (k.na : Int) := by omega
  generalize lessN k.nm k.na name = p at *
  have hx1 : ∀ u ∈ [Value.iface 140 (.agg #[.string name, .int .i64 kind])], u.oneCell' = true := by simp [Value.oneCell']
  have HI : Hid (∀ W o W5, Below w.heap.size w W → W.heap[o]? = some (.cells #[.string name, .int .i64 kind] 140 (0, 0)) → w.heap.size ≤ o → W5 = ((W.alloc (.cells #[.string name, .int .i64 kind, .slice none 0 0] 145)).alloc (.cells #[.pointer (some ⟨W.heap.size, 0, none⟩)] 132)).drew → _) := fun W o W5 q1 q2 q3 q4 => open_insert B k kd mm ff F name kind p o w W W5 h hA hR hna hpl q1 q2 q3 q4
  have HD : Hid (∀ (w4 w5 : World) (k1 : Bk) (g cap : Nat), BookIs w4 B k1 → w5.ownsRow 0 70 1 (.slice (some ⟨g, 0, none⟩) (k1.nd + 1) cap) (k1.nd + 1) (k1.ds ++ [.iface 140 (.agg #[.string name, .int .i64 kind])]) → (w4.alloc (.cells #[.iface 140 (.agg #[.string name, .int .i64 kind])] 70)).grownBy w5 k1.dv.ownBlock → w5.cell? ⟨B, 1, none⟩ = some k1.dv ∧ w5.frozen? ⟨B, 1, none⟩ = false ∧ ∃ w6, w5.setCell ⟨B, 1, none⟩ (.slice (some ⟨g, 0, none⟩) (k1.nd + 1) cap) = w6 ∧ Hid (BookIs w6 B (k1.did g cap (.iface 140 (.agg #[.string name, .int .i64 kind]))) ∧ Turn (fun b => b = B ∨ k1.dv.ownBlock = some b) w4 w6)) := by
    intro w4 w5 k1 g cap h4 ho hg
    obtain ⟨q1, q2⟩ := book_did h4 (((Grew.refl w4).alloc _).below) ho hg
    exact ⟨blk_cell' q1 rfl, blk_free q1 1, _, rfl, q2 _ rfl⟩
  have HB : Hid (type_of% h) := h
  have HAC : Hid (type_of% hA) := hA
  clear hat h hA h1 h3 hR
  have k0 : (kind != 0 && kind != 1) = false := by rcases h2 with rfl | rfl <;> rfl
  rcases h2 with rfl | rfl
  · go_enter Tryz.func38, Tryz.ntmps38
    go_wp2_with (first
      | (go_at_call 72; refine Calls.mono C1.out ?_; rintro e w1 ⟨rfl, hg1⟩)
      | (go_at_call 73; refine Calls.mono (C2.out _) ?_; rintro e w2 ⟨rfl, hg2⟩; have cA2 := (hg1.trans hg2).cell' cA)
      | (go_at_call 74; refine Calls.mono (C3.out _) ?_; rintro e w3 ⟨rfl, hg3⟩; have hb3 : Below w.heap.size w w3 := (hg1.trans hg2).below.trans (hg3.mono (hg1.trans hg2).size); have cA3 := cell_later hb3 cA))
    have hs3 := hb3.size
    have hB4 : Below w.heap.size w (w3.alloc (.cells #[.string name, .int .i64 0] 140)) := hb3.alloc hs3 _
    have hO4 := heap_alloc_new w3 (.cells #[.string name, .int .i64 0] 140)
    have cB4 := ((Grew.refl w3).alloc (.cells #[.string name, .int .i64 0] 140)).cell' cA3
    obtain ⟨W4, hW4⟩ : ∃ W4, w3.alloc (.cells #[.string name, .int .i64 0] 140) = W4 := ⟨_, rfl⟩
    rw [hW4] at hB4 hO4 cB4 ⊢
    obtain ⟨o, ho⟩ : ∃ o, w3.heap.size = o := ⟨_, rfl⟩
    rw [ho] at hs3 hO4 ⊢
    clear hW4 ho hb3 hg3 hg1 hg2 cA3 cA2 C1 C2 C3
    have o0 := blk_cell' hO4 (o := 0) rfl
    have o1 := blk_cell' hO4 (o := 1) rfl
    have cB5 := ((Grew.refl W4).alloc (.cells #[.string name, .int .i64 0, .slice none 0 0] 145)).cell' cB4
    have cB6 := (((Grew.refl W4).alloc (.cells #[.string name, .int .i64 0, .slice none 0 0] 145)).alloc (.cells #[.pointer (some ⟨W4.heap.size, 0, none⟩)] 132)).cell' cB4
    have CI : Hid (type_of% (HI.out W4 o _ hB4 hO4 hs3 rfl)) := HI.out W4 o _ hB4 hO4 hs3 rfl
    go_region_with (go_at_call 75; refine Calls.mono CI.out ?_; rintro e w5 ⟨g', cap', rfl, c5, f5, w6, F', hw6, d1, d2, d3, hq6⟩)
    all_goals
      go_wp2
      have hdn6 : w6.ownsRow 0 70 1 k.dv k.nd k.ds := hq6.out.1.dn
      have hb6 : (w6.alloc (.cells #[.iface 140 (.agg #[.string name, .int .i64 0])] 70)).drew.heap[w6.heap.size]? = some (.cells #[.iface 140 (.agg #[.string name, .int .i64 0])] 70 (0, 0)) := heap_alloc_new w6 _
      have d1' := ((Grew.refl w6).alloc (.cells #[.iface 140 (.agg #[.string name, .int .i64 0])] 70)).cell' d1
      go_region_law ((refine step_append_lies _ (by rfl) _ _ _ (by rfl) 0 70 i0 _ 1 16 Tryz.underlying65 hi hz0 hz1 hz2 rfl (by decide) k.dv k.nd k.ds (by rfl) (by exact (hdn6.alloc _).drew) ⟨w6.heap.size, 0, none⟩ 1 1 [.iface 140 (.agg #[.string name, .int .i64 0])] (by rfl) rfl (World.news_of_block (cs := #[.iface 140 (.agg #[.string name, .int .i64 0])]) hb6) hx1 (by decide) (by unfold maxLen; omega) (by omega) (Nat.zero_le _) (w6.heap.size + 1) (by simp) ?_; intro g7 cap7 w7 ho7 hg7 hat7 hlt7; obtain ⟨b1, b2, w8, hw8, hq8⟩ := HD.out w6 w7 _ g7 cap7 hq6.out.1 ho7 ⟨hg7.os, hg7.tape, hg7.output, hg7.size, hg7.block⟩))
      all_goals go_wp2
      all_goals go_ret
      all_goals
        refine ⟨by first | rfl | (simp; done), ?_⟩
        have hw8' : w7.setCell ⟨B, 1, none⟩ (.slice (some ⟨g7, 0, none⟩) (k.nd + 1) cap7) = w8 := hw8
        rw [hw8']
        exact open_fin hq6.out hq8.out hat7 hB4.size
  · go_enter Tryz.func38, Tryz.ntmps38
    go_wp2_with (first
      | (go_at_call 72; refine Calls.mono C1.out ?_; rintro e w1 ⟨rfl, hg1⟩)
      | (go_at_call 73; refine Calls.mono (C2.out _) ?_; rintro e w2 ⟨rfl, hg2⟩; have cA2 := (hg1.trans hg2).cell' cA)
      | (go_at_call 74; refine Calls.mono (C3.out _) ?_; rintro e w3 ⟨rfl, hg3⟩; have hb3 : Below w.heap.size w w3 := (hg1.trans hg2).below.trans (hg3.mono (hg1.trans hg2).size); have cA3 := cell_later hb3 cA))
    have hs3 := hb3.size
    have hB4 : Below w.heap.size w (w3.alloc (.cells #[.string name, .int .i64 1] 140)) := hb3.alloc hs3 _
    have hO4 := heap_alloc_new w3 (.cells #[.string name, .int .i64 1] 140)
    have cB4 := ((Grew.refl w3).alloc (.cells #[.string name, .int .i64 1] 140)).cell' cA3
    obtain ⟨W4, hW4⟩ : ∃ W4, w3.alloc (.cells #[.string name, .int .i64 1] 140) = W4 := ⟨_, rfl⟩
    rw [hW4] at hB4 hO4 cB4 ⊢
    obtain ⟨o, ho⟩ : ∃ o, w3.heap.size = o := ⟨_, rfl⟩
    rw [ho] at hs3 hO4 ⊢
    clear hW4 ho hb3 hg3 hg1 hg2 cA3 cA2 C1 C2 C3
    have o0 := blk_cell' hO4 (o := 0) rfl
    have o1 := blk_cell' hO4 (o := 1) rfl
    have cB5 := ((Grew.refl W4).alloc (.cells #[.string name, .int .i64 1, .slice none 0 0] 145)).cell' cB4
    have cB6 := (((Grew.refl W4).alloc (.cells #[.string name, .int .i64 1, .slice none 0 0] 145)).alloc (.cells #[.pointer (some ⟨W4.heap.size, 0, none⟩)] 132)).cell' cB4
    have CI : Hid (type_of% (HI.out W4 o _ hB4 hO4 hs3 rfl)) := HI.out W4 o _ hB4 hO4 hs3 rfl
    go_region_with (go_at_call 75; refine Calls.mono CI.out ?_; rintro e w5 ⟨g', cap', rfl, c5, f5, w6, F', hw6, d1, d2, d3, hq6⟩)
    all_goals
      go_wp2
      have hdn6 : w6.ownsRow 0 70 1 k.dv k.nd k.ds := hq6.out.1.dn
      have hb6 : (w6.alloc (.cells #[.iface 140 (.agg #[.string name, .int .i64 1])] 70)).drew.heap[w6.heap.size]? = some (.cells #[.iface 140 (.agg #[.string name, .int .i64 1])] 70 (0, 0)) := heap_alloc_new w6 _
      have d1' := ((Grew.refl w6).alloc (.cells #[.iface 140 (.agg #[.string name, .int .i64 1])] 70)).cell' d1
      go_region_law ((refine step_append_lies _ (by rfl) _ _ _ (by rfl) 0 70 i0 _ 1 16 Tryz.underlying65 hi hz0 hz1 hz2 rfl (by decide) k.dv k.nd k.ds (by rfl) (by exact (hdn6.alloc _).drew) ⟨w6.heap.size, 0, none⟩ 1 1 [.iface 140 (.agg #[.string name, .int .i64 1])] (by rfl) rfl (World.news_of_block (cs := #[.iface 140 (.agg #[.string name, .int .i64 1])]) hb6) hx1 (by decide) (by unfold maxLen; omega) (by omega) (Nat.zero_le _) (w6.heap.size + 1) (by simp) ?_; intro g7 cap7 w7 ho7 hg7 hat7 hlt7; obtain ⟨b1, b2, w8, hw8, hq8⟩ := HD.out w6 w7 _ g7 cap7 hq6.out.1 ho7 ⟨hg7.os, hg7.tape, hg7.output, hg7.size, hg7.block⟩))
      all_goals go_wp2
      all_goals go_ret
      all_goals
        refine ⟨by first | rfl | (simp; done), ?_⟩
        have hw8' : w7.setCell ⟨B, 1, none⟩ (.slice (some ⟨g7, 0, none⟩) (k.nd + 1) cap7) = w8 := hw8
        rw [hw8']
        exact open_fin hq6.out hq8.out hat7 hB4.size
end Go.Proofs.YtjnmoddcodnadaaGreatDoor
