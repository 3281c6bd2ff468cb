import Derived.Test.YtjnmoddcodnadaaGreatDoorG11
import Derived.Deep.AppendLies
set_option linter.unusedVariables false
set_option linter.unusedSimpArgs false
namespace Go.Annal
/-- One thing more was done. -/
def Bk.did (k : Bk) (g cap : Nat) (e : Value) : Bk := { k with nd := k.nd + 1, cd := cap, add := some ⟨g, 0, none⟩, ds := k.ds ++ [e] }
/-- One entry more. -/
def Bk.wrote (k : Bk) (g cap : Nat) (e : Value) : Bk := { k with ne := k.ne + 1, ce := cap, ade := some ⟨g, 0, none⟩, ev := fun i => if i = k.ne then e else k.ev i }
theorem Bk.evs_wrote (k : Bk) (g cap : Nat) (e : Value) : (k.wrote g cap e).evs = k.evs ++ [e] := by
  unfold Bk.evs Bk.wrote
  simp only [List.range_succ, List.map_append, List.map_cons, List.map_nil, if_true]
  congr 1
  apply List.map_congr_left
  intro i hi
  rw [List.mem_range] at hi
  rw [if_neg (by omega)]
end Go.Annal
namespace Go.Proofs.YtjnmoddcodnadaaGreatDoor
open Go.RowKit Go.Annal Go.Sort
theorem Tryz.infoDeed : (Tryz.prog.info? 70).map (fun i => (i.zero, i.size, i.bytes)) = some (some .nilIface, 1, 16) := by kernel_rfl
theorem Tryz.infoEntering : (Tryz.prog.info? 181).map (fun i => (i.zero, i.size, i.bytes)) = some (some .nilIface, 1, 16) := by kernel_rfl
/-- A row of a book, and a block of another kind. -/
theorem owns_ne {w : World} {B : Nat} {e t : TypeId} {size n b : Nat} {v : Value} {xs : List Value} {cs : Array Value} {fz : Nat × Nat} (h : w.ownsRow B e size v n xs) (hb : w.heap[b]? = some (.cells cs t fz)) (hne : t ≠ e) : v.ownBlock ≠ some b := fun hv => by
  obtain ⟨c, f, hc⟩ := owns_kind h b hv
  rw [hb] at hc; simp at hc; exact hne hc.2.1
theorem book_did {w w1 w2 : World} {B : Nat} {k : Bk} {e : Value} {g cap : Nat} (h : BookIs w B k) (h1 : Below w.heap.size w w1) (hown : w2.ownsRow 0 70 1 (.slice (some ⟨g, 0, none⟩) (k.nd + 1) cap) (k.nd + 1) (k.ds ++ [e])) (hg : w1.grownBy w2 k.dv.ownBlock) :
    w2.heap[B]? = some (.cells #[k.av, k.dv, k.nv, .int .i64 k.ul] 68 (0, 0)) ∧ ∀ w3, w3 = w2.setCell ⟨B, 1, none⟩ (.slice (some ⟨g, 0, none⟩) (k.nd + 1) cap) → BookIs w3 B (k.did g cap e) ∧ Turn (fun b => b = B ∨ k.dv.ownBlock = some b) w w3 := by
  have T1 : Turn (fun b => b = B ∨ k.dv.ownBlock = some b) w w2 := (Turn.of_below h1).of_grown hg (fun b hb _ => .inr hb)
  have T0 : Turn (fun b => k.dv.ownBlock = some b) w w2 := (Turn.of_below h1).of_grown hg (fun b hb _ => hb)
  have hB := owns_ne h.dn h.bk (by decide)
  have bk2 := T0.blk h.bk hB
  refine ⟨bk2, ?_⟩
  rintro w3 rfl
  have T2 := T1.set ⟨B, 1, none⟩ (.slice (some ⟨g, 0, none⟩) (k.nd + 1) cap) (fun _ => .inl rfl)
  refine ⟨⟨blk_set bk2 1 _, owns_turn h.ac T2 (fun b hb hs => ?_), ?_, owns_turn h.en T2 (fun b hb hs => ?_), h.up⟩, T2⟩
  · rcases hs with rfl | hs
    · exact owns_ne h.ac h.bk (by decide) hb
    · obtain ⟨c, f, hc⟩ := owns_kind h.dn b hs
      exact owns_ne h.ac hc (by decide) hb
  · exact ownsRow_setCell_other hown (a := ⟨B, 1, none⟩) (owns_ne hown bk2 (by decide)) _
  · rcases hs with rfl | hs
    · exact owns_ne h.en h.bk (by decide) hb
    · obtain ⟨c, f, hc⟩ := owns_kind h.dn b hs
      exact owns_ne h.en hc (by decide) hb
theorem book_wrote {w w1 w2 : World} {B : Nat} {k : Bk} {e : Value} {g cap : Nat} (h : BookIs w B k) (h1 : Below w.heap.size w w1) (hown : w2.ownsRow 0 181 1 (.slice (some ⟨g, 0, none⟩) (k.ne + 1) cap) (k.ne + 1) (k.evs ++ [e])) (hg : w1.grownBy w2 k.nv.ownBlock) :
    w2.heap[B]? = some (.cells #[k.av, k.dv, k.nv, .int .i64 k.ul] 68 (0, 0)) ∧ ∀ w3, w3 = w2.setCell ⟨B, 2, none⟩ (.slice (some ⟨g, 0, none⟩) (k.ne + 1) cap) → BookIs w3 B (k.wrote g cap e) ∧ Turn (fun b => b = B ∨ k.nv.ownBlock = some b) w w3 := by
  have T1 : Turn (fun b => b = B ∨ k.nv.ownBlock = some b) w w2 := (Turn.of_below h1).of_grown hg (fun b hb _ => .inr hb)
  have T0 : Turn (fun b => k.nv.ownBlock = some b) w w2 := (Turn.of_below h1).of_grown hg (fun b hb _ => hb)
  have hB := owns_ne h.en h.bk (by decide)
  have bk2 := T0.blk h.bk hB
  refine ⟨bk2, ?_⟩
  rintro w3 rfl
  have T2 := T1.set ⟨B, 2, none⟩ (.slice (some ⟨g, 0, none⟩) (k.ne + 1) cap) (fun _ => .inl rfl)
  refine ⟨⟨blk_set bk2 2 _, owns_turn h.ac T2 (fun b hb hs => ?_), owns_turn h.dn T2 (fun b hb hs => ?_), ?_, h.up⟩, T2⟩
  · rcases hs with rfl | hs
    · exact owns_ne h.ac h.bk (by decide) hb
    · obtain ⟨c, f, hc⟩ := owns_kind h.en b hs
      exact owns_ne h.ac hc (by decide) hb
  · rcases hs with rfl | hs
    · exact owns_ne h.dn h.bk (by decide) hb
    · obtain ⟨c, f, hc⟩ := owns_kind h.en b hs
      exact owns_ne h.dn hc (by decide) hb
  · rw [Bk.evs_wrote]
    exact ownsRow_setCell_other hown (a := ⟨B, 2, none⟩) (owns_ne hown bk2 (by decide)) _
theorem one_new (w : World) (e : Value) (t : TypeId) : ∀ j u, [e][j]? = some u → (w.alloc (.cells #[e] t)).cell? ((⟨w.heap.size, 0, none⟩ : Addr).add j) = some u := fun j u hj => World.news_of_block (cs := #[e]) (heap_alloc_new w _) j u hj
set_option maxHeartbeats 400000 in
theorem entered_any (day : Int) (a : Option Addr) (n c : Nat) (w : World) : Calls Tryz.prog 240 #[.agg #[.int .i64 day, .slice a n c]] w fun r w' => r = .returned (.agg #[.int .i64 day, .slice a n c]) ∧ Grew w w' := by
  go_enter Tryz.func240, Tryz.ntmps240
  go_wp2
  refine bodyPost_ret (v := .agg #[.int .i64 day, .slice a n c]) (by simp [results, Tryz.results240, go_sem]) rfl ⟨rfl, ((Grew.refl w).alloc _).alloc _⟩
theorem method_posting (w : World) (day : Int) (a : Option Addr) (n c : Nat) : (method 397 124 (.agg #[.int .i64 day, .slice a n c]) "annal/annal.entered").run Tryz.prog w = .ok (240, .agg #[.int .i64 day, .slice a n c]) w := by kernel_rfl
theorem method_reversal (w : World) (day u : Int) (a : Option Addr) (n c : Nat) : (method 397 127 (.agg #[.int .i64 day, .slice a n c, .int .i64 u]) "annal/annal.entered").run Tryz.prog w = .ok (240, .agg #[.int .i64 day, .slice a n c]) w := by kernel_rfl
theorem method_closing (w : World) (day : Int) (u : ByteArray) (a : Option Addr) (n c : Nat) : (method 397 136 (.agg #[.int .i64 day, .slice a n c, .string u]) "annal/annal.entered").run Tryz.prog w = .ok (240, .agg #[.int .i64 day, .slice a n c]) w := by kernel_rfl
theorem undoes_posting (w : World) (day : Int) (a : Option Addr) (n c : Nat) : (method 397 124 (.agg #[.int .i64 day, .slice a n c]) "annal/annal.undoes").run Tryz.prog w = .ok (241, .agg #[.int .i64 day, .slice a n c]) w := by kernel_rfl
theorem undoes_reversal (w : World) (day u : Int) (a : Option Addr) (n c : Nat) : (method 397 127 (.agg #[.int .i64 day, .slice a n c, .int .i64 u]) "annal/annal.undoes").run Tryz.prog w = .ok (243, .agg #[.int .i64 day, .slice a n c, .int .i64 u]) w := by kernel_rfl
theorem undoes_closing (w : World) (day : Int) (u : ByteArray) (a : Option Addr) (n c : Nat) : (method 397 136 (.agg #[.int .i64 day, .slice a n c, .string u]) "annal/annal.undoes").run Tryz.prog w = .ok (241, .agg #[.int .i64 day, .slice a n c]) w := by kernel_rfl
/-- What an entry makes of a book. -/
def EnteredIs (w w' : World) (B : Nat) (k : Bk) (e : Value) (day : Int) (n : Nat) (xa : Nat → ByteArray) (xm : Nat → Int) (kd : Nat → Int) (mm : Nat → Nat) (ff : Nat → Nat → It) (F : Nat → Prop) : Prop := ∃ g2 cap2 g4 cap4 F',
      BookIs w' B ((k.did g2 cap2 e).wrote g4 cap4 e) ∧ Accs w' k.na k.pa k.nm kd (stM (fun l => lessN k.nm k.na (xa l)) mm n) (stF (fun l => lessN k.nm k.na (xa l)) (fun l => ((k.ne : Int) + 1, day, xm l)) mm ff n) F' ∧
      Turn (fun b => k.own B b ∨ F b) w w' ∧ (∀ b, F' b → F b ∨ w.heap.size ≤ b) ∧ (k.dv.ownBlock = some g2 ∨ w.heap.size ≤ g2) ∧ (k.nv.ownBlock = some g4 ∨ w.heap.size ≤ g4)
set_option maxHeartbeats 20000000 in
set_option maxRecDepth 100000 in
theorem enterA_any (B : Nat) (k : Bk) (t : TypeId) (v : Value) (day : Int) (lg n lc : Nat) (xa : Nat → ByteArray) (xm : Nat → Int) (kd : Nat → Int) (mm : Nat → Nat) (ff : Nat → Nat → It) (F : Nat → Prop) (w : World) (lcs : Array Value) (lfz : Nat × Nat)
    (h : BookIs w B k) (hA : Accs w k.na k.pa k.nm kd mm ff F) (hnd : k.nd ≤ 100000) (hne : k.ne < 60) (hL : LinesAt w lg 0 n xa xm) (hLt : w.heap[lg]? = some (.cells lcs 58 lfz)) (hn : n ≤ 10)
    (hin : ∀ l, l < n → isAt k.nm k.na (xa l) = true) (hdis : ∀ a b, a < b → b < n → lessN k.nm k.na (xa a) ≠ lessN k.nm k.na (xa b)) (hmm : ∀ i, i < k.na → mm i < 60) (hxm : ∀ l, l < n → -1000000000000 ≤ xm l ∧ xm l ≤ 1000000000000) (hna : k.na ≤ 1000)
    (hm : ∀ w, (method 397 t v "annal/annal.entered").run Tryz.prog w = .ok (240, .agg #[.int .i64 day, .slice (some ⟨lg, 0, none⟩) n lc]) w) :
    Calls Tryz.prog 60 #[.pointer (some ⟨B, 0, none⟩), .iface t v] w fun r w' => r = .returned (.int .i64 (k.ne + 1 : Nat)) ∧ EnteredIs w w' B k (.iface t v) day n xa xm kd mm ff F := by
  obtain ⟨i0, hi, hz0, hz1, hz2⟩ := info_parts Tryz.infoDeed
  obtain ⟨j0, hj, hy0, hy1, hy2⟩ := info_parts Tryz.infoEntering
  have c1 : w.cell? ⟨B, 1, none⟩ = some k.dv := blk_cell' h.bk (o := 1) rfl
  have H4 : Hid (∀ w3 w4 : World, ∀ k1 : Bk, ∀ g cap, BookIs w3 B k1 → w4.ownsRow 0 181 1 (.slice (some ⟨g, 0, none⟩) (k1.ne + 1) cap) (k1.ne + 1) (k1.evs ++ [.iface t v]) → (w3.alloc (.cells #[.iface t v] 181)).grownBy w4 k1.nv.ownBlock → ∃ w5 k2, w4.cell? ⟨B, 2, none⟩ = some k1.nv ∧ w4.frozen? ⟨B, 2, none⟩ = false ∧ w4.setCell ⟨B, 2, none⟩ (.slice (some ⟨g, 0, none⟩) (k1.ne + 1) cap) = w5 ∧ w5.cell? ⟨B, 2, none⟩ = some (.slice (some ⟨g, 0, none⟩) (k1.ne + 1) cap) ∧ Hid (k2 = k1.wrote g cap (.iface t v) ∧ BookIs w5 B k2 ∧ Turn (fun b => b = B ∨ k1.nv.ownBlock = some b) w3 w5)) := by
    intro w3 w4 k1 g cap h3 ho hg
    obtain ⟨q1, q2⟩ := book_wrote h3 (((Grew.refl w3).alloc _).below) ho hg
    exact ⟨_, _, blk_cell' q1 rfl, blk_free q1 2, rfl, blk_cell' (q2 _ rfl).1.bk rfl, rfl, q2 _ rfl⟩
  have hx1 : ∀ u ∈ [Value.iface t v], u.oneCell' = true := by simp [Value.oneCell']
  have HB : Hid (type_of% h) := h
  have hdn := h.dn
  have H2 : Hid (∀ w2 g cap, w2.ownsRow 0 70 1 (.slice (some ⟨g, 0, none⟩) (k.nd + 1) cap) (k.nd + 1) (k.ds ++ [.iface t v]) → (w.alloc (.cells #[.iface t v] 70)).grownBy w2 k.dv.ownBlock → ∃ w3 k1, w2.cell? ⟨B, 1, none⟩ = some k.dv ∧ w2.frozen? ⟨B, 1, none⟩ = false ∧ w3.cell? ⟨B, 2, none⟩ = some k1.nv ∧ w2.setCell ⟨B, 1, none⟩ (.slice (some ⟨g, 0, none⟩) (k.nd + 1) cap) = w3 ∧ k1.ne = k.ne ∧ Hid (k1 = k.did g cap (.iface t v) ∧ BookIs w3 B k1 ∧ Turn (fun b => b = B ∨ k.dv.ownBlock = some b) w w3)) := by
    intro w2 g cap ho hg
    obtain ⟨q1, q2⟩ := book_did h (((Grew.refl w).alloc _).below) ho hg
    exact ⟨_, k.did g cap (.iface t v), blk_cell' q1 rfl, blk_free q1 1, blk_cell' (q2 _ rfl).1.bk rfl, rfl, rfl, rfl, q2 _ rfl⟩
  clear h
  go_enter Tryz.func60, Tryz.ntmps60
  go_wp2_with (first
    | (at_builtin; refine wpList_append_lies _ rfl _ _ 65 rfl 0 70 i0 _ 1 16 Tryz.underlying65 hi hz0 hz1 hz2 rfl (by decide) k.dv k.nd k.ds rfl (hdn.alloc _) ⟨w.heap.size, 0, none⟩ 1 1 [.iface t v] rfl rfl (one_new _ _ _) hx1 (by decide) (by unfold maxLen; omega) (by omega) (Nat.zero_le _) (w.heap.size + 1) (by simp) ?_; intro g2 cap2 w2 ho2 hg2 hat2 hlt2; obtain ⟨w3, k1, b1, b2, b3, hw3, hk1, hq3⟩ := H2.out w2 g2 cap2 ho2 hg2; have hen := hq3.out.2.1.en)
    | (at_builtin; go_loud (refine wpList_append_lies _ rfl _ _ 66 rfl 0 181 j0 _ 1 16 Tryz.underlying66 hj hy0 hy1 hy2 rfl (by decide) k1.nv k1.ne k1.evs rfl (hen.alloc _) ⟨w3.heap.size, 0, none⟩ 1 1 [.iface t v] rfl rfl (one_new _ _ _) hx1 (by decide) (by unfold maxLen; omega) (by omega) (Nat.zero_le _) (w3.heap.size + 1) (by simp) ?_); intro g4 cap4 w4 ho4 hg4 hat4 hlt4; go_loud (obtain ⟨w5, k2, b5, b6, hw5, b7, hq5⟩ := H4.out w3 w4 k1 g4 cap4 hq3.out.2.1 ho4 hg4)))
  rw [hk1] at hw5 b7
  rw [hw5]
  have zb : (w5.alloc (.cells #[.int .i64 0, .slice none 0 0] 122)).drew.heap[w5.heap.size]? = some (.cells #[.int .i64 0, .slice none 0 0] 122 (0, 0)) := heap_alloc_new w5 _
  have b9 : (w5.alloc (.cells #[.int .i64 0, .slice none 0 0] 122)).cell? ⟨B, 2, none⟩ = _ := ((Grew.refl w5).alloc _).cell' b7
  have he2 : Hid (k2 = (k.did g2 cap2 (.iface t v)).wrote g4 cap4 (.iface t v)) := by
    have e1 := hq5.out.1
    rw [hq3.out.1] at e1
    exact e1
  have HT5 : Hid (Turn (fun b => k.own B b) w w5) := by
    have h3 := hq3.out.2.2
    have h5 := hq5.out.2.2
    rw [hq3.out.1] at h5
    exact (h3.mono (fun b _ hb => hb.elim .inl (fun h => .inr (.inr (.inl h))))).trans (h5.mono (fun b _ hb => hb.elim .inl (fun h => .inr (.inr (.inr h)))))
  have HG : Hid ((k.dv.ownBlock = some g2 ∨ w.heap.size ≤ g2) ∧ (k.nv.ownBlock = some g4 ∨ w.heap.size ≤ g4)) := by
    refine ⟨hat2.elim .inl (fun h => .inr (by omega)), ?_⟩
    have h3 := hq3.out.2.2.size
    have e : k1.nv = k.nv := by rw [hq3.out.1]; rfl
    rw [e] at hat4
    exact hat4.elim .inl (fun h => .inr (by omega))
  have HALL : Hid (∀ W, Grew w5 W → BookIs W B k2 ∧ Accs W k.na k.pa k.nm kd mm ff F ∧ LinesAt W lg 0 n xa xm ∧ W.heap[lg]? = some (.cells lcs 58 lfz) ∧ Turn (fun b => k.own B b ∨ F b) w W) := by
    intro W hW
    have T0 := HT5.out.trans (Turn.of_below hW.below)
    have hlo : ¬ k.own B lg := fun hb => by
      obtain ⟨cs, t', fz, hc, ht⟩ := HB.out.kind hb
      rw [hLt] at hc; simp at hc
      rcases ht with h | h | h | h <;> (rw [h] at hc; exact absurd hc.2.1 (by decide))
    refine ⟨hq5.out.2.1.turn (S := fun _ => False) (Turn.of_below hW.below) (fun _ _ h => h), hA.turn T0 (fun b hb ho => HB.out.apart hA ho hb), hL.turn T0 hlo (blk_lt hLt), T0.blk hLt hlo, T0.mono (fun b _ h => .inl h)⟩
  have HBA : Hid (∀ (W : World) (mm' : Nat → Nat) (ff' : Nat → Nat → It) (G : Nat → Prop), BookIs W B k2 → Accs W k.na k.pa k.nm kd mm' ff' G → ∃ ga, BookAt W B ga k.ca k.na k.ada k.pa k.nm) := by
    intro W mm' ff' G hb ha
    rw [he2.out] at hb
    exact hb.at ha
  go_region_with (go_at_call 240; refine Calls.mono (entered_any _ _ _ _ _) ?_; rintro e w6 ⟨rfl, hg6⟩; have hg56 : Grew w5 w6 := (by first | exact (Grew.refl w5).drew.trans hg6 | exact (((Grew.refl w5).alloc _).drew).trans hg6); have b8 := hg56.cell' b7; have b10 : (w6.alloc (.cells #[.int .i64 0, .slice none 0 0] 122)).cell? ⟨B, 2, none⟩ = _ := ((Grew.refl w6).alloc _).cell' b8; try (have zc := hg6.blk zb; have z0 := blk_cell' zc (o := 0) rfl; have z1 := blk_cell' zc (o := 1) rfl; have y0 := blk_free zc 0; have y1 := blk_free zc 1; have ys := hg6.size; ))
  all_goals
    first
      | (obtain ⟨W7, hW7⟩ : ∃ W7, (w6.setCell ⟨w5.heap.size, 0, none⟩ (.int .i64 day)).setCell ⟨w5.heap.size, 1, none⟩ (.slice (some ⟨lg, 0, none⟩) n lc) = W7 := ⟨_, rfl⟩
         rw [hW7]
         have hg7 : Grew w5 W7 := by rw [← hW7]; exact (hg56.setCell (Nat.le_refl _) _).setCell (Nat.le_refl _) _
         have hce : W7.heap[w5.heap.size]? = some (.cells #[.int .i64 day, .slice (some ⟨lg, 0, none⟩) n lc] 122 (0, 0)) := by rw [← hW7]; exact blk_set (blk_set zc 0 _) 1 _
         obtain ⟨p, hp⟩ : ∃ p, w5.heap.size = p := ⟨_, rfl⟩
         have hp7 : w5.heap.size ≤ p := by omega
         clear zc z0 z1 y0 y1 ys
         rw [hp] at hce ⊢)
      | (obtain ⟨W7, hW7⟩ : ∃ W7, w6.alloc (.cells #[.int .i64 day, .slice (some ⟨lg, 0, none⟩) n lc] 122) = W7 := ⟨_, rfl⟩
         rw [hW7]
         have hg7 : Grew w5 W7 := by rw [← hW7]; exact hg56.alloc _
         have hce : W7.heap[w6.heap.size]? = some (.cells #[.int .i64 day, .slice (some ⟨lg, 0, none⟩) n lc] 122 (0, 0)) := by rw [← hW7]; exact heap_alloc_new w6 _
         obtain ⟨p, hp⟩ : ∃ p, w6.heap.size = p := ⟨_, rfl⟩
         have hp7 : w5.heap.size ≤ p := by have := hg56.size; omega
         rw [hp] at hce ⊢)
    clear hW7 hp hg6 hg56 b8 b10
  all_goals
    obtain ⟨hB7, hA7, hL7, hLt7, hT7⟩ := HALL.out W7 hg7
    have hpw : w.heap.size ≤ p := by have := HT5.out.size; omega
    have hpl : lg ≠ p := by have := blk_lt hLt; omega
    have q1 := blk_cell' hce (o := 1) rfl
    have HFIN : Hid (∀ (l : Nat) (wr w2 w3 : World) (G F3 : Nat → Prop), l < n → BookIs wr B k2 → Accs wr k.na k.pa k.nm kd (stM (fun l => lessN k.nm k.na (xa l)) mm l) (stF (fun l => lessN k.nm k.na (xa l)) (fun l => ((k.ne : Int) + 1, day, xm l)) mm ff l) G → LinesAt wr lg 0 n xa xm → wr.heap[lg]? = some (.cells lcs 58 lfz) → wr.heap[p]? = some (.cells #[.int .i64 day, .slice (some ⟨lg, 0, none⟩) n lc] 122 (0, 0)) → Turn (fun b => k.own B b ∨ F b) w wr → (∀ b, G b → F b ∨ w.heap.size ≤ b) →
        Grew wr w2 → Accs w3 k.na k.pa k.nm kd (fun i => if i = lessN k.nm k.na (xa l) then stM (fun l => lessN k.nm k.na (xa l)) mm l (lessN k.nm k.na (xa l)) + 1 else stM (fun l => lessN k.nm k.na (xa l)) mm l i) (fun i => if i = lessN k.nm k.na (xa l) then fun j => if j = stM (fun l => lessN k.nm k.na (xa l)) mm l (lessN k.nm k.na (xa l)) then ((k.ne : Int) + 1, day, xm l) else stF (fun l => lessN k.nm k.na (xa l)) (fun l => ((k.ne : Int) + 1, day, xm l)) mm ff l (lessN k.nm k.na (xa l)) j else stF (fun l => lessN k.nm k.na (xa l)) (fun l => ((k.ne : Int) + 1, day, xm l)) mm ff l i) F3 → Turn G w2 w3 → (∀ b, F3 b → G b ∨ w2.heap.size ≤ b) →
        Hid (BookIs w3 B k2) ∧ Hid (Accs w3 k.na k.pa k.nm kd (stM (fun l => lessN k.nm k.na (xa l)) mm (l + 1)) (stF (fun l => lessN k.nm k.na (xa l)) (fun l => ((k.ne : Int) + 1, day, xm l)) mm ff (l + 1)) F3) ∧ Hid (LinesAt w3 lg 0 n xa xm) ∧ Hid (w3.heap[lg]? = some (.cells lcs 58 lfz)) ∧ Hid (w3.heap[p]? = some (.cells #[.int .i64 day, .slice (some ⟨lg, 0, none⟩) n lc] 122 (0, 0))) ∧ Hid (Turn (fun b => k.own B b ∨ F b) w w3) ∧ Hid (∀ b, F3 b → F b ∨ w.heap.size ≤ b)) := by
      intro l wr w2 w3 G F3 hln hb ha hl hlt hpc ht hG hG2 hA3 hT3 hF3
      have T2 : Turn G wr w3 := (Turn.of_below hG2.below).trans hT3
      have hGl : ¬ G lg := ha.not hlt (by decide) (by decide) (by decide)
      have hGp : ¬ G p := ha.not hpc (by decide) (by decide) (by decide)
      have hws := ht.size
      refine ⟨hb.turn T2 (fun b hbo => hb.apart ha hbo), hA3, hl.turn T2 hGl (blk_lt hlt), T2.blk hlt hGl, T2.blk hpc hGp, ?_, ?_⟩
      · exact ⟨T2.os.trans ht.os, T2.tape.trans ht.tape, T2.output.trans ht.output, Nat.le_trans hws T2.size, fun x hx hs => (T2.block x (Nat.lt_of_lt_of_le hx hws) (fun hg => by
          rcases hG x hg with h | h
          · exact hs (.inr h)
          · omega)).trans (ht.block x hx hs)⟩
      · intro x hx
        rcases hF3 x hx with h | h
        · exact hG x h
        · have := hG2.size
          exact .inr (by omega)
    have HB7 : Hid (type_of% hB7) := hB7
    have HA7 : Hid (type_of% hA7) := hA7
    have HL7 : Hid (type_of% hL7) := hL7
    have HLt7 : Hid (type_of% hLt7) := hLt7
    have HT7 : Hid (type_of% hT7) := hT7
    have HCE : Hid (type_of% hce) := hce
    have HIN : Hid (type_of% hin) := hin
    have HDIS : Hid (type_of% hdis) := hdis
    have HMM : Hid (type_of% hmm) := hmm
    have HXM : Hid (type_of% hxm) := hxm
    clear hB7 hA7 hL7 hLt7 hT7 hce hA hL hLt hin hdis hmm hxm hdn hen b1 b2 b3 b5 b6 b7 b9 zb hm
    go_wp2
    go_loopw [8, 9, 40] (fun _ _ iv wr => ∃ (l : Nat) (G : Nat → Prop), l ≤ n ∧ iv = .int .i64 l ∧ Hid (BookIs wr B k2) ∧ Hid (Accs wr k.na k.pa k.nm kd (stM (fun l => lessN k.nm k.na (xa l)) mm l) (stF (fun l => lessN k.nm k.na (xa l)) (fun l => ((k.ne : Int) + 1, day, xm l)) mm ff l) G) ∧ Hid (LinesAt wr lg 0 n xa xm) ∧ Hid (wr.heap[lg]? = some (.cells lcs 58 lfz)) ∧ Hid (wr.heap[p]? = some (.cells #[.int .i64 day, .slice (some ⟨lg, 0, none⟩) n lc] 122 (0, 0))) ∧ Hid (Turn (fun b => k.own B b ∨ F b) w wr) ∧ Hid (∀ b, G b → F b ∨ w.heap.size ≤ b)) (fun _ _ iv _ => n - (intOf iv).toNat)
    case atStart => exact ⟨0, F, Nat.zero_le _, rfl, HB7, HA7, HL7, HLt7, HCE, HT7, fun b hb => .inl hb⟩
    case round =>
      obtain ⟨l, G, hln, rfl, hb, ha, hl, hlt, hpc, ht, hG⟩ := hrel
      clear HB7 HA7 HL7 HLt7 HT7 HCE
      by_cases hlk : l < n
      · have hlt' : (l : Int) < (n : Int) := by omega
        have hl0 : (0 : Int) ≤ (l : Int) := by omega
        have ca' := hl.out.ca l hlk
        have cm' := hl.out.cm l hlk
        rw [Nat.zero_add] at ca' cm'
        have qd := blk_cell' hpc.out (o := 0) rfl
        have hplt : p < wr.heap.size := blk_lt hpc.out
        have hisl := HIN.out l hlk
        have hpk : lessN k.nm k.na (xa l) < k.na := by
          have h1 := hisl
          unfold isAt at h1
          simp at h1
          exact h1.1
        have hmk : stM (fun l => lessN k.nm k.na (xa l)) mm l (lessN k.nm k.na (xa l)) < 60 := by
          rw [stM_same _ mm _ l (fun a hal e => HDIS.out a l hal hlk e)]
          exact HMM.out _ hpk
        have hxk := HXM.out l hlk
        have hka : Grew wr ((wr.alloc (.cells #[.string (xa l), .int .i64 (xm l)] 58)).alloc (.cells #[.int .i64 ((k.ne : Int) + 1), .int .i64 day, .int .i64 (xm l)] 106)).drew := (((Grew.refl _).alloc _).alloc _).drew
        obtain ⟨ga, hat⟩ := HBA.out wr _ _ G hb.out ha.out
        have hfi := find_any B ga k.ca k.na k.ada k.pa k.nm (xa l) _ (hat.mv hka.below) hna
        have e0 : findV k.pa k.nm k.na (xa l) = .pointer (some ⟨k.pa (lessN k.nm k.na (xa l)), 0, none⟩) := by unfold findV; rw [hisl]; rfl
        rw [e0] at hfi
        have CF : Hid (type_of% hfi) := hfi
        have hbi : ((wr.alloc (.cells #[.string (xa l), .int .i64 (xm l)] 58)).alloc (.cells #[.int .i64 ((k.ne : Int) + 1), .int .i64 day, .int .i64 (xm l)] 106)).drew.heap[wr.heap.size + 1]? = some (.cells #[.int .i64 ((k.ne : Int) + 1), .int .i64 day, .int .i64 (xm l)] 106 (0, 0)) := heap_alloc2_new wr _ _
        have HXK : Hid (type_of% hxk) := hxk
        have HMK : Hid (type_of% hmk) := hmk
        have HPK : Hid (type_of% hpk) := hpk
        have HRD : Hid (type_of% (HFIN.out l wr)) := HFIN.out l wr
        clear hfi e0 hat hxk hmk hpk hisl HFIN
        go_wp2
        go_region_with (first
          | (go_at_call 66; refine Calls.mono CF.out ?_; rintro e w2 ⟨rfl, hg2⟩; have hG2 := hka.trans hg2; have hbi2 := hg2.blk hbi; have i0 := blk_cell' hbi2 (o := 0) rfl; have i1 := blk_cell' hbi2 (o := 1) rfl; have i2 := blk_cell' hbi2 (o := 2) rfl)
          | (go_at_call 107; refine Calls.mono (accs_add k.na k.pa k.nm kd _ _ G _ (lessN k.nm k.na (xa l)) ((k.ne : Int) + 1) day (xm l) (ha.out.turn (S := fun _ => False) (Turn.of_below hG2.below) (fun _ _ h => h)) HPK.out HMK.out HXK.out) ?_; rintro e w3 ⟨rfl, F3, hA3, hT3, hF3⟩))
        all_goals go_wp2
        all_goals exact ⟨⟨l + 1, F3, by omega, by go_num, HRD.out _ _ _ _ hlk hb.out ha.out hl.out hlt.out hpc.out ht.out hG.out hG2 hA3 hT3 hF3⟩, by simp [intOf]; omega⟩
      · have hlt' : ¬ (l : Int) < (n : Int) := by omega
        obtain rfl : l = n := by omega
        go_wp2
        go_ret
        refine ⟨by first | rfl | (simp; done), ?_⟩
        unfold EnteredIs
        refine ⟨g2, cap2, g4, cap4, G, ?_, ha.out, ht.out, hG.out, HG.out.1, HG.out.2⟩
        rw [← he2.out]; exact hb.out
end Go.Proofs.YtjnmoddcodnadaaGreatDoor
