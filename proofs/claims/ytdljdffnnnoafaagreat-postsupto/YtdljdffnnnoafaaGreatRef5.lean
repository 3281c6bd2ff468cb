import Derived.Test.YtdljdffnnnoafaaGreatRef3
import Derived.Test.YtdljdffnnnoafaaGreatRef4
import Derived.Deep.RegionLaw
set_option linter.unusedVariables false
set_option linter.unusedSimpArgs false
namespace Go.Annal
open Go.RowKit
/-- Of what was there nothing but the blocks of S has turned. -/
structure Turn (S : Nat → Prop) (w w' : World) : Prop where
  os : w'.os = w.os
  tape : w'.tape = w.tape
  output : w'.output = w.output
  size : w.heap.size ≤ w'.heap.size
  block : ∀ k, k < w.heap.size → ¬ S k → w'.heap[k]? = w.heap[k]?
theorem Turn.refl (S : Nat → Prop) (w : World) : Turn S w w := ⟨rfl, rfl, rfl, Nat.le_refl _, fun _ _ _ => rfl⟩
theorem Turn.trans {S : Nat → Prop} {a b c : World} (h : Turn S a b) (k : Turn S b c) : Turn S a c :=
  ⟨k.os.trans h.os, k.tape.trans h.tape, k.output.trans h.output, Nat.le_trans h.size k.size, fun i hi hs => (k.block i (Nat.lt_of_lt_of_le hi h.size) hs).trans (h.block i hi hs)⟩
theorem Turn.mono {S S' : Nat → Prop} {w w' : World} (h : Turn S w w') (hS : ∀ k, k < w.heap.size → S k → S' k) : Turn S' w w' := ⟨h.os, h.tape, h.output, h.size, fun k hk hs => h.block k hk (fun h' => hs (hS k hk h'))⟩
theorem Turn.of_below {S : Nat → Prop} {w w' : World} (h : Below w.heap.size w w') : Turn S w w' := ⟨h.os, h.tape, h.output, h.size, fun k hk _ => h.block k hk⟩
theorem Turn.below {S : Nat → Prop} {a w w' : World} (h : Turn S a w) (hb : Below w.heap.size w w') : Turn S a w' := h.trans (Turn.of_below hb)
/-- A step that turns blocks of S, or new ones, alone. -/
theorem Turn.of_grown {S : Nat → Prop} {a w w' : World} {row : Option Nat} (h : Turn S a w) (hg : w.grownBy w' row) (hr : ∀ k, row = some k → k < a.heap.size → S k) : Turn S a w' :=
  ⟨hg.os.trans h.os, hg.tape.trans h.tape, hg.output.trans h.output, Nat.le_trans h.size hg.size, fun k hk hs => (hg.block k (Nat.lt_of_lt_of_le hk h.size) (fun e => hs (hr k e.symm hk))).trans (h.block k hk hs)⟩
theorem Turn.alloc {S : Nat → Prop} {a w : World} (h : Turn S a w) (o : Obj) : Turn S a (w.alloc o) := h.of_grown (World.grownBy_alloc w o none) (fun _ e => by cases e)
theorem Turn.drew {S : Nat → Prop} {a w : World} (h : Turn S a w) : Turn S a w.drew := ⟨h.os, h.tape, h.output, h.size, h.block⟩
theorem Turn.set {S : Nat → Prop} {a w : World} (h : Turn S a w) (p : Addr) (v : Value) (hp : p.block < a.heap.size → S p.block) : Turn S a (w.setCell p v) :=
  ⟨h.os, h.tape, h.output, by simpa [World.setCell] using h.size, fun k hk hs => by
    by_cases e : k = p.block
    · subst e; exact absurd (hp hk) hs
    · exact (Below.heap_setCell w p v k e).trans (h.block k hk hs)⟩
theorem owns_turn {S : Nat → Prop} {w w' : World} {B : Nat} {e : TypeId} {size n : Nat} {v : Value} {xs : List Value} (h : w.ownsRow B e size v n xs) (ht : Turn S w w') (hs : ∀ g, v.ownBlock = some g → ¬ S g) : w'.ownsRow B e size v n xs :=
  ⟨h.1, h.2.elim .inl (fun ⟨g, cap, cur, hv, hg, hh, r⟩ => .inr ⟨g, cap, cur, hv, hg, (ht.block g (Array.getElem?_eq_some_iff.1 hh).1 (hs g (by rw [hv]; rfl))).trans hh, r⟩)⟩
theorem Turn.blk {S : Nat → Prop} {w w' : World} (h : Turn S w w') {b : Nat} {o : Obj} (hb : w.heap[b]? = some o) (hs : ¬ S b) : w'.heap[b]? = some o := (h.block b (blk_lt hb) hs).trans hb
end Go.Annal
namespace Go.Proofs.YtdljdffnnnoafaaGreat
open Go.RowKit Go.Annal
attribute [local go_sem ↓] Go.wp_at_zero Go.wp_at_succ
theorem Tryz.infoEntry : (Tryz.prog.info? 89).map (fun i => (i.zero, i.size, i.bytes)) = some (some (.agg #[.int .i64 0, .slice none 0 0, .bool false]), 3, 40) := by kernel_rfl

theorem owns_kind {w : World} {B : Nat} {e : TypeId} {size : Nat} {v : Value} {n : Nat} {xs : List Value} (h : w.ownsRow B e size v n xs) : ∀ g, v.ownBlock = some g → ∃ c fz, w.heap[g]? = some (.cells c e fz) := by
  intro g hg
  rcases h.2 with ⟨rfl, _⟩ | ⟨g', cap, cur, rfl, _, hgg, _⟩
  · simp [Value.ownBlock] at hg
  · simp [Value.ownBlock] at hg; subst hg; exact ⟨_, _, hgg⟩

set_option maxRecDepth 100000 in
set_option maxHeartbeats 1000000 in
theorem enterR_any (R ne : Nat) (av ev c2 c3 lv : Value) (xs : List Value) (day : Int) (gb : Bool) (w : World) (hR : w.heap[R]? = some (.cells #[av, ev, c2, c3] 60 (0, 0)))
    (hown : w.ownsRow 0 89 3 ev ne xs) (hn : ne ≤ 1000) (hlv : lv.oneCell' = true) :
    Calls Tryz.prog 35 #[.pointer (some ⟨R, 0, none⟩), .agg #[.int .i64 day, lv, .bool gb]] w fun r w' => r = .returned (.int .i64 ((ne + 1 : Nat) : Int)) ∧ ∃ g cap,
      w'.heap[R]? = some (.cells #[av, .slice (some ⟨g, 0, none⟩) (ne + 1) cap, c2, c3] 60 (0, 0)) ∧ w'.ownsRow 0 89 3 (.slice (some ⟨g, 0, none⟩) (ne + 1) cap) (ne + 1) (xs ++ [.int .i64 day, lv, .bool gb]) ∧
      Turn (fun k => k = R ∨ ev.ownBlock = some k) w w' ∧ (ev.ownBlock = some g ∨ w.heap.size ≤ g) := by
  obtain ⟨i0, hi, hz0, hz1, hz2⟩ := info_parts Tryz.infoEntry
  have hRb : ev.ownBlock ≠ some R := fun h => by
    obtain ⟨c, fz, hc⟩ := owns_kind hown R h
    rw [hR] at hc; simp at hc
  have hRlt := blk_lt hR
  have r1 := blk_cell' hR (o := 1) rfl
  have f1 := blk_free hR 1
  have hx1 : ∀ u ∈ [Value.int .i64 day, lv, .bool gb], u.oneCell' = true := by simp [Value.oneCell'] at hlv ⊢; exact hlv
  go_enter Tryz.func35, Tryz.ntmps35
  go_wp2
  have f1' : (w.alloc (.cells #[.int .i64 day, lv, .bool gb] 89)).frozen? ⟨R, 1, none⟩ = false := (Grew.frozen ((Grew.refl w).alloc _) (p := ⟨R, 1, none⟩) hRlt).trans f1
  have hb2 : ((w.alloc (.cells #[.int .i64 day, lv, .bool gb] 89)).alloc (.cells #[.int .i64 day, lv, .bool gb] 89)).drew.heap[w.heap.size + 1]? = some (.cells #[.int .i64 day, lv, .bool gb] 89 (0, 0)) := by
    have := heap_alloc_new (w.alloc (.cells #[.int .i64 day, lv, .bool gb] 89)) (.cells #[.int .i64 day, lv, .bool gb] 89)
    rwa [World.size_alloc] at this
  have hne : w.heap.size ≠ R := by omega
  have hnB : ev.ownBlock ≠ some w.heap.size := fun h => by have := (hown.lt _ h).2; omega
  go_region_law ((refine step_append_lies _ (by rfl) _ _ _ (by rfl) 0 89 i0 _ 3 40 Tryz.underlying58 hi hz0 hz1 hz2 rfl (by decide) ev ne xs (by rfl) (by exact ((hown.alloc _).alloc _).drew) ⟨w.heap.size + 1, 0, none⟩ 1 1 [.int .i64 day, lv, .bool gb] (by rfl) rfl (World.news_of_block (cs := #[.int .i64 day, lv, .bool gb]) hb2) hx1 (by decide) (by unfold maxLen; omega) (by omega) (Nat.zero_le _) (w.heap.size + 2) (by simp) ?_; intro g cap w1 hown1 hg1 hat hlt; have R1 : w1.heap[R]? = some (.cells #[av, ev, c2, c3] 60 (0, 0)) := (hg1.block R (by simp; omega) (Ne.symm hRb)).trans (Grew.blk (((Grew.refl w).alloc _).alloc _).drew hR); have r1' := blk_cell' R1 (o := 1) rfl; have f1'' := blk_free R1 1))
  all_goals go_wp2
  all_goals go_ret
  all_goals
    refine ⟨by first | rfl | (simp; done), g, cap, blk_set R1 1 _, ?_, ?_, ?_⟩
    · exact ownsRow_setCell_other hown1 (fun h => by
        simp only [Value.ownBlock, Option.some.injEq] at h
        obtain ⟨c, fz, hc⟩ := owns_kind hown1 g rfl
        rw [h, R1] at hc; simp at hc) _
    · refine Turn.set (Turn.of_grown (Turn.drew (Turn.alloc (Turn.alloc (Turn.refl _ w) _) _)) hg1 (fun k hk _ => Or.inr hk)) _ _ (fun _ => Or.inl rfl)
    · rcases hat with h | h
      · exact .inl h
      · exact .inr (by omega)
end Go.Proofs.YtdljdffnnnoafaaGreat
