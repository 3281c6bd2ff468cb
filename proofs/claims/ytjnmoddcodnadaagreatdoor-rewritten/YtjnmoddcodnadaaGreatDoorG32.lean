import Derived.Test.YtjnmoddcodnadaaGreatDoorG29
import Derived.Test.YtjnmoddcodnadaaGreatDoorG27
import Derived.Test.YtjnmoddcodnadaaGreatDoorG23
set_option linter.unusedVariables false
set_option linter.unusedSimpArgs false
namespace Go.Proofs.YtjnmoddcodnadaaGreatDoor
open Go.RowKit Go.Annal Go.Sort
/-- What is read of a book's entries. -/
structure EntsIs (w : World) (B ge : Nat) (k : Bk) (dy : Nat → Int) (gl ln cl : Nat → Nat) (kk : Nat → EvK) : Prop where
  cE : w.cell? ⟨B, 2, none⟩ = some k.nv
  hE : 0 < k.ne → k.ade = some ⟨ge, 0, none⟩
  ce : ∀ i, i < k.ne → w.cell? ⟨ge, i, none⟩ = some (evV (dy i) (gl i) (ln i) (cl i) (kk i))
theorem EntsIs.mv {w w' : World} {B ge : Nat} {k : Bk} {dy : Nat → Int} {gl ln cl : Nat → Nat} {kk : Nat → EvK} (h : EntsIs w B ge k dy gl ln cl kk) (hb : Below w.heap.size w w') : EntsIs w' B ge k dy gl ln cl kk :=
  ⟨cell_later hb h.cE, h.hE, fun i hi => cell_later hb (h.ce i hi)⟩
theorem BookIs.ents {w : World} {B : Nat} {k : Bk} (h : BookIs w B k) {dy : Nat → Int} {gl ln cl : Nat → Nat} {kk : Nat → EvK} (hev : ∀ i, i < k.ne → k.ev i = evV (dy i) (gl i) (ln i) (cl i) (kk i)) : ∃ ge, EntsIs w B ge k dy gl ln cl kk := by
  rcases h.en.2 with ⟨e, hm⟩ | ⟨g, cap', cur, e, _, hc, _⟩
  · exact ⟨0, blk_cell' h.bk rfl, fun h => by omega, fun i hi => by omega⟩
  · injection e with e1 _ e3
    have hac := h.en
    unfold Bk.nv at hac
    rw [e1, e3] at hac
    refine ⟨g, blk_cell' h.bk rfl, fun _ => e1, fun i hi => ?_⟩
    rw [hac.cellAt i (by omega)]
    unfold Bk.evs
    simp [hi, hev i hi]
set_option maxHeartbeats 1000000 in
set_option maxRecDepth 100000 in
theorem isReversed_any (B ge : Nat) (k : Bk) (dy : Nat → Int) (gl ln cl : Nat → Nat) (kk : Nat → EvK) (e : Nat) (N : Int) (w : World) (h : EntsIs w B ge k dy gl ln cl kk) (hne : k.ne ≤ 1000) (he : e < k.ne) (hN : N = (e : Int) + 1) :
    Calls Tryz.prog 109 #[.pointer (some ⟨B, 0, none⟩), .int .i64 N] w fun r w' => r = .returned (.bool (((kk e).un != 0) || anyN k.ne (fun j => (kk j).un == N))) ∧ Below w.heap.size w w' := by
  have hk1 : Grew w (w.alloc (.cells #[.int .i64 N] 3)) := (Grew.refl _).alloc _
  have hEn := h.hE (by omega)
  have cE := hk1.cell' h.cE
  have ce := hk1.cell' (h.ce e he)
  have cN : (w.alloc (.cells #[.int .i64 N] 3)).cell? ⟨w.heap.size, 0, none⟩ = some (.int .i64 N) := blk_cell' (heap_alloc_new w _) rfl
  have CC : Hid (∀ W, Below (w.alloc (.cells #[.int .i64 N] 3)).heap.size (w.alloc (.cells #[.int .i64 N] 3)) W → Calls Tryz.prog 144 #[.slice (some ⟨ge, 0, none⟩) k.ne k.ce, .func (.func 143) #[] #[.pointer (some ⟨w.heap.size, 0, none⟩)]] W fun r w' => r = .returned (.bool (anyN k.ne (fun j => (kk j).un == N))) ∧ Below W.heap.size W w') := fun W hW =>
    containsE_any 143 #[] #[.pointer (some ⟨w.heap.size, 0, none⟩)] ge k.ne k.ce (fun i => evV (dy i) (gl i) (ln i) (cl i) (kk i)) (fun j => (kk j).un == N) W (enters_of Tryz.func143 (by kernel_rfl) rfl) ((h.mv hk1.below).mv hW).ce hne (fun i hi W' hW' => by
      obtain ⟨t, v, f, u, e1, e2, e3, e4⟩ := ev_undoes (dy i) (gl i) (ln i) (cl i) (kk i)
      rw [e1]
      exact undoing_any t v u f _ _ _ W' (cell_later hW' (cell_later hW cN)) e2 e3 e4)
  obtain ⟨t, v, f, u, e1, e2, e3, e4⟩ := ev_undoes (dy e) (gl e) (ln e) (cl e) (kk e)
  rw [e1] at ce
  have C4 : Hid (type_of% e4) := e4
  have hcE : k.nv = .slice (some ⟨ge, 0, none⟩) k.ne k.ce := by unfold Bk.nv; rw [hEn]
  rw [hcE] at cE
  generalize anyN k.ne (fun j => (kk j).un == N) = A at *
  generalize hU : (kk e).un = U at *
  have he0 : (0 : Int) ≤ (e : Int) := by omega
  have hen : (e : Int) < (k.ne : Int) := by omega
  have hN1 : N - 1 = (e : Int) := by omega
  have hwe : IntKind.i64.wrap (e : Int) = (e : Int) := wrap_id _ (by omega) (by omega)
  have hN2 : 1 ≤ N := by omega
  have hN3 : N ≤ 1000 := by omega
  clear hN
  clear h e1 e4 hEn hcE hU
  have hkB := hk1.below
  obtain ⟨W1, hW1⟩ : ∃ W1, w.alloc (.cells #[.int .i64 N] 3) = W1 := ⟨_, rfl⟩
  rw [hW1] at hk1 cE ce cN CC hkB
  by_cases hU0 : U = 0
  · subst hU0
    go_enter Tryz.func109, Tryz.ntmps109
    go_wp2
    go_region_with (first
      | (go_at_call 144; refine Calls.mono (CC.out _ hb2) ?_; rintro e w3 ⟨rfl, hb3⟩)
      | (go_at_fn f; refine Calls.mono (C4.out _) ?_; rintro e w2 ⟨rfl, hg2⟩; have hb2 : Below W1.heap.size W1 w2 := ((Grew.refl W1).drew.trans hg2).below; have cE2 := cell_later hb2 cE))
    all_goals go_wp2
    all_goals go_ret
    all_goals exact ⟨by first | rfl | (simp; done), (hkB.trans (hb2.mono hkB.size)).trans (hb3.mono (hkB.trans (hb2.mono hkB.size)).size)⟩
  · have hU' : (U != 0) = true := by simpa using hU0
    have hU1 : (U == 0) = false := beq_eq_false_iff_ne.2 hU0
    have hU2 : decide (U = 0) = false := decide_eq_false hU0
    go_enter Tryz.func109, Tryz.ntmps109
    go_wp2
    first
      | go_region_with (go_at_fn f; refine Calls.mono (C4.out _) ?_; rintro e w2 ⟨rfl, hg2⟩; have hb2 : Below W1.heap.size W1 w2 := ((Grew.refl W1).drew.trans hg2).below; have cE2 := cell_later hb2 cE)
      | fail
    all_goals go_wp2
    all_goals go_ret
    all_goals exact ⟨by rw [hU']; rfl, hkB.trans (hb2.mono hkB.size)⟩
end Go.Proofs.YtjnmoddcodnadaaGreatDoor
