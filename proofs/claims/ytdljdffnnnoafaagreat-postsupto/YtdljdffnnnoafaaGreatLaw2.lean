import Derived.Test.YtdljdffnnnoafaaGreatLaw1
set_option linter.unusedVariables false
set_option linter.unusedSimpArgs false
namespace Go.Proofs.YtdljdffnnnoafaaGreat
open Go.RowKit Go.Annal Go.Sort
theorem range_map_get (f : Nat → Value) (n i : Nat) (h : i < n) : ((List.range n).map f)[i]? = some (f i) := by simp [h]
/-- What is read of a row. -/
theorem owns_view {w : World} {B : Nat} {e : TypeId} {sz : Nat} {v : Value} {n : Nat} {xs : List Value} (h : w.ownsRow B e sz v n xs) : ∃ ad cap g, v = .slice ad n cap ∧ n ≤ cap ∧ (0 < n → ad = some ⟨g, 0, none⟩ ∧ B ≤ g ∧ ∃ cs, w.heap[g]? = some (.cells cs e (0, 0))) ∧ ∀ j, j < n * sz → w.cell? ⟨g, j, none⟩ = xs[j]? := by
  rcases h.2 with ⟨rfl, rfl⟩ | ⟨g, cap, cur, rfl, hb, hg, hnc, hcm, hcs, htk⟩
  · exact ⟨none, 0, 0, rfl, Nat.le_refl _, fun h => by omega, fun j hj => by omega⟩
  · refine ⟨_, cap, g, rfl, hnc, fun _ => ⟨rfl, hb, _, hg⟩, fun j hj => ?_⟩
    have h1 : n * sz ≤ cap * sz := Nat.mul_le_mul_right _ hnc
    have hjc : j < cur.size := by omega
    rw [← htk, List.getElem?_take, if_pos hj, Array.getElem?_toList, blk_cell' (o := j) hg (Array.getElem?_eq_getElem hjc), Array.getElem?_eq_getElem hjc]
set_option maxHeartbeats 4000000 in
set_option maxRecDepth 100000 in
theorem looks_any (H : Nat) (w : World) (L : Nat) (d : Ls) (h : LawIs H w L d) (hl : d.nl ≤ 100000000) (hi : d.ni ≤ 100000000) (ht : d.nt ≤ 100000000) :
    Calls Tryz.prog 6 #[.pointer (some ⟨L, 0, none⟩)] w fun r w' => r = .returned (.bool true) ∧ Below w.heap.size w w' := by
  obtain ⟨adl, cl, gl, el, cle, hal, hcl⟩ := owns_view h.rl
  obtain ⟨adi, ci, gi, ei, cie, hai, hci⟩ := owns_view h.ri
  obtain ⟨adt, ct, gt, et, cte, hat, hct⟩ := owns_view h.rt
  obtain ⟨ad0, c0, g0, e0, c0e, ha0, hc0⟩ := owns_view h.r0
  obtain ⟨ad1, c1, g1, e1, c1e, ha1, hc1⟩ := owns_view h.r1
  have hbk := h.bk
  rw [el, ei, et, e0, e1] at hbk
  have HL := h.cl
  have HI := h.ci
  have HT := h.ct
  have x1 := blk_cell' hbk (o := 1) rfl
  have x2 := blk_cell' hbk (o := 2) rfl
  have x3 := blk_cell' hbk (o := 3) rfl
  have x4 := blk_cell' hbk (o := 4) rfl
  have x5 := blk_cell' hbk (o := 5) rfl
  have HH : Hid (type_of% h) := h
  clear h hbk el ei et e0 e1
  go_enter Tryz.func6, Tryz.ntmps6
  go_wp2
  go_loopw [3, 4] (fun iv _ wr => ∃ k : Nat, k ≤ d.nl ∧ iv = .int .i64 k ∧ Grew w wr) (fun iv _ _ => d.nl - (intOf iv).toNat)
  case atStart => exact ⟨0, Nat.zero_le _, rfl, Grew.refl _⟩
  case round =>
    obtain ⟨i, hi', rfl, hg⟩ := hrel
    have y1 := hg.cell' x1
    by_cases hlt : i < d.nl
    · have hlt' : (i : Int) < (d.nl : Int) := by omega
      have hi0 : (0 : Int) ≤ (i : Int) := by omega
      obtain ⟨rfl, _, _⟩ := hal (by omega)
      obtain ⟨rfl, _, _⟩ := ha0 (by omega)
      have y4 := hg.cell' x4
      have z1 := hg.cell' ((hcl i (by omega)).trans (range_map_get _ _ _ hlt))
      have z4 := hg.cell' ((hc0 i (by omega)).trans (range_map_get _ _ _ hlt))
      obtain ⟨ad, n, cap, ev, hn, hnc, hfull⟩ := HL i hlt
      rw [ev] at z1
      go_wp2
      rename World => wo
      go_loopw [4] (fun kv w2 => ∃ k : Nat, k ≤ n ∧ kv = .int .i64 k ∧ Grew wo w2) (fun kv _ => n - (intOf kv).toNat)
      case atStart => exact ⟨0, Nat.zero_le _, rfl, Grew.refl _⟩
      case round =>
        obtain ⟨k, hk, rfl, hg2⟩ := hrel
        have u1 := hg2.cell' y1
        have v1 := hg2.cell' z1
        by_cases hkn : k < n
        · have hkn' : (k : Int) < (n : Int) := by omega
          have hk0 : (0 : Int) ≤ (k : Int) := by omega
          have u4 := hg2.cell' y4
          have v4 := hg2.cell' z4
          obtain ⟨gg, cs, fz, rfl, _, _, hcc⟩ := hfull (by omega)
          have q0 : wr.cell? ⟨gg, k * 2, none⟩ = some (.string ⟨#[109, 97, 114, 107]⟩) := hg2.cell' (hg.cell' (hcc k hkn 0 (by omega)))
          have q1 : wr.cell? ⟨gg, k * 2 + 1, none⟩ = some (.int .i64 (d.lm i)) := hg2.cell' (hg.cell' (hcc k hkn 1 (by omega)))
          have v1' : wr.cell? ⟨gl, i, none⟩ = some (.slice (some ⟨gg, 0, none⟩) n cap) := v1
          have v4' : wr.cell? ⟨g0, i, none⟩ = some (.int .i64 (d.lm i)) := v4
          clear v1 v4 hcc hcl hci hct hc0 hc1
          go_wp2
          go_quiet (fail)
          go_wp2
          exact ⟨⟨k + 1, by omega, by go_num, hg2.drewN _⟩, by simp [intOf]; omega⟩
        · have hkn' : ¬ (k : Int) < (n : Int) := by omega
          go_wp2
          exact ⟨⟨i + 1, by omega, by go_num, hg.trans hg2⟩, by simp [intOf]; omega⟩
    · have hlt' : ¬ (i : Int) < (d.nl : Int) := by omega
      clear hcl hc0 HL
      go_wp2
      rename World => wa
      have hga := hg
      clear hg
      go_loopw [5, 6, 7] (fun iv _ _ wr => ∃ k : Nat, k ≤ d.ni ∧ iv = .int .i64 k ∧ Grew w wr) (fun iv _ _ _ => d.ni - (intOf iv).toNat)
      case atStart => exact ⟨0, Nat.zero_le _, rfl, hga⟩
      case round =>
        clear hga
        obtain ⟨i, hi', rfl, hg⟩ := hrel
        have y2 := hg.cell' x2
        by_cases hlt : i < d.ni
        · have hlt' : (i : Int) < (d.ni : Int) := by omega
          have hi0 : (0 : Int) ≤ (i : Int) := by omega
          obtain ⟨rfl, _, _⟩ := hai (by omega)
          obtain ⟨rfl, _, _⟩ := ha1 (by omega)
          have y5 := hg.cell' x5
          have z2 := hg.cell' ((hci i (by omega)).trans (range_map_get _ _ _ hlt))
          have z5 : wr.cell? ⟨g1, i, none⟩ = some (.int .i64 (d.im i)) := hg.cell' ((hc1 i (by omega)).trans (range_map_get _ _ _ hlt))
          obtain ⟨ad, n, cap, ev, hn, hnc, hfull⟩ := HI i hlt
          rw [ev] at z2
          clear hci hc1 hct
          go_wp2
          rename World => wo
          go_loopw [7] (fun kv w2 => ∃ k : Nat, k ≤ n ∧ kv = .int .i64 k ∧ Grew wo w2) (fun kv _ => n - (intOf kv).toNat)
          case atStart => exact ⟨0, Nat.zero_le _, rfl, Grew.refl _⟩
          case round =>
            obtain ⟨k, hk, rfl, hg2⟩ := hrel
            have u2 := hg2.cell' y2
            have v2 := hg2.cell' z2
            by_cases hkn : k < n
            · have hkn' : (k : Int) < (n : Int) := by omega
              have hk0 : (0 : Int) ≤ (k : Int) := by omega
              obtain ⟨gg, cs, fz, rfl, _, _, hcc⟩ := hfull (by omega)
              have q0 : wr.cell? ⟨gg, k * 3, none⟩ = some (.int .i64 (d.im i)) := hg2.cell' (hg.cell' (hcc k hkn 0 (by omega)))
              have q1 : wr.cell? ⟨gg, k * 3 + 1, none⟩ = some (.int .i64 (d.im i)) := hg2.cell' (hg.cell' (hcc k hkn 1 (by omega)))
              have q2 : wr.cell? ⟨gg, k * 3 + 2, none⟩ = some (.int .i64 (d.im i)) := hg2.cell' (hg.cell' (hcc k hkn 2 (by omega)))
              have v2' : wr.cell? ⟨gi, i, none⟩ = some (.slice (some ⟨gg, 0, none⟩) n cap) := v2
              clear v2 hcc
              go_wp2
              exact ⟨⟨k + 1, by omega, by go_num, hg2⟩, by simp [intOf]; omega⟩
            · have hkn' : ¬ (k : Int) < (n : Int) := by omega
              go_wp2
              exact ⟨⟨i + 1, by omega, by go_num, hg.trans hg2⟩, by simp [intOf]; omega⟩
        · have hlt' : ¬ (i : Int) < (d.ni : Int) := by omega
          clear hci hc1 HI
          go_wp2
          rename World => wb
          have hgb := hg
          clear hg
          go_loopw [8, 9] (fun iv _ wr => ∃ k : Nat, k ≤ d.nt ∧ iv = .int .i64 k ∧ Grew w wr) (fun iv _ _ => d.nt - (intOf iv).toNat)
          case atStart => exact ⟨0, Nat.zero_le _, rfl, hgb⟩
          case round =>
            clear hgb
            obtain ⟨i, hi', rfl, hg⟩ := hrel
            have y3 := hg.cell' x3
            by_cases hlt : i < d.nt
            · have hlt' : (i : Int) < (d.nt : Int) := by omega
              have hi0 : (0 : Int) ≤ (i : Int) := by omega
              obtain ⟨rfl, _, _⟩ := hat (by omega)
              have z3 := hg.cell' ((hct i (by omega)).trans (range_map_get _ _ _ hlt))
              obtain ⟨ad, n, cap, ev, hn, hnc, hfull⟩ := HT i hlt
              rw [ev] at z3
              clear hct
              go_wp2
              rename World => wo
              go_loopw [9] (fun kv w2 => ∃ k : Nat, k ≤ n ∧ kv = .int .i64 k ∧ Grew wo w2) (fun kv _ => n - (intOf kv).toNat)
              case atStart => exact ⟨0, Nat.zero_le _, rfl, Grew.refl _⟩
              case round =>
                obtain ⟨k, hk, rfl, hg2⟩ := hrel
                have u3 := hg2.cell' y3
                have v3 := hg2.cell' z3
                by_cases hkn : k < n
                · have hkn' : (k : Int) < (n : Int) := by omega
                  have hk0 : (0 : Int) ≤ (k : Int) := by omega
                  obtain ⟨gg, cs, fz, rfl, _, _, hcc⟩ := hfull (by omega)
                  have q0 : wr.cell? ⟨gg, k * 2, none⟩ = some (.string ⟨#[111, 118, 101, 114]⟩) := hg2.cell' (hg.cell' (hcc k hkn 0 (by omega)))
                  have q1 : wr.cell? ⟨gg, k * 2 + 1, none⟩ = some (.int .i64 (-99)) := hg2.cell' (hg.cell' (hcc k hkn 1 (by omega)))
                  have v3' : wr.cell? ⟨gt, i, none⟩ = some (.slice (some ⟨gg, 0, none⟩) n cap) := v3
                  clear v3 hcc
                  go_wp2
                  have hgd : Grew wr wr.drew := (Grew.refl _).drew
                  go_region_with (go_at_call 22; refine Calls.mono (over_any _) ?_; rintro e w5 ⟨rfl, hg5⟩; have h5 := hgd.trans hg5; have u3' := h5.cell' u3; have q0' := h5.cell' q0; have q1' := h5.cell' q1; have v3'' := h5.cell' v3')
                  all_goals go_wp2
                  all_goals exact ⟨⟨k + 1, by omega, by go_num, hg2.trans h5⟩, by simp [intOf]; omega⟩
                · have hkn' : ¬ (k : Int) < (n : Int) := by omega
                  go_wp2
                  exact ⟨⟨i + 1, by omega, by go_num, hg.trans hg2⟩, by simp [intOf]; omega⟩
            · have hlt' : ¬ (i : Int) < (d.nt : Int) := by omega
              go_wp2
              go_ret
              exact ⟨rfl, hg.below⟩
end Go.Proofs.YtdljdffnnnoafaaGreat
