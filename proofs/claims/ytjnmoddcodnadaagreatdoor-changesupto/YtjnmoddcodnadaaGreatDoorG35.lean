import Derived.Test.YtjnmoddcodnadaaGreatDoorG34
set_option linter.unusedVariables false
set_option linter.unusedSimpArgs false
namespace Go.Annal
open Go.RowKit Go.Proofs Go.Proofs.YtjnmoddcodnadaaGreatDoor
theorem cells2_put (A R : List Ln) (y : Ln) (a : ByteArray) (m : Int) : ((cells2 (A ++ y :: R)).set (A.length * 2) (.string a)).set (A.length * 2 + 1) (.int .i64 m) = cells2 (A ++ (a, m) :: R) := by
  rw [cells2_append, cells2_append]
  have hl := cells2_len A
  rw [List.set_append_right _ _ (by omega), List.set_append_right _ _ (by omega)]
  rw [show A.length * 2 - (cells2 A).length = 0 by omega, show A.length * 2 + 1 - (cells2 A).length = 1 by omega]
  rfl
theorem cells2_rep (x : Ln) (k m : Nat) : cells2 (List.replicate k x) ++ cells2 (List.replicate m x) = cells2 (List.replicate (k + m) x) := by rw [← cells2_append, List.replicate_append_replicate]
end Go.Annal
namespace Go.Proofs.YtjnmoddcodnadaaGreatDoor
open Go.RowKit Go.Annal Go.Sort
theorem Tryz.infoLines : (Tryz.prog.info? 54).map (fun i => (i.zero, i.size, i.bytes)) = some (some (.slice none 0 0), 1, 24) := by kernel_rfl
theorem Tryz.infoInt : (Tryz.prog.info? 3).map (fun i => (i.zero, i.size, i.bytes)) = some (some (.int .i64 0), 1, 8) := by kernel_rfl
/-- A list that reads as one owns it. -/
theorem full_of_owns {w : World} {X : Nat} {e : TypeId} {sz n : Nat} {c : List Value} {v : Value} {xs : List Value} (h : w.ownsRow X e sz v n xs) (hn : n ≤ 2000000000) (hx : ∀ k, k < n → ∀ o, o < sz → xs[k * sz + o]? = c[o]?) : Full w e sz c (fun g => X ≤ g) v := by
  obtain ⟨ad, cap, g, rfl, h1, h2, h3⟩ := owns_view h
  refine ⟨ad, n, cap, rfl, hn, h1, fun hp => ?_⟩
  obtain ⟨rfl, hb, cs, hc⟩ := h2 hp
  refine ⟨g, cs, _, rfl, hc, hb, fun k hk o ho => ?_⟩
  have h4 : (k + 1) * sz ≤ n * sz := Nat.mul_le_mul_right _ hk
  rw [Nat.succ_mul] at h4
  rw [h3 _ (by omega), hx k hk o ho]
/-- One that was made before reads on, behind an append that writes the same. -/
theorem full_append {w w' : World} {X : Nat} {e : TypeId} {sz n m g cap : Nat} {c : List Value} {v y : Value} (hy : Full w e sz c (fun g => X ≤ g) y) (hlen : ∀ ad k cp, y = .slice ad k cp → k ≤ n + m) (hg : w.grownBy w' v.ownBlock) (hk : v.ownBlock = some g ∨ ∀ k, k < w.heap.size → w'.heap[k]? = w.heap[k]?) (hu : Full w' e sz c (fun g => X ≤ g) (.slice (some ⟨g, 0, none⟩) (n + m) cap)) : Full w' e sz c (fun g => X ≤ g) y := by
  obtain ⟨ad, k, cp, rfl, h1, h2, h3⟩ := hy
  refine ⟨ad, k, cp, rfl, h1, h2, fun hp => ?_⟩
  obtain ⟨gy, cs, fz, rfl, hc, hX, hcc⟩ := h3 hp
  have hle := hlen _ _ _ rfl
  by_cases hs : w'.heap[gy]? = w.heap[gy]?
  · exact ⟨gy, cs, fz, rfl, hs.trans hc, hX, fun j hj o ho => (World.cell?_of_block (w := w) (a := ⟨gy, j * sz + o, none⟩) hs).trans (hcc j hj o ho)⟩
  · have hg1 : v.ownBlock = some gy := by
      by_cases e : v.ownBlock = some gy
      · exact e
      · exact absurd (hg.block gy (blk_lt hc) (fun h => e h.symm)) hs
    have hgg : g = gy := by
      rcases hk with h | h
      · rw [h] at hg1; exact Option.some.inj hg1
      · exact absurd (h gy (blk_lt hc)) hs
    subst hgg
    obtain ⟨ad', k', cp', e', _, _, q3⟩ := hu
    injection e' with e1 e2 e3
    subst e2
    obtain ⟨g', cs', fz', e4, hc', hX', hcc'⟩ := q3 (by omega)
    rw [e4] at e1
    injection e1 with e1
    injection e1 with e1
    subst e1
    exact ⟨g, cs', fz', rfl, hc', hX', fun j hj o ho => hcc' j (by omega) o ho⟩
theorem rep_get (x : Ln) (n k o : Nat) (hk : k < n) (ho : o < 2) : (cells2 (List.replicate n x))[k * 2 + o]? = [Value.string x.1, .int .i64 x.2][o]? := by
  rw [cells2_get _ k (by simpa using hk) o ho]
  simp [enc2]
/-- What the owner of a list has made of it: four lists that read alike. -/
structure Owned (w w' : World) (X : Nat) (e : TypeId) (sz : Nat) (c : List Value) (v v1 v2 v3 : Value) : Prop where
  f0 : Full w' e sz c (fun g => X ≤ g) v
  f1 : Full w' e sz c (fun g => X ≤ g) v1
  f2 : Full w' e sz c (fun g => X ≤ g) v2
  f3 : Full w' e sz c (fun g => X ≤ g) v3
set_option maxHeartbeats 4000000 in
set_option maxRecDepth 100000 in
/-- ownLines, ahead of any invariant: what it makes of the memory. -/
theorem ownLines_any (H X L nl : Nat) (v vb vl vi vt v0 v1 : Value) (l : List Ln) (ls ms : List Value) (w : World) (hbk : w.heap[L]? = some (.cells #[vb, vl, vi, vt, v0, v1] 52 (0, 0)))
    (hrl : w.ownsRow H 54 1 vl nl ls) (hr0 : w.ownsRow H 3 1 v0 nl ms) (hv : w.ownsRow X 58 2 v l.length (cells2 l)) (hn : l.length ≤ 1000) (hnl : nl ≤ 100000000) (hXw : X ≤ w.heap.size) (hHw : H ≤ w.heap.size) :
    Calls Tryz.prog 88 #[.pointer (some ⟨L, 0, none⟩), v] w fun r w' => r = .returned (.tuple #[]) ∧ ∃ u1 u2 u3 vl' v0',
      w'.heap[L]? = some (.cells #[vb, vl', vi, vt, v0', v1] 52 (0, 0)) ∧ w'.ownsRow H 54 1 vl' (nl + 4) (ls ++ [v, u1, u2, u3]) ∧ w'.ownsRow H 3 1 v0' (nl + 4) (ms ++ [.int .i64 (-1 - (nl : Int)), .int .i64 (-1 - (nl : Int)), .int .i64 (-1 - (nl : Int)), .int .i64 (-1 - (nl : Int))]) ∧
      Owned w w' X 58 2 [.string markB, .int .i64 (-1 - (nl : Int))] v u1 u2 u3 ∧ Turn (fun b => v.ownBlock = some b ∨ vl.ownBlock = some b ∨ b = L ∨ v0.ownBlock = some b) w w' ∧ (∀ b, vl'.ownBlock = some b → vl.ownBlock = some b ∨ w.heap.size ≤ b) ∧ (∀ b, v0'.ownBlock = some b → v0.ownBlock = some b ∨ w.heap.size ≤ b) := by
  obtain ⟨ad0, c0, g0, e0, c0e, ha0, hc0⟩ := owns_view hr0
  obtain ⟨adv, cv, gv, ev, cve, hav, hcv⟩ := owns_view hv
  subst e0 ev
  have x1 := blk_cell' hbk (o := 1) rfl
  have x4 := blk_cell' hbk (o := 4) rfl
  obtain ⟨m, hm⟩ : ∃ m : Int, m = -1 - (nl : Int) := ⟨_, rfl⟩
  obtain ⟨W0, hW0⟩ : ∃ W0, W0 = w.alloc (.cells #[.string ⟨#[109, 97, 114, 107]⟩, .int .i64 m] 58) := ⟨_, rfl⟩
  have hT0 : Turn (fun _ => False) w W0 := by rw [hW0]; exact (Turn.refl _ w).alloc _
  have hb0 : W0.heap[w.heap.size]? = some (.cells #[.string ⟨#[109, 97, 114, 107]⟩, .int .i64 m] 58 (0, 0)) := by rw [hW0]; exact heap_alloc_new w _
  have hv0 := owns_turn hv hT0 (fun _ _ h => h)
  have hvb : (Value.slice adv l.length cv).ownBlock ≠ some w.heap.size := fun e => by have := (hv.lt _ e).2; omega
  have hvk : ∀ {k : Nat} {cs : Array Value} {t : TypeId} {fz : Nat × Nat}, w.heap[k]? = some (.cells cs t fz) → t ≠ 58 → (Value.slice adv l.length cv).ownBlock ≠ some k := by
    intro k cs t fz hc ht e
    obtain ⟨c', fz', hc'⟩ := owns_kind hv k e
    rw [hc] at hc'; simp at hc'; exact ht hc'.2.1
  have hvL : ¬ (Value.slice adv l.length cv).ownBlock = some L := hvk hbk (by decide)
  have hvl : ∀ g, vl.ownBlock = some g → ¬ (Value.slice adv l.length cv).ownBlock = some g := fun g e => by obtain ⟨c, fz, hc⟩ := owns_kind hrl g e; exact hvk hc (by decide)
  have hlL : vl.ownBlock ≠ some L := fun e => by
    obtain ⟨c, fz, hc⟩ := owns_kind hrl L e
    rw [hbk] at hc; simp at hc
  have hvm : ∀ g, (Value.slice ad0 nl c0).ownBlock = some g → ¬ (Value.slice adv l.length cv).ownBlock = some g := fun g e => by obtain ⟨c, fz, hc⟩ := owns_kind hr0 g e; exact hvk hc (by decide)
  have HV : Hid (type_of% hv0) := hv0
  have HB0 : Hid (type_of% hb0) := hb0
  have HW0 : Hid (type_of% hW0) := hW0
  have HM : Hid (type_of% hm) := hm
  clear hv0 hb0 hv hm hW0 hvk
  go_enter Tryz.func88, Tryz.ntmps88
  go_wp2
  rw [← HM.out, ← HW0.out]
  go_loopw [6] (fun iv wr => ∃ k : Nat, k ≤ l.length ∧ iv = .int .i64 k ∧ Hid (wr.ownsRow X 58 2 (.slice adv l.length cv) l.length (cells2 (List.replicate k (⟨#[109, 97, 114, 107]⟩, m) ++ l.drop k))) ∧ Hid (Turn (fun b => (Value.slice adv l.length cv).ownBlock = some b) W0 wr)) (fun iv _ => l.length - (intOf iv).toNat)
  case atStart => exact ⟨0, Nat.zero_le _, rfl, HV, Turn.refl _ _⟩
  case round =>
    obtain ⟨k, hk, rfl, hown, hT⟩ := hrel
    have hb1 := hT.out.blk HB0.out hvb
    have b0 := blk_cell' hb1 (o := 0) rfl
    have b1 := blk_cell' hb1 (o := 1) rfl
    by_cases hlt : k < l.length
    · have hlt' : (k : Int) < (l.length : Int) := by omega
      have hk0 : (0 : Int) ≤ (k : Int) := by omega
      obtain ⟨rfl, _, _⟩ := hav (by omega)
      have hdr : l.drop k = l[k] :: l.drop (k + 1) := List.drop_eq_getElem_cons hlt
      have ho := hown.out
      rw [hdr] at ho
      have hst := ((ho.stored (k * 2) (.string ⟨#[109, 97, 114, 107]⟩)).1.stored (k * 2 + 1) (.int .i64 m)).1
      have hcs := cells2_put (List.replicate k (⟨#[109, 97, 114, 107]⟩, m)) (l.drop (k + 1)) l[k] ⟨#[109, 97, 114, 107]⟩ m
      rw [List.length_replicate] at hcs
      rw [hcs] at hst
      have f0 := ho.frozenAt (k * 2)
      have f1 := ho.frozenAt (k * 2 + 1)
      have hk2 : k * 2 < (cells2 (List.replicate k (⟨#[109, 97, 114, 107]⟩, m) ++ l[k] :: l.drop (k + 1))).length := by rw [cells2_len]; simp; omega
      have hk3 : k * 2 + 1 < (cells2 (List.replicate k (⟨#[109, 97, 114, 107]⟩, m) ++ l[k] :: l.drop (k + 1))).length := by rw [cells2_len]; simp; omega
      have y0 := (ho.cellAt (k * 2) (by omega)).trans (List.getElem?_eq_getElem hk2)
      have y1 := (ho.cellAt (k * 2 + 1) (by omega)).trans (List.getElem?_eq_getElem hk3)
      have HS : Hid (type_of% hst) := hst
      generalize (cells2 (List.replicate k (⟨#[109, 97, 114, 107]⟩, m) ++ l[k] :: l.drop (k + 1)))[k * 2] = o0 at y0
      generalize (cells2 (List.replicate k (⟨#[109, 97, 114, 107]⟩, m) ++ l[k] :: l.drop (k + 1)))[k * 2 + 1] = o1 at y1
      have hdrop : List.replicate k ((⟨#[109, 97, 114, 107]⟩ : ByteArray), m) ++ (⟨#[109, 97, 114, 107]⟩, m) :: l.drop (k + 1) = List.replicate (k + 1) (⟨#[109, 97, 114, 107]⟩, m) ++ l.drop (k + 1) := by rw [List.replicate_succ', List.append_assoc]; rfl
      have HDR : Hid (type_of% hdrop) := hdrop
      clear hst hcs ho hdr hk2 hk3 hown hdrop
      go_wp2
      exact ⟨⟨k + 1, by omega, by go_num, by show Hid _; rw [← HDR.out]; exact HS.out, show Hid _ from (hT.out.set ⟨gv, k * 2, none⟩ _ (fun _ => rfl)).set ⟨gv, k * 2 + 1, none⟩ _ (fun _ => rfl)⟩, by simp [intOf]; omega⟩
    · have hlt' : ¬ (k : Int) < (l.length : Int) := by omega
      obtain rfl : k = l.length := by omega
      have ho := hown.out
      rw [List.drop_length, List.append_nil] at ho
      obtain ⟨i0, hi, hz0, hz1, hz2⟩ := info_parts Tryz.infoLine
      have hwx : w.heap.size < wr.heap.size := blk_lt hb1
      have hTw : Turn (fun b => (Value.slice adv l.length cv).ownBlock = some b) w wr := (hT0.mono (fun _ _ h => h.elim)).trans hT.out
      obtain ⟨i5, hi5, hz05, hz15, hz25⟩ := info_parts Tryz.infoLines
      clear hcv hc0 hown hav ha0
      go_wp2_with (first
        | (at_builtin; refine wpList_append_keep _ rfl (.tmp 29) (.tmp 31) 54 rfl X 58 i0 _ 2 24 Tryz.underlying54 hi hz0 hz1 hz2 rfl (by decide) (.slice adv l.length cv) l.length _ rfl (ho.alloc _) ⟨wr.heap.size, 0, none⟩ 1 1 [.string ⟨#[109, 97, 114, 107]⟩, .int .i64 m] rfl rfl (World.news_of_block (cs := #[.string ⟨#[109, 97, 114, 107]⟩, .int .i64 m]) (heap_alloc_new wr _)) (by simp [Value.oneCell']) (by decide) (by unfold maxLen; omega) (by omega) (by simp; omega) (wr.heap.size + 1) (by simp) ?_; intro g1 cap1 w1 hown1 hg1 hat1 hlt1 hkeep1 hch1; have hbx1 : w1.heap[w.heap.size]? = some (.cells #[.string ⟨#[109, 97, 114, 107]⟩, .int .i64 m] 58 (0, 0)) := (hg1.block _ (by simp; omega) (Ne.symm hvb)).trans (Grew.blk ((Grew.refl wr).alloc _) hb1); have hsz1 : w.heap.size < w1.heap.size := blk_lt hbx1; have bb10 := blk_cell' hbx1 (o := 0) rfl; have bb11 := blk_cell' hbx1 (o := 1) rfl; have T1 := Turn.of_grown (hTw.alloc (.cells #[.string ⟨#[109, 97, 114, 107]⟩, .int .i64 m] 58)) hg1 (fun k hk _ => hk))
        | (at_builtin; refine wpList_append_keep _ rfl (.tmp 33) (.tmp 36) 54 rfl X 58 i0 _ 2 24 Tryz.underlying54 hi hz0 hz1 hz2 rfl (by decide) (.slice adv l.length cv) l.length _ rfl (hkeep1.alloc _) ⟨w1.heap.size, 0, none⟩ 2 2 [.string ⟨#[109, 97, 114, 107]⟩, .int .i64 m, .string ⟨#[109, 97, 114, 107]⟩, .int .i64 m] rfl rfl (World.news_of_block (cs := #[.string ⟨#[109, 97, 114, 107]⟩, .int .i64 m, .string ⟨#[109, 97, 114, 107]⟩, .int .i64 m]) (heap_alloc_new w1 _)) (by simp [Value.oneCell']) (by decide) (by unfold maxLen; omega) (by omega) (by simp; omega) (w1.heap.size + 1) (by simp) ?_; intro g2 cap2 w2 hown2 hg2 hat2 hlt2 hkeep2 hch2; have hbx2 : w2.heap[w.heap.size]? = some (.cells #[.string ⟨#[109, 97, 114, 107]⟩, .int .i64 m] 58 (0, 0)) := (hg2.block _ (by simp; omega) (Ne.symm hvb)).trans (Grew.blk ((Grew.refl w1).alloc _) hbx1); have hsz2 : w.heap.size < w2.heap.size := blk_lt hbx2; have bb20 := blk_cell' hbx2 (o := 0) rfl; have bb21 := blk_cell' hbx2 (o := 1) rfl; have T2 := Turn.of_grown (T1.alloc (.cells #[.string ⟨#[109, 97, 114, 107]⟩, .int .i64 m, .string ⟨#[109, 97, 114, 107]⟩, .int .i64 m] 58)) hg2 (fun k hk _ => hk))
        | (at_builtin; refine wpList_append_keep _ rfl (.tmp 38) (.tmp 42) 54 rfl X 58 i0 _ 2 24 Tryz.underlying54 hi hz0 hz1 hz2 rfl (by decide) (.slice adv l.length cv) l.length _ rfl (hkeep2.alloc _) ⟨w2.heap.size, 0, none⟩ 3 3 [.string ⟨#[109, 97, 114, 107]⟩, .int .i64 m, .string ⟨#[109, 97, 114, 107]⟩, .int .i64 m, .string ⟨#[109, 97, 114, 107]⟩, .int .i64 m] rfl rfl (World.news_of_block (cs := #[.string ⟨#[109, 97, 114, 107]⟩, .int .i64 m, .string ⟨#[109, 97, 114, 107]⟩, .int .i64 m, .string ⟨#[109, 97, 114, 107]⟩, .int .i64 m]) (heap_alloc_new w2 _)) (by simp [Value.oneCell']) (by decide) (by unfold maxLen; omega) (by omega) (by simp; omega) (w2.heap.size + 1) (by simp) ?_; intro g3 cap3 w3 hown3 hg3 hat3 hlt3 hkeep3 hch3; have hbx3 : w3.heap[w.heap.size]? = some (.cells #[.string ⟨#[109, 97, 114, 107]⟩, .int .i64 m] 58 (0, 0)) := (hg3.block _ (by simp; omega) (Ne.symm hvb)).trans (Grew.blk ((Grew.refl w2).alloc _) hbx2); have hsz3 : w.heap.size < w3.heap.size := blk_lt hbx3; have bb30 := blk_cell' hbx3 (o := 0) rfl; have bb31 := blk_cell' hbx3 (o := 1) rfl; have T3 := Turn.of_grown (T2.alloc (.cells #[.string ⟨#[109, 97, 114, 107]⟩, .int .i64 m, .string ⟨#[109, 97, 114, 107]⟩, .int .i64 m, .string ⟨#[109, 97, 114, 107]⟩, .int .i64 m] 58)) hg3 (fun k hk _ => hk); have hL3 := T3.blk hbk hvL; have hrl3 := owns_turn hrl T3 hvl; have cL31 := blk_cell' hL3 (o := 1) rfl; have fL31 := blk_free hL3 1)
        | (at_builtin; refine wpList_append_lies _ rfl (.tmp 48) (.tmp 53) 48 rfl H 54 i5 _ 1 24 Tryz.underlying48 hi5 hz05 hz15 hz25 rfl (by decide) vl nl ls rfl (hrl3.alloc _) ⟨w3.heap.size, 0, none⟩ 4 4 [.slice adv l.length cv, .slice (some ⟨g1, 0, none⟩) (l.length + 1) cap1, .slice (some ⟨g2, 0, none⟩) (l.length + 2) cap2, .slice (some ⟨g3, 0, none⟩) (l.length + 3) cap3] rfl rfl (World.news_of_block (cs := #[.slice adv l.length cv, .slice (some ⟨g1, 0, none⟩) (l.length + 1) cap1, .slice (some ⟨g2, 0, none⟩) (l.length + 2) cap2, .slice (some ⟨g3, 0, none⟩) (l.length + 3) cap3]) (heap_alloc_new w3 _)) (by simp [Value.oneCell']) (by decide) (by unfold maxLen; omega) (by omega) (by simp; omega) (w3.heap.size + 1) (by simp) ?_; intro g4 cap4 w4 hown4 hg4 hat4 hlt4; have hL4 : w4.heap[L]? = some (.cells #[vb, vl, vi, vt, .slice ad0 nl c0, v1] 52 (0, 0)) := (hg4.block _ (by simp; have := blk_lt hL3; omega) (Ne.symm hlL)).trans (Grew.blk ((Grew.refl w3).alloc _) hL3); have cL41 := blk_cell' hL4 (o := 1) rfl; have fL41 := blk_free hL4 1; have hL5 : (w4.setCell ⟨L, 1, none⟩ (.slice (some ⟨g4, 0, none⟩) (nl + 4) cap4)).heap[L]? = some (.cells #[vb, .slice (some ⟨g4, 0, none⟩) (nl + 4) cap4, vi, vt, .slice ad0 nl c0, v1] 52 (0, 0)) := blk_set hL4 1 _; have cL54 := blk_cell' hL5 (o := 4) rfl; have fL54 := blk_free hL5 4))
      have hT4 : Turn (fun b => (Value.slice adv l.length cv).ownBlock = some b ∨ vl.ownBlock = some b ∨ b = L) w (w4.setCell ⟨L, 1, none⟩ (.slice (some ⟨g4, 0, none⟩) (nl + 4) cap4)) := (Turn.of_grown ((T3.mono (fun _ _ h => .inl h)).alloc _) hg4 (fun k hk _ => .inr (.inl hk))).set _ _ (fun _ => .inr (.inr rfl))
      have hr05 := owns_turn hr0 hT4 (fun g e hs => hs.elim (fun h => hvm g e h) (fun hs => hs.elim (fun h => by
        obtain ⟨c, fz, hc⟩ := owns_kind hr0 g e
        obtain ⟨c', fz', hc'⟩ := owns_kind hrl g h
        rw [hc] at hc'; simp at hc') (fun h => by
        obtain ⟨c, fz, hc⟩ := owns_kind hr0 g e
        rw [h, hbk] at hc; simp at hc)))
      have hown5 : (w4.setCell ⟨L, 1, none⟩ (.slice (some ⟨g4, 0, none⟩) (nl + 4) cap4)).ownsRow H 54 1 (.slice (some ⟨g4, 0, none⟩) (nl + 4) cap4) (nl + 4) (ls ++ [.slice adv l.length cv, .slice (some ⟨g1, 0, none⟩) (l.length + 1) cap1, .slice (some ⟨g2, 0, none⟩) (l.length + 2) cap2, .slice (some ⟨g3, 0, none⟩) (l.length + 3) cap3]) := ownsRow_setCell_other hown4 (a := ⟨L, 1, none⟩) (fun e => by
        obtain ⟨c, fz, hc⟩ := owns_kind hown4 L e
        rw [hL4] at hc; simp at hc) _
      have hHs : H ≤ (w4.setCell ⟨L, 1, none⟩ (.slice (some ⟨g4, 0, none⟩) (nl + 4) cap4)).heap.size := Nat.le_trans hHw hT4.size
      obtain ⟨W5, hW5⟩ : ∃ W5, w4.setCell ⟨L, 1, none⟩ (.slice (some ⟨g4, 0, none⟩) (nl + 4) cap4) = W5 := ⟨_, rfl⟩
      rw [hW5] at hT4 hr05 hown5 hL5 cL54 fL54 hHs ⊢
      obtain ⟨i6, hi6, hz06, hz16, hz26⟩ := info_parts Tryz.infoInt
      have hb6 : (W5.alloc (.cells #[.int .i64 m, .int .i64 m, .int .i64 m, .int .i64 m] 3)).drew.heap[W5.heap.size]? = some (.cells #[.int .i64 m, .int .i64 m, .int .i64 m, .int .i64 m] 3 (0, 0)) := heap_alloc_new W5 _
      have hmL : (Value.slice ad0 nl c0).ownBlock ≠ some L := fun e => by
        obtain ⟨c, fz, hc⟩ := owns_kind hr05 L e
        rw [hL5] at hc; simp at hc
      have hLlt := blk_lt hL5
      go_region_law ((refine step_append_lies _ (by rfl) _ _ _ (by rfl) H 3 i6 _ 1 8 Tryz.underlying40 hi6 hz06 hz16 hz26 rfl (by decide) (.slice ad0 nl c0) nl ms (by rfl) (by exact (hr05.alloc _).drew) ⟨W5.heap.size, 0, none⟩ 4 4 [.int .i64 m, .int .i64 m, .int .i64 m, .int .i64 m] (by rfl) rfl (World.news_of_block (cs := #[.int .i64 m, .int .i64 m, .int .i64 m, .int .i64 m]) hb6) (by simp [Value.oneCell']) (by decide) (by unfold maxLen; omega) (by omega) (by simp; omega) (W5.heap.size + 1) (by simp) ?_; intro g6 cap6 w6 hown6 hg6 hat6 hlt6; have hL6 : w6.heap[L]? = some (.cells #[vb, .slice (some ⟨g4, 0, none⟩) (nl + 4) cap4, vi, vt, .slice ad0 nl c0, v1] 52 (0, 0)) := (hg6.block _ (by simp; omega) (Ne.symm hmL)).trans (Grew.blk ((Grew.refl W5).alloc _).drew hL5); have cL64 := blk_cell' hL6 (o := 4) rfl; have fL64 := blk_free hL6 4))
      all_goals go_wp2
      all_goals go_end0
      all_goals
        have hsz5 := hT4.size
        have E : ∀ k : Nat, cells2 (List.replicate l.length ((⟨#[109, 97, 114, 107]⟩ : ByteArray), m)) ++ cells2 (List.replicate k (⟨#[109, 97, 114, 107]⟩, m)) = cells2 (List.replicate (l.length + k) (⟨#[109, 97, 114, 107]⟩, m)) := fun k => cells2_rep _ _ _
        have F1 : Full w1 58 2 [.string markB, .int .i64 m] (fun g => X ≤ g) (.slice (some ⟨g1, 0, none⟩) (l.length + 1) cap1) := full_of_owns hown1 (by omega) (fun k hk o ho => by rw [show ([Value.string ⟨#[109, 97, 114, 107]⟩, .int .i64 m] : List Value) = cells2 (List.replicate 1 ((⟨#[109, 97, 114, 107]⟩ : ByteArray), m)) from rfl, E]; exact rep_get _ _ _ _ hk ho)
        have F2 : Full w2 58 2 [.string markB, .int .i64 m] (fun g => X ≤ g) (.slice (some ⟨g2, 0, none⟩) (l.length + 2) cap2) := full_of_owns hown2 (by omega) (fun k hk o ho => by rw [show ([Value.string ⟨#[109, 97, 114, 107]⟩, .int .i64 m, .string ⟨#[109, 97, 114, 107]⟩, .int .i64 m] : List Value) = cells2 (List.replicate 2 ((⟨#[109, 97, 114, 107]⟩ : ByteArray), m)) from rfl, E]; exact rep_get _ _ _ _ hk ho)
        have F3 : Full w3 58 2 [.string markB, .int .i64 m] (fun g => X ≤ g) (.slice (some ⟨g3, 0, none⟩) (l.length + 3) cap3) := full_of_owns hown3 (by omega) (fun k hk o ho => by rw [show ([Value.string ⟨#[109, 97, 114, 107]⟩, .int .i64 m, .string ⟨#[109, 97, 114, 107]⟩, .int .i64 m, .string ⟨#[109, 97, 114, 107]⟩, .int .i64 m] : List Value) = cells2 (List.replicate 3 ((⟨#[109, 97, 114, 107]⟩ : ByteArray), m)) from rfl, E]; exact rep_get _ _ _ _ hk ho)
        have F0 : Full w3 58 2 [.string markB, .int .i64 m] (fun g => X ≤ g) (.slice adv l.length cv) := full_of_owns hkeep3 (by omega) (fun k hk o ho => rep_get _ _ _ _ hk ho)
        have A : ∀ (W : World) (o : Obj) (y : Value), Full W 58 2 [.string markB, .int .i64 m] (fun g => X ≤ g) y → Full (W.alloc o) 58 2 [.string markB, .int .i64 m] (fun g => X ≤ g) y := fun W o y h => h.turn (S := fun _ => False) ((Turn.refl _ W).alloc o) (fun _ _ _ _ _ h => h) (fun _ _ h => h)
        have F1' := full_append (A _ _ _ F1) (fun ad k cp e => by injection e; omega) hg2 hch2 F2
        have F1'' := full_append (A _ _ _ F1') (fun ad k cp e => by injection e; omega) hg3 hch3 F3
        have F2' := full_append (A _ _ _ F2) (fun ad k cp e => by injection e; omega) hg3 hch3 F3
        have T7 : Turn (fun b => vl.ownBlock = some b ∨ b = L ∨ (Value.slice ad0 nl c0).ownBlock = some b) w3 (w6.setCell ⟨L, 4, none⟩ (.slice (some ⟨g6, 0, none⟩) (nl + 4) cap6)) := by
          have T5 : Turn (fun b => vl.ownBlock = some b ∨ b = L ∨ (Value.slice ad0 nl c0).ownBlock = some b) w3 W5 := by
            rw [← hW5]
            exact (Turn.of_grown ((Turn.refl _ w3).alloc _) hg4 (fun k hk _ => .inl hk)).set _ _ (fun _ => .inr (.inl rfl))
          exact (Turn.of_grown (T5.alloc _).drew hg6 (fun k hk _ => .inr (.inr hk))).set _ _ (fun _ => .inr (.inl rfl))
        have hr03 := owns_turn hr0 T3 hvm
        have K : ∀ (g : Nat) (cs : Array Value) (fz : Nat × Nat), w3.heap[g]? = some (.cells cs 58 fz) → X ≤ g → ¬ (vl.ownBlock = some g ∨ g = L ∨ (Value.slice ad0 nl c0).ownBlock = some g) := by
          rintro g cs fz hc _ (h | h | h)
          · obtain ⟨c', fz', hc'⟩ := owns_kind hrl3 g h
            rw [hc] at hc'; simp at hc'
          · rw [h, hL3] at hc; simp at hc
          · obtain ⟨c', fz', hc'⟩ := owns_kind hr03 g h
            rw [hc] at hc'; simp at hc'
        have hm := HM.out
        rw [← hm]
        refine ⟨rfl, _, _, _, .slice (some ⟨g4, 0, none⟩) (nl + 4) cap4, .slice (some ⟨g6, 0, none⟩) (nl + 4) cap6, blk_set hL6 4 _, ?_, ?_, ⟨F0.turn T7 K (fun _ _ h => h), F1''.turn T7 K (fun _ _ h => h), F2'.turn T7 K (fun _ _ h => h), F3.turn T7 K (fun _ _ h => h)⟩, ?_, ?_, ?_⟩
        · have q1 : w6.ownsRow H 54 1 (.slice (some ⟨g4, 0, none⟩) (nl + 4) cap4) (nl + 4) _ := ((hown5.alloc _).drew).kept hg6 (.inr (fun e => by
            obtain ⟨c, fz, hc⟩ := owns_kind hown5 g4 rfl
            obtain ⟨c', fz', hc'⟩ := owns_kind hr05 g4 e.symm
            rw [hc] at hc'; simp at hc'))
          exact ownsRow_setCell_other q1 (a := ⟨L, 4, none⟩) (fun e => by
            obtain ⟨c, fz, hc⟩ := owns_kind q1 L e
            rw [hL6] at hc; simp at hc) _
        · exact ownsRow_setCell_other hown6 (a := ⟨L, 4, none⟩) (fun e => by
            obtain ⟨c, fz, hc⟩ := owns_kind hown6 L e
            rw [hL6] at hc; simp at hc) _
        · exact (T3.mono (fun _ _ h => .inl h)).trans (T7.mono (fun _ _ h => .inr h))
        · intro b e
          have : g4 = b := Option.some.inj e
          subst this
          rcases hat4 with h | h
          · exact .inl h
          · exact .inr (by have := T3.size; omega)
        · intro b e
          have : g6 = b := Option.some.inj e
          subst this
          rcases hat6 with h | h
          · exact .inl h
          · exact .inr (by omega)
end Go.Proofs.YtjnmoddcodnadaaGreatDoor
namespace Go.Annal
open Go.RowKit Go.Proofs Go.Proofs.YtjnmoddcodnadaaGreatDoor
theorem cells3_set (A R : List It) (y : It) (a b c : Int) : (((cells3 (A ++ y :: R)).set (A.length * 3) (.int .i64 a)).set (A.length * 3 + 1) (.int .i64 b)).set (A.length * 3 + 2) (.int .i64 c) = cells3 (A ++ (a, b, c) :: R) := by
  rw [cells3_append, cells3_append]
  have hl := cells3_len A
  rw [List.set_append_right _ _ (by omega), List.set_append_right _ _ (by omega), List.set_append_right _ _ (by omega)]
  rw [show A.length * 3 - (cells3 A).length = 0 by omega, show A.length * 3 + 1 - (cells3 A).length = 1 by omega, show A.length * 3 + 2 - (cells3 A).length = 2 by omega]
  rfl
theorem cells3_rep (x : It) (k m : Nat) : cells3 (List.replicate k x) ++ cells3 (List.replicate m x) = cells3 (List.replicate (k + m) x) := by rw [← cells3_append, List.replicate_append_replicate]
end Go.Annal
namespace Go.Proofs.YtjnmoddcodnadaaGreatDoor
open Go.RowKit Go.Annal Go.Sort
theorem Tryz.infoItems : (Tryz.prog.info? 104).map (fun i => (i.zero, i.size, i.bytes)) = some (some (.slice none 0 0), 1, 24) := by kernel_rfl
theorem rep_get3 (x : It) (n k o : Nat) (hk : k < n) (ho : o < 3) : (cells3 (List.replicate n x))[k * 3 + o]? = [Value.int .i64 x.1, .int .i64 x.2.1, .int .i64 x.2.2][o]? := by
  rw [cells3_get _ k (by simpa using hk) o ho]
  simp [enc3]
set_option maxHeartbeats 4000000 in
set_option maxRecDepth 100000 in
/-- ownItems, ahead of any invariant: what it makes of the memory. -/
theorem ownItems_any (H X L nl : Nat) (v vb vl vi vt v0 v1 : Value) (l : List It) (ls ms : List Value) (w : World) (hbk : w.heap[L]? = some (.cells #[vb, vi, vl, vt, v1, v0] 52 (0, 0)))
    (hrl : w.ownsRow H 104 1 vl nl ls) (hr0 : w.ownsRow H 3 1 v0 nl ms) (hv : w.ownsRow X 106 3 v l.length (cells3 l)) (hn : l.length ≤ 1000) (hnl : nl ≤ 100000000) (hXw : X ≤ w.heap.size) (hHw : H ≤ w.heap.size) :
    Calls Tryz.prog 92 #[.pointer (some ⟨L, 0, none⟩), v] w fun r w' => r = .returned (.tuple #[]) ∧ ∃ u1 u2 u3 vl' v0',
      w'.heap[L]? = some (.cells #[vb, vi, vl', vt, v1, v0'] 52 (0, 0)) ∧ w'.ownsRow H 104 1 vl' (nl + 4) (ls ++ [v, u1, u2, u3]) ∧ w'.ownsRow H 3 1 v0' (nl + 4) (ms ++ [.int .i64 (-1 - (nl : Int)), .int .i64 (-1 - (nl : Int)), .int .i64 (-1 - (nl : Int)), .int .i64 (-1 - (nl : Int))]) ∧
      Owned w w' X 106 3 [.int .i64 (-1 - (nl : Int)), .int .i64 (-1 - (nl : Int)), .int .i64 (-1 - (nl : Int))] v u1 u2 u3 ∧ Turn (fun b => v.ownBlock = some b ∨ vl.ownBlock = some b ∨ b = L ∨ v0.ownBlock = some b) w w' ∧ (∀ b, vl'.ownBlock = some b → vl.ownBlock = some b ∨ w.heap.size ≤ b) ∧ (∀ b, v0'.ownBlock = some b → v0.ownBlock = some b ∨ w.heap.size ≤ b) := by
  obtain ⟨ad0, c0, g0, e0, c0e, ha0, hc0⟩ := owns_view hr0
  obtain ⟨adv, cv, gv, ev, cve, hav, hcv⟩ := owns_view hv
  subst e0 ev
  have x1 := blk_cell' hbk (o := 2) rfl
  have x4 := blk_cell' hbk (o := 5) rfl
  obtain ⟨m, hm⟩ : ∃ m : Int, m = -1 - (nl : Int) := ⟨_, rfl⟩
  obtain ⟨W0, hW0⟩ : ∃ W0, W0 = w.alloc (.cells #[.int .i64 m, .int .i64 m, .int .i64 m] 106) := ⟨_, rfl⟩
  have hT0 : Turn (fun _ => False) w W0 := by rw [hW0]; exact (Turn.refl _ w).alloc _
  have hb0 : W0.heap[w.heap.size]? = some (.cells #[.int .i64 m, .int .i64 m, .int .i64 m] 106 (0, 0)) := by rw [hW0]; exact heap_alloc_new w _
  have hv0 := owns_turn hv hT0 (fun _ _ h => h)
  have hvb : (Value.slice adv l.length cv).ownBlock ≠ some w.heap.size := fun e => by have := (hv.lt _ e).2; omega
  have hvk : ∀ {k : Nat} {cs : Array Value} {t : TypeId} {fz : Nat × Nat}, w.heap[k]? = some (.cells cs t fz) → t ≠ 106 → (Value.slice adv l.length cv).ownBlock ≠ some k := by
    intro k cs t fz hc ht e
    obtain ⟨c', fz', hc'⟩ := owns_kind hv k e
    rw [hc] at hc'; simp at hc'; exact ht hc'.2.1
  have hvL : ¬ (Value.slice adv l.length cv).ownBlock = some L := hvk hbk (by decide)
  have hvl : ∀ g, vl.ownBlock = some g → ¬ (Value.slice adv l.length cv).ownBlock = some g := fun g e => by obtain ⟨c, fz, hc⟩ := owns_kind hrl g e; exact hvk hc (by decide)
  have hlL : vl.ownBlock ≠ some L := fun e => by
    obtain ⟨c, fz, hc⟩ := owns_kind hrl L e
    rw [hbk] at hc; simp at hc
  have hvm : ∀ g, (Value.slice ad0 nl c0).ownBlock = some g → ¬ (Value.slice adv l.length cv).ownBlock = some g := fun g e => by obtain ⟨c, fz, hc⟩ := owns_kind hr0 g e; exact hvk hc (by decide)
  have HV : Hid (type_of% hv0) := hv0
  have HB0 : Hid (type_of% hb0) := hb0
  have HW0 : Hid (type_of% hW0) := hW0
  have HM : Hid (type_of% hm) := hm
  clear hv0 hb0 hv hm hW0 hvk
  go_enter Tryz.func92, Tryz.ntmps92
  go_wp2
  rw [← HM.out, ← HW0.out]
  go_loopw [6] (fun iv wr => ∃ k : Nat, k ≤ l.length ∧ iv = .int .i64 k ∧ Hid (wr.ownsRow X 106 3 (.slice adv l.length cv) l.length (cells3 (List.replicate k (m, m, m) ++ l.drop k))) ∧ Hid (Turn (fun b => (Value.slice adv l.length cv).ownBlock = some b) W0 wr)) (fun iv _ => l.length - (intOf iv).toNat)
  case atStart => exact ⟨0, Nat.zero_le _, rfl, HV, Turn.refl _ _⟩
  case round =>
    obtain ⟨k, hk, rfl, hown, hT⟩ := hrel
    have hb1 := hT.out.blk HB0.out hvb
    have b0 := blk_cell' hb1 (o := 0) rfl
    have b1 := blk_cell' hb1 (o := 1) rfl
    have b2 := blk_cell' hb1 (o := 2) rfl
    by_cases hlt : k < l.length
    · have hlt' : (k : Int) < (l.length : Int) := by omega
      have hk0 : (0 : Int) ≤ (k : Int) := by omega
      obtain ⟨rfl, _, _⟩ := hav (by omega)
      have hdr : l.drop k = l[k] :: l.drop (k + 1) := List.drop_eq_getElem_cons hlt
      have ho := hown.out
      rw [hdr] at ho
      have hst := (((ho.stored (k * 3) (.int .i64 m)).1.stored (k * 3 + 1) (.int .i64 m)).1.stored (k * 3 + 2) (.int .i64 m)).1
      have hcs := cells3_set (List.replicate k (m, m, m)) (l.drop (k + 1)) l[k] m m m
      rw [List.length_replicate] at hcs
      rw [hcs] at hst
      have f0 := ho.frozenAt (k * 3)
      have f1 := ho.frozenAt (k * 3 + 1)
      have f2 := ho.frozenAt (k * 3 + 2)
      have hk2 : ∀ o, o < 3 → k * 3 + o < (cells3 (List.replicate k (m, m, m) ++ l[k] :: l.drop (k + 1))).length := fun o ho => by rw [cells3_len]; simp; omega
      obtain ⟨o0, y0⟩ : ∃ v, wr.cell? ⟨gv, k * 3, none⟩ = some v := ⟨_, (ho.cellAt (k * 3) (by omega)).trans (List.getElem?_eq_getElem (hk2 0 (by omega)))⟩
      obtain ⟨o1, y1⟩ : ∃ v, wr.cell? ⟨gv, k * 3 + 1, none⟩ = some v := ⟨_, (ho.cellAt (k * 3 + 1) (by omega)).trans (List.getElem?_eq_getElem (hk2 1 (by omega)))⟩
      obtain ⟨o2, y2⟩ : ∃ v, wr.cell? ⟨gv, k * 3 + 2, none⟩ = some v := ⟨_, (ho.cellAt (k * 3 + 2) (by omega)).trans (List.getElem?_eq_getElem (hk2 2 (by omega)))⟩
      have HS : Hid (type_of% hst) := hst
      have hdrop : List.replicate k (m, m, m) ++ (m, m, m) :: l.drop (k + 1) = List.replicate (k + 1) (m, m, m) ++ l.drop (k + 1) := by rw [List.replicate_succ', List.append_assoc]; rfl
      have HDR : Hid (type_of% hdrop) := hdrop
      clear hst hcs ho hdr hk2 hown hdrop
      go_wp2
      exact ⟨⟨k + 1, by omega, by go_num, by show Hid _; rw [← HDR.out]; exact HS.out, show Hid _ from ((hT.out.set ⟨gv, k * 3, none⟩ _ (fun _ => rfl)).set ⟨gv, k * 3 + 1, none⟩ _ (fun _ => rfl)).set ⟨gv, k * 3 + 2, none⟩ _ (fun _ => rfl)⟩, by simp [intOf]; omega⟩
    · have hlt' : ¬ (k : Int) < (l.length : Int) := by omega
      obtain rfl : k = l.length := by omega
      have ho := hown.out
      rw [List.drop_length, List.append_nil] at ho
      obtain ⟨i0, hi, hz0, hz1, hz2⟩ := info_parts Tryz.infoItem
      have hwx : w.heap.size < wr.heap.size := blk_lt hb1
      have hTw : Turn (fun b => (Value.slice adv l.length cv).ownBlock = some b) w wr := (hT0.mono (fun _ _ h => h.elim)).trans hT.out
      obtain ⟨i5, hi5, hz05, hz15, hz25⟩ := info_parts Tryz.infoItems
      clear hcv hc0 hown hav ha0
      go_wp2_with (first
        | (at_builtin; refine wpList_append_keep _ rfl (.tmp 31) (.tmp 33) 104 rfl X 106 i0 _ 3 24 Tryz.underlying104 hi hz0 hz1 hz2 rfl (by decide) (.slice adv l.length cv) l.length _ rfl (ho.alloc _) ⟨wr.heap.size, 0, none⟩ 1 1 [.int .i64 m, .int .i64 m, .int .i64 m] rfl rfl (World.news_of_block (cs := #[.int .i64 m, .int .i64 m, .int .i64 m]) (heap_alloc_new wr _)) (by simp [Value.oneCell']) (by decide) (by unfold maxLen; omega) (by omega) (by simp; omega) (wr.heap.size + 1) (by simp) ?_; intro g1 cap1 w1 hown1 hg1 hat1 hlt1 hkeep1 hch1; have hbx1 : w1.heap[w.heap.size]? = some (.cells #[.int .i64 m, .int .i64 m, .int .i64 m] 106 (0, 0)) := (hg1.block _ (by simp; omega) (Ne.symm hvb)).trans (Grew.blk ((Grew.refl wr).alloc _) hb1); have hsz1 : w.heap.size < w1.heap.size := blk_lt hbx1; have bb10 := blk_cell' hbx1 (o := 0) rfl; have bb11 := blk_cell' hbx1 (o := 1) rfl; have bb12 := blk_cell' hbx1 (o := 2) rfl; have T1 := Turn.of_grown (hTw.alloc (.cells #[.int .i64 m, .int .i64 m, .int .i64 m] 106)) hg1 (fun k hk _ => hk))
        | (at_builtin; refine wpList_append_keep _ rfl (.tmp 35) (.tmp 38) 104 rfl X 106 i0 _ 3 24 Tryz.underlying104 hi hz0 hz1 hz2 rfl (by decide) (.slice adv l.length cv) l.length _ rfl (hkeep1.alloc _) ⟨w1.heap.size, 0, none⟩ 2 2 [.int .i64 m, .int .i64 m, .int .i64 m, .int .i64 m, .int .i64 m, .int .i64 m] rfl rfl (World.news_of_block (cs := #[.int .i64 m, .int .i64 m, .int .i64 m, .int .i64 m, .int .i64 m, .int .i64 m]) (heap_alloc_new w1 _)) (by simp [Value.oneCell']) (by decide) (by unfold maxLen; omega) (by omega) (by simp; omega) (w1.heap.size + 1) (by simp) ?_; intro g2 cap2 w2 hown2 hg2 hat2 hlt2 hkeep2 hch2; have hbx2 : w2.heap[w.heap.size]? = some (.cells #[.int .i64 m, .int .i64 m, .int .i64 m] 106 (0, 0)) := (hg2.block _ (by simp; omega) (Ne.symm hvb)).trans (Grew.blk ((Grew.refl w1).alloc _) hbx1); have hsz2 : w.heap.size < w2.heap.size := blk_lt hbx2; have bb20 := blk_cell' hbx2 (o := 0) rfl; have bb21 := blk_cell' hbx2 (o := 1) rfl; have bb22 := blk_cell' hbx2 (o := 2) rfl; have T2 := Turn.of_grown (T1.alloc (.cells #[.int .i64 m, .int .i64 m, .int .i64 m, .int .i64 m, .int .i64 m, .int .i64 m] 106)) hg2 (fun k hk _ => hk))
        | (at_builtin; refine wpList_append_keep _ rfl (.tmp 40) (.tmp 44) 104 rfl X 106 i0 _ 3 24 Tryz.underlying104 hi hz0 hz1 hz2 rfl (by decide) (.slice adv l.length cv) l.length _ rfl (hkeep2.alloc _) ⟨w2.heap.size, 0, none⟩ 3 3 [.int .i64 m, .int .i64 m, .int .i64 m, .int .i64 m, .int .i64 m, .int .i64 m, .int .i64 m, .int .i64 m, .int .i64 m] rfl rfl (World.news_of_block (cs := #[.int .i64 m, .int .i64 m, .int .i64 m, .int .i64 m, .int .i64 m, .int .i64 m, .int .i64 m, .int .i64 m, .int .i64 m]) (heap_alloc_new w2 _)) (by simp [Value.oneCell']) (by decide) (by unfold maxLen; omega) (by omega) (by simp; omega) (w2.heap.size + 1) (by simp) ?_; intro g3 cap3 w3 hown3 hg3 hat3 hlt3 hkeep3 hch3; have hbx3 : w3.heap[w.heap.size]? = some (.cells #[.int .i64 m, .int .i64 m, .int .i64 m] 106 (0, 0)) := (hg3.block _ (by simp; omega) (Ne.symm hvb)).trans (Grew.blk ((Grew.refl w2).alloc _) hbx2); have hsz3 : w.heap.size < w3.heap.size := blk_lt hbx3; have bb30 := blk_cell' hbx3 (o := 0) rfl; have bb31 := blk_cell' hbx3 (o := 1) rfl; have bb32 := blk_cell' hbx3 (o := 2) rfl; have T3 := Turn.of_grown (T2.alloc (.cells #[.int .i64 m, .int .i64 m, .int .i64 m, .int .i64 m, .int .i64 m, .int .i64 m, .int .i64 m, .int .i64 m, .int .i64 m] 106)) hg3 (fun k hk _ => hk); have hL3 := T3.blk hbk hvL; have hrl3 := owns_turn hrl T3 hvl; have cL31 := blk_cell' hL3 (o := 2) rfl; have fL31 := blk_free hL3 2)
        | (at_builtin; refine wpList_append_lies _ rfl (.tmp 50) (.tmp 55) 49 rfl H 104 i5 _ 1 24 Tryz.underlying49 hi5 hz05 hz15 hz25 rfl (by decide) vl nl ls rfl (hrl3.alloc _) ⟨w3.heap.size, 0, none⟩ 4 4 [.slice adv l.length cv, .slice (some ⟨g1, 0, none⟩) (l.length + 1) cap1, .slice (some ⟨g2, 0, none⟩) (l.length + 2) cap2, .slice (some ⟨g3, 0, none⟩) (l.length + 3) cap3] rfl rfl (World.news_of_block (cs := #[.slice adv l.length cv, .slice (some ⟨g1, 0, none⟩) (l.length + 1) cap1, .slice (some ⟨g2, 0, none⟩) (l.length + 2) cap2, .slice (some ⟨g3, 0, none⟩) (l.length + 3) cap3]) (heap_alloc_new w3 _)) (by simp [Value.oneCell']) (by decide) (by unfold maxLen; omega) (by omega) (by simp; omega) (w3.heap.size + 1) (by simp) ?_; intro g4 cap4 w4 hown4 hg4 hat4 hlt4; have hL4 : w4.heap[L]? = some (.cells #[vb, vi, vl, vt, v1, .slice ad0 nl c0] 52 (0, 0)) := (hg4.block _ (by simp; have := blk_lt hL3; omega) (Ne.symm hlL)).trans (Grew.blk ((Grew.refl w3).alloc _) hL3); have cL41 := blk_cell' hL4 (o := 2) rfl; have fL41 := blk_free hL4 2; have hL5 : (w4.setCell ⟨L, 2, none⟩ (.slice (some ⟨g4, 0, none⟩) (nl + 4) cap4)).heap[L]? = some (.cells #[vb, vi, .slice (some ⟨g4, 0, none⟩) (nl + 4) cap4, vt, v1, .slice ad0 nl c0] 52 (0, 0)) := blk_set hL4 2 _; have cL54 := blk_cell' hL5 (o := 5) rfl; have fL54 := blk_free hL5 5))
      have hT4 : Turn (fun b => (Value.slice adv l.length cv).ownBlock = some b ∨ vl.ownBlock = some b ∨ b = L) w (w4.setCell ⟨L, 2, none⟩ (.slice (some ⟨g4, 0, none⟩) (nl + 4) cap4)) := (Turn.of_grown ((T3.mono (fun _ _ h => .inl h)).alloc _) hg4 (fun k hk _ => .inr (.inl hk))).set _ _ (fun _ => .inr (.inr rfl))
      have hr05 := owns_turn hr0 hT4 (fun g e hs => hs.elim (fun h => hvm g e h) (fun hs => hs.elim (fun h => by
        obtain ⟨c, fz, hc⟩ := owns_kind hr0 g e
        obtain ⟨c', fz', hc'⟩ := owns_kind hrl g h
        rw [hc] at hc'; simp at hc') (fun h => by
        obtain ⟨c, fz, hc⟩ := owns_kind hr0 g e
        rw [h, hbk] at hc; simp at hc)))
      have hown5 : (w4.setCell ⟨L, 2, none⟩ (.slice (some ⟨g4, 0, none⟩) (nl + 4) cap4)).ownsRow H 104 1 (.slice (some ⟨g4, 0, none⟩) (nl + 4) cap4) (nl + 4) (ls ++ [.slice adv l.length cv, .slice (some ⟨g1, 0, none⟩) (l.length + 1) cap1, .slice (some ⟨g2, 0, none⟩) (l.length + 2) cap2, .slice (some ⟨g3, 0, none⟩) (l.length + 3) cap3]) := ownsRow_setCell_other hown4 (a := ⟨L, 2, none⟩) (fun e => by
        obtain ⟨c, fz, hc⟩ := owns_kind hown4 L e
        rw [hL4] at hc; simp at hc) _
      have hHs : H ≤ (w4.setCell ⟨L, 2, none⟩ (.slice (some ⟨g4, 0, none⟩) (nl + 4) cap4)).heap.size := Nat.le_trans hHw hT4.size
      obtain ⟨W5, hW5⟩ : ∃ W5, w4.setCell ⟨L, 2, none⟩ (.slice (some ⟨g4, 0, none⟩) (nl + 4) cap4) = W5 := ⟨_, rfl⟩
      rw [hW5] at hT4 hr05 hown5 hL5 cL54 fL54 hHs ⊢
      obtain ⟨i6, hi6, hz06, hz16, hz26⟩ := info_parts Tryz.infoInt
      have hb6 : (W5.alloc (.cells #[.int .i64 m, .int .i64 m, .int .i64 m, .int .i64 m] 3)).drew.heap[W5.heap.size]? = some (.cells #[.int .i64 m, .int .i64 m, .int .i64 m, .int .i64 m] 3 (0, 0)) := heap_alloc_new W5 _
      have hmL : (Value.slice ad0 nl c0).ownBlock ≠ some L := fun e => by
        obtain ⟨c, fz, hc⟩ := owns_kind hr05 L e
        rw [hL5] at hc; simp at hc
      have hLlt := blk_lt hL5
      go_region_law ((refine step_append_lies _ (by rfl) _ _ _ (by rfl) H 3 i6 _ 1 8 Tryz.underlying40 hi6 hz06 hz16 hz26 rfl (by decide) (.slice ad0 nl c0) nl ms (by rfl) (by exact (hr05.alloc _).drew) ⟨W5.heap.size, 0, none⟩ 4 4 [.int .i64 m, .int .i64 m, .int .i64 m, .int .i64 m] (by rfl) rfl (World.news_of_block (cs := #[.int .i64 m, .int .i64 m, .int .i64 m, .int .i64 m]) hb6) (by simp [Value.oneCell']) (by decide) (by unfold maxLen; omega) (by omega) (by simp; omega) (W5.heap.size + 1) (by simp) ?_; intro g6 cap6 w6 hown6 hg6 hat6 hlt6; have hL6 : w6.heap[L]? = some (.cells #[vb, vi, .slice (some ⟨g4, 0, none⟩) (nl + 4) cap4, vt, v1, .slice ad0 nl c0] 52 (0, 0)) := (hg6.block _ (by simp; omega) (Ne.symm hmL)).trans (Grew.blk ((Grew.refl W5).alloc _).drew hL5); have cL64 := blk_cell' hL6 (o := 5) rfl; have fL64 := blk_free hL6 5))
      all_goals go_wp2
      all_goals go_end0
      all_goals
        have hsz5 := hT4.size
        have E : ∀ k : Nat, cells3 (List.replicate l.length (m, m, m)) ++ cells3 (List.replicate k (m, m, m)) = cells3 (List.replicate (l.length + k) (m, m, m)) := fun k => cells3_rep _ _ _
        have F1 : Full w1 106 3 [.int .i64 m, .int .i64 m, .int .i64 m] (fun g => X ≤ g) (.slice (some ⟨g1, 0, none⟩) (l.length + 1) cap1) := full_of_owns hown1 (by omega) (fun k hk o ho => by rw [show ([Value.int .i64 m, .int .i64 m, .int .i64 m] : List Value) = cells3 (List.replicate 1 (m, m, m)) from rfl, E]; exact rep_get3 _ _ _ _ hk ho)
        have F2 : Full w2 106 3 [.int .i64 m, .int .i64 m, .int .i64 m] (fun g => X ≤ g) (.slice (some ⟨g2, 0, none⟩) (l.length + 2) cap2) := full_of_owns hown2 (by omega) (fun k hk o ho => by rw [show ([Value.int .i64 m, .int .i64 m, .int .i64 m, .int .i64 m, .int .i64 m, .int .i64 m] : List Value) = cells3 (List.replicate 2 (m, m, m)) from rfl, E]; exact rep_get3 _ _ _ _ hk ho)
        have F3 : Full w3 106 3 [.int .i64 m, .int .i64 m, .int .i64 m] (fun g => X ≤ g) (.slice (some ⟨g3, 0, none⟩) (l.length + 3) cap3) := full_of_owns hown3 (by omega) (fun k hk o ho => by rw [show ([Value.int .i64 m, .int .i64 m, .int .i64 m, .int .i64 m, .int .i64 m, .int .i64 m, .int .i64 m, .int .i64 m, .int .i64 m] : List Value) = cells3 (List.replicate 3 (m, m, m)) from rfl, E]; exact rep_get3 _ _ _ _ hk ho)
        have F0 : Full w3 106 3 [.int .i64 m, .int .i64 m, .int .i64 m] (fun g => X ≤ g) (.slice adv l.length cv) := full_of_owns hkeep3 (by omega) (fun k hk o ho => rep_get3 _ _ _ _ hk ho)
        have A : ∀ (W : World) (o : Obj) (y : Value), Full W 106 3 [.int .i64 m, .int .i64 m, .int .i64 m] (fun g => X ≤ g) y → Full (W.alloc o) 106 3 [.int .i64 m, .int .i64 m, .int .i64 m] (fun g => X ≤ g) y := fun W o y h => h.turn (S := fun _ => False) ((Turn.refl _ W).alloc o) (fun _ _ _ _ _ h => h) (fun _ _ h => h)
        have F1' := full_append (A _ _ _ F1) (fun ad k cp e => by injection e; omega) hg2 hch2 F2
        have F1'' := full_append (A _ _ _ F1') (fun ad k cp e => by injection e; omega) hg3 hch3 F3
        have F2' := full_append (A _ _ _ F2) (fun ad k cp e => by injection e; omega) hg3 hch3 F3
        have T7 : Turn (fun b => vl.ownBlock = some b ∨ b = L ∨ (Value.slice ad0 nl c0).ownBlock = some b) w3 (w6.setCell ⟨L, 5, none⟩ (.slice (some ⟨g6, 0, none⟩) (nl + 4) cap6)) := by
          have T5 : Turn (fun b => vl.ownBlock = some b ∨ b = L ∨ (Value.slice ad0 nl c0).ownBlock = some b) w3 W5 := by
            rw [← hW5]
            exact (Turn.of_grown ((Turn.refl _ w3).alloc _) hg4 (fun k hk _ => .inl hk)).set _ _ (fun _ => .inr (.inl rfl))
          exact (Turn.of_grown (T5.alloc _).drew hg6 (fun k hk _ => .inr (.inr hk))).set _ _ (fun _ => .inr (.inl rfl))
        have hr03 := owns_turn hr0 T3 hvm
        have K : ∀ (g : Nat) (cs : Array Value) (fz : Nat × Nat), w3.heap[g]? = some (.cells cs 106 fz) → X ≤ g → ¬ (vl.ownBlock = some g ∨ g = L ∨ (Value.slice ad0 nl c0).ownBlock = some g) := by
          rintro g cs fz hc _ (h | h | h)
          · obtain ⟨c', fz', hc'⟩ := owns_kind hrl3 g h
            rw [hc] at hc'; simp at hc'
          · rw [h, hL3] at hc; simp at hc
          · obtain ⟨c', fz', hc'⟩ := owns_kind hr03 g h
            rw [hc] at hc'; simp at hc'
        have hm := HM.out
        rw [← hm]
        refine ⟨rfl, _, _, _, .slice (some ⟨g4, 0, none⟩) (nl + 4) cap4, .slice (some ⟨g6, 0, none⟩) (nl + 4) cap6, blk_set hL6 5 _, ?_, ?_, ⟨F0.turn T7 K (fun _ _ h => h), F1''.turn T7 K (fun _ _ h => h), F2'.turn T7 K (fun _ _ h => h), F3.turn T7 K (fun _ _ h => h)⟩, ?_, ?_, ?_⟩
        · have q1 : w6.ownsRow H 104 1 (.slice (some ⟨g4, 0, none⟩) (nl + 4) cap4) (nl + 4) _ := ((hown5.alloc _).drew).kept hg6 (.inr (fun e => by
            obtain ⟨c, fz, hc⟩ := owns_kind hown5 g4 rfl
            obtain ⟨c', fz', hc'⟩ := owns_kind hr05 g4 e.symm
            rw [hc] at hc'; simp at hc'))
          exact ownsRow_setCell_other q1 (a := ⟨L, 5, none⟩) (fun e => by
            obtain ⟨c, fz, hc⟩ := owns_kind q1 L e
            rw [hL6] at hc; simp at hc) _
        · exact ownsRow_setCell_other hown6 (a := ⟨L, 5, none⟩) (fun e => by
            obtain ⟨c, fz, hc⟩ := owns_kind hown6 L e
            rw [hL6] at hc; simp at hc) _
        · exact (T3.mono (fun _ _ h => .inl h)).trans (T7.mono (fun _ _ h => .inr h))
        · intro b e
          have : g4 = b := Option.some.inj e
          subst this
          rcases hat4 with h | h
          · exact .inl h
          · exact .inr (by have := T3.size; omega)
        · intro b e
          have : g6 = b := Option.some.inj e
          subst this
          rcases hat6 with h | h
          · exact .inl h
          · exact .inr (by omega)
end Go.Proofs.YtjnmoddcodnadaaGreatDoor
