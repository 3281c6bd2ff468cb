import Derived.Test.YtjnmoddcodnadaaGreatDoorG08
set_option linter.unusedVariables false
set_option linter.unusedSimpArgs false
namespace Go.Annal
def rowsAll (rl : Nat → List Rw) (xs : List Nat) : List Rw := xs.flatMap rl
end Go.Annal
namespace Go.Proofs.YtjnmoddcodnadaaGreatDoor
open Go.RowKit Go.Annal Go.Sort Go.Shelf
attribute [local go_sem] Oper.semAt_some
attribute [local go_sem ↓] Go.Annal.appendIn_pre Go.Annal.wpIn_at_zero Go.Annal.wpIn_at_succ
theorem Tryz.infoRow : (Tryz.prog.info? 195).map (fun i => (i.zero, i.size, i.bytes)) = some (some (.agg #[.int .i64 0, .int .i64 0, .int .i64 0, .int .i64 0]), 4, 32) := by kernel_rfl
theorem Tryz.infoBlock : (Tryz.prog.info? 193).map (fun i => (i.zero, i.size, i.bytes)) = some (some (.agg #[.int .i64 0, .slice none 0 0]), 2, 32) := by kernel_rfl
theorem rowsAll_snoc (rl : Nat → List Rw) (xs : List Nat) (x : Nat) : rowsAll rl (xs ++ [x]) = rowsAll rl xs ++ rl x := by simp [rowsAll]

theorem rowsAll_len (rl : Nat → List Rw) (m : Nat) (h : ∀ i, i < m → (rl i).length ≤ 64) (pre : List { k : Nat // k < m }) : (rowsAll rl (pre.map (·.1))).length ≤ pre.length * 64 := by
  induction pre with
  | nil => simp [rowsAll]
  | cons x r ih =>
    have h2 := h x.1 x.2
    simp only [rowsAll, List.map_cons, List.flatMap_cons, List.length_append, List.length_cons] at *
    omega
theorem one4 {a b c d : Int} : ∀ u ∈ [Value.int .i64 a, .int .i64 b, .int .i64 c, .int .i64 d], u.oneCell' = true := by simp [Value.oneCell']
/-- What is to hold behind a walk, hidden while it goes on. -/
def onlyN (N : Act → World → Prop) : Exit → Act → World → Prop
  | .normal, a, w => N a w
  | _, _, _ => False
theorem wp_hide {F : Fence} {n : Nat} {P : Program} {c : Code} {Q : Exit → Act → World → Prop} {a : Act} {w : World} (h : ∀ N, Hid (N = fun a w => Q .normal a w) → Code.wpIn F n P c (onlyN N) a w) : Code.wpIn F n P c Q a w :=
  Code.wpIn_mono (fun e a w he => by cases e <;> first | exact he | exact he.elim) (h _ rfl)
/-- The cells of an owned row, read. -/
theorem news_owned {w : World} {B : Nat} {e : TypeId} {size n g cap : Nat} {xs : List Value} (h : w.ownsRow B e size (.slice (some ⟨g, 0, none⟩) n cap) n xs) : ∀ j u, xs[j]? = some u → w.cell? ((⟨g, 0, none⟩ : Addr).add j) = some u := by
  intro j u hu
  rcases h.2 with ⟨hv, _⟩ | ⟨g', cap', cur, hv, _, hc, _, _, _, ht⟩
  · cases hv
  · cases hv
    rw [← ht, List.getElem?_take] at hu
    split at hu
    · exact World.news_of_block hc j u hu
    · cases hu

/-- What a loop that gathers rows keeps: named blocks; the box of what is gathered; all that was there; what the iterator leans on. -/
structure RwI (w W3 W wr : World) (FK : List (Nat × Obj)) (KB : List Nat) (bi n : Nat) (cs : List Value) : Prop where
  fk : ∀ p ∈ FK, wr.heap[p.1]? = some p.2
  box : ∃ v, Boxed wr bi 191 v ∧ wr.ownsRow w.heap.size 195 4 v n cs
  below : RowKit.Below w.heap.size w wr
  keep : KeepB w.heap.size KB W wr
  frm : KeepsFrom W3.heap.size W wr
  size : W3.heap.size ≤ wr.heap.size
theorem RwI.grew {w W3 W wr wr' : World} {FK : List (Nat × Obj)} {KB : List Nat} {bi n : Nat} {cs : List Value} (h : RwI w W3 W wr FK KB bi n cs) (hg : Grew wr wr') : RwI w W3 W wr' FK KB bi n cs := by
  obtain ⟨v, h1, h2⟩ := h.box
  exact ⟨fun p hp => hg.blk (h.fk p hp), ⟨v, hg.blk h1, owns_mv h2 hg.below⟩, h.below.trans (hg.below.mono h.below.size), h.keep.trans (KeepB.of_grew h.below.size hg), h.frm.trans ⟨hg.size, fun k o _ hk _ => hg.blk hk⟩, Nat.le_trans h.size hg.size⟩
theorem RwI.step {w W3 W wr wr' w' : World} {FK : List (Nat × Obj)} {KB : List Nat} {bi n n' : Nat} {cs cs' : List Value} (h : RwI w W3 W wr FK KB bi n cs) (hFK : ∀ p ∈ FK, p.1 ≠ bi ∧ ∃ cs t fz, p.2 = .cells cs t fz ∧ t ≠ 195) (hKB : ∀ b ∈ KB, ∃ p ∈ FK, p.1 = b) (hbi : w.heap.size ≤ bi)
    {v v' : Value} (hbox : Boxed wr bi 191 v) (hvo : wr.ownsRow w.heap.size 195 4 v n cs) (hown' : w'.ownsRow w.heap.size 195 4 v' n' cs')
    (hk : Grew wr wr') (hko : KeepsOthers wr wr') (hg' : wr'.grownBy w' v.ownBlock) : Boxed w' bi 191 v ∧ RwI w W3 W (w'.setCell ⟨bi, 0, none⟩ v') FK KB bi n' cs' := by
  have hnot : ∀ (b : Nat) (cs : Array Value) (t : TypeId) (fz : Nat × Nat), wr.heap[b]? = some (.cells cs t fz) → t ≠ 195 → v.ownBlock ≠ some b := fun b cs t fz hb ht e => by
    obtain ⟨c, fz', hc⟩ := owns_kind hvo b e
    rw [hb] at hc
    simp at hc
    exact ht hc.2.1
  have hkeep : ∀ (b : Nat) (cs : Array Value) (t : TypeId) (fz : Nat × Nat), wr.heap[b]? = some (.cells cs t fz) → t ≠ 195 → w'.heap[b]? = some (.cells cs t fz) := fun b cs t fz hb ht =>
    (hg'.block b (blk_lt (hk.blk hb)) (Ne.symm (hnot b cs t fz hb ht))).trans (hk.blk hb)
  have hb1 : Boxed w' bi 191 v := hkeep bi _ _ _ hbox (by decide)
  have hB1 : RowKit.Below w.heap.size w w' := (h.below.trans (hk.below.mono h.below.size)).grown hg' (Nat.le_trans h.below.size hk.size) (fun k e => (hvo.lt k e).1)
  have hfk : ∀ p ∈ FK, (w'.setCell ⟨bi, 0, none⟩ v').heap[p.1]? = some p.2 := fun p hp => by
    obtain ⟨hne, cs, t, fz, hc, ht⟩ := hFK p hp
    refine blk_set_other ?_ hne v'
    rw [hc]
    exact hkeep p.1 cs t fz (by rw [h.fk p hp, hc]) ht
  refine ⟨hb1, hfk, ⟨v', blk_set hb1 0 v', ?_⟩, hB1.setCell (p := ⟨bi, 0, none⟩) hbi v', ?_, ?_, ?_⟩
  · exact ownsRow_setCell_other hown' (fun e => by
      obtain ⟨c, fz', hc⟩ := owns_kind hown' bi e
      rw [hb1] at hc; simp at hc) v'
  · refine ⟨h.keep.1.trans ⟨?_, ?_, ?_, ?_, ?_⟩, fun p u hp hu => ?_⟩
    · exact hg'.os.trans hk.below.os
    · exact hg'.tape.trans hk.below.tape
    · exact hg'.output.trans hk.below.output
    · exact Nat.le_trans hk.size (by simpa [World.setCell] using hg'.size)
    · intro k hkw
      have hkr : k < wr.heap.size := Nat.lt_of_lt_of_le hkw h.below.size
      rw [Below.heap_setCell _ _ _ _ (by simp; omega), hg'.block k (Nat.lt_of_lt_of_le hkr hk.size) (fun e => by have := (hvo.lt k e.symm).1; omega)]
      exact hk.block hkr
    · obtain ⟨q, hq, hqb⟩ := hKB _ hp
      have h1 := h.keep.2 p u hp hu
      have h2 := h.fk q hq
      have h3 := hfk q hq
      rw [hqb] at h2 h3
      rw [← h1]
      exact World.cell?_of_block (w := wr) (h3.trans h2.symm)
  · refine h.frm.trans ((hko.from _).trans (((KeepsOthers.of_grownBy hg' (fun j o ej hj => ?_)).trans (KeepsOthers.setCell _ _ _)).from _))
    obtain ⟨c, fz', hc⟩ := owns_kind hvo j ej
    have := hk.blk hc
    rw [this] at hj; cases hj; rfl
  · exact Nat.le_trans h.size (Nat.le_trans hk.size (by simpa [World.setCell] using hg'.size))

set_option maxRecDepth 100000 in
set_option maxHeartbeats 2000000 in
theorem histAdd_any (H ho g cap m : Nat) (ad : Option Addr) (nw : Nat → Int) (gr ln cp : Nat → Nat) (rl : Nat → List Rw) (hc : Array Value) (ht : TypeId) (bcs : List Value) (e0 d0 a0 : Int) (w : World)
    (hm : m < 60) (hB : BlocksAt w H ho g cap m ad nw gr ln cp) (hH : w.heap[H]? = some (.cells hc ht (0, 0))) (hht : ht ≠ 193 ∧ ht ≠ 195)
    (hbo : w.ownsRow 0 193 2 (.slice ad m cap) m bcs) (hro : ∀ i, i < m → w.ownsRow 0 195 4 (.slice (some ⟨gr i, 0, none⟩) (ln i) (cp i)) (ln i) (cells4 (rl i))) (hrn : ∀ i, i < m → (rl i).length = ln i ∧ ln i ≤ 64)
    (hrb : ∀ i, i < m → ∀ x ∈ rl i, -100000000000000 ≤ x.2.2.1 ∧ x.2.2.1 ≤ 100000000000000) (hab : -100000000000000 ≤ a0 ∧ a0 ≤ 100000000000000)
    (hrt : (rowsAll rl (chain (m + 1 - low (m + 1)) m)).length ≤ 900) :
    Calls Tryz.prog 107 #[.pointer (some ⟨H, ho, none⟩), .agg #[.int .i64 e0, .int .i64 d0, .int .i64 a0]] w fun r w' => r = .returned (.tuple #[]) ∧ ∃ g' cap' gn cn l',
      l'.Perm (rowsAll rl (chain (m + 1 - low (m + 1)) m) ++ [(e0, d0, a0, 0)]) ∧ SortedBy (ltOf cfR) l' ∧
      w'.heap[H]? = some (.cells (hc.setIfInBounds ho (.slice (some ⟨g', 0, none⟩) (m + 1) cap')) ht (0, 0)) ∧
      w'.ownsRow 0 193 2 (.slice (some ⟨g', 0, none⟩) (m + 1) cap') (m + 1) (bcs ++ [.int .i64 e0, .slice (some ⟨gn, 0, none⟩) l'.length cn]) ∧
      w'.ownsRow w.heap.size 195 4 (.slice (some ⟨gn, 0, none⟩) l'.length cn) l'.length (cells4 (addUpF 0 l')) ∧
      Turn (fun k => k = H ∨ (Value.slice ad m cap).ownBlock = some k) w w' ∧ ((Value.slice ad m cap).ownBlock = some g' ∨ w.heap.size ≤ g') := by
  obtain ⟨i0, hi, hz0, hz1, hz2⟩ := info_parts Tryz.infoRow
  have hlow := low_le (m + 1) (by omega) (by omega)
  have hlp := low_pos (m + 1)
  have cH := hB.cH
  refine (callsIn_wide (n := 12)).1 ?_
  refine callsIn_of_wp_marks Tryz.func107 rfl trivial ?_ rfl
  simp only [Tryz.ntmps107, List.size_toArray, List.length_cons, List.length_nil, Nat.reduceAdd, Nat.reduceSub, Array.replicate_succ, Array.replicate_zero, List.push_toArray, List.append_toArray, List.nil_append, List.cons_append]
  have hk1 : Grew w (w.alloc (.cells #[.int .i64 e0, .int .i64 d0, .int .i64 a0] 106)) := (Grew.refl _).alloc _
  have cH' := hk1.cell' cH
  have CR : Hid (∀ W, Calls Tryz.prog 138 #[.int .i64 ((m : Int) + 1)] W fun r w' => r = .returned (.int .i64 (low (m + 1) : Nat)) ∧ w' = W) := fun W => by
    have := reach_any (m + 1) W (by omega) (by omega)
    rwa [show ((m + 1 : Nat) : Int) = (m : Int) + 1 by omega] at this
  have hlo1 : ((low (m + 1) : Nat) : Int) ≤ (m : Int) + 1 := by omega
  gi_wp2
  refine ⟨trivial, (callsIn_wide.2 (CR.out _)).mono ?_⟩
  rintro e1 w1 ⟨rfl, hw1⟩
  rw [hw1]
  clear hw1 w1
  generalize hlw : low (m + 1) = lw at *
  gi_wp2_with (gi_at_make; refine wpListIn_make_own _ rfl _ _ 191 rfl w.heap.size 195 i0 _ 4 Tryz.underlying191 hi hz0 hz1 _ _ _ lw rfl rfl (by rfl) (by rw [hz2]; omega) (by unfold maxLen; omega) (by simp) ?_; intro w2 hown2 hg2)
  refine ⟨trivial, (callsIn_wide.2 (CR.out _)).mono ?_⟩
  rintro e3 w3 ⟨rfl, hw3⟩
  rw [hw3]
  clear hw3 w3
  gi_wp2
  refine ⟨trivial, (callsIn_wide.2 (span_any H ho _ _ _)).mono ?_⟩
  rintro e4 w4 ⟨rfl, rfl⟩
  gi_wp2
  have hHl : H < w.heap.size := blk_lt hH
  have hg : 0 < m → g < w.heap.size := fun h => World.block_lt_of_cell? _ _ (hB.cn 0 h)
  have hsz2 : w.heap.size + 2 ≤ w2.heap.size := by
    have h1 := (hown2.lt _ rfl).2
    simp only [World.size_alloc] at h1
    omega
  simp only [World.size_alloc] at hown2
  have hG2 : Below w.heap.size w w2 := hk1.below.grown hg2 hk1.size (fun k e => by cases e)
  obtain ⟨lo, hlo⟩ : ∃ lo, lo + lw = m + 1 := ⟨m + 1 - lw, by omega⟩
  have hloI : ((m : Int) + 1 - (lw : Int)) = (lo : Int) := by omega
  have hlo' : m + 1 - lw = lo := by omega
  rw [hloI]
  obtain ⟨W3, hW3⟩ : ∃ W3, (((w2.alloc (Obj.cells #[Value.slice (some ⟨w.heap.size + 1, 0, none⟩) 0 lw] 191)).alloc (Obj.cells #[Value.pointer (some { block := H, off := ho })] 186)).alloc (Obj.cells #[Value.int IntKind.i64 (lo : Int)] 3)).alloc (Obj.cells #[Value.int IntKind.i64 (m : Int)] 3) = W3 := ⟨_, rfl⟩
  have hG3 : Grew w2 W3 := by rw [← hW3]; exact ((((Grew.refl _).alloc _).alloc _).alloc _).alloc _
  have hs3 : W3.heap.size = w2.heap.size + 4 := by rw [← hW3]; simp
  have hG : Below w.heap.size w W3 := hG2.trans (hG3.below.mono hG2.size)
  have cT : W3.heap[w.heap.size]? = some (.cells #[.int .i64 e0, .int .i64 d0, .int .i64 a0] 106 (0, 0)) := hG3.blk ((hg2.block _ (by simp) (by simp)).trans (heap_alloc_new w _))
  have cR : W3.heap[w2.heap.size]? = some (.cells #[.slice (some ⟨w.heap.size + 1, 0, none⟩) 0 lw] 191 (0, 0)) := by rw [← hW3]; exact Grew.blk ((((Grew.refl _).alloc _).alloc _).alloc _) (heap_alloc_new w2 _)
  have cBp : W3.heap[w2.heap.size + 1]? = some (.cells #[.pointer (some ⟨H, ho, none⟩)] 186 (0, 0)) := by
    rw [← hW3]; refine Grew.blk (((Grew.refl _).alloc _).alloc _) ?_
    have := heap_alloc_new (w2.alloc (.cells #[.slice (some ⟨w.heap.size + 1, 0, none⟩) 0 lw] 191)) (.cells #[.pointer (some ⟨H, ho, none⟩)] 186); rwa [World.size_alloc] at this
  have cBl : W3.heap[w2.heap.size + 2]? = some (.cells #[.int .i64 lo] 3 (0, 0)) := by
    rw [← hW3]; refine Grew.blk ((Grew.refl _).alloc _) ?_
    have := heap_alloc_new ((w2.alloc (.cells #[.slice (some ⟨w.heap.size + 1, 0, none⟩) 0 lw] 191)).alloc (.cells #[.pointer (some ⟨H, ho, none⟩)] 186)) (.cells #[.int .i64 lo] 3); rwa [World.size_alloc, World.size_alloc] at this
  have cBh : W3.heap[w2.heap.size + 3]? = some (.cells #[.int .i64 m] 3 (0, 0)) := by
    rw [← hW3]
    have := heap_alloc_new (((w2.alloc (.cells #[.slice (some ⟨w.heap.size + 1, 0, none⟩) 0 lw] 191)).alloc (.cells #[.pointer (some ⟨H, ho, none⟩)] 186)).alloc (.cells #[.int .i64 lo] 3)) (.cells #[.int .i64 m] 3); rwa [World.size_alloc, World.size_alloc, World.size_alloc] at this
  have hown3 : W3.ownsRow w.heap.size 195 4 (.slice (some ⟨w.heap.size + 1, 0, none⟩) 0 lw) 0 [] := owns_mv hown2 hG3.below
  have hB3 := hB.mv hG
  rw [hW3]
  clear hW3 CR hown2 hg2 cH' hk1
  refine wpIn_rangeFunc_ownH rfl (by omega) (gf := 147) (lb := #[.pointer (some ⟨w2.heap.size + 3, 0, none⟩), .pointer (some ⟨w2.heap.size + 2, 0, none⟩), .pointer (some ⟨w2.heap.size + 1, 0, none⟩)]) rfl trivial (enters_of Tryz.func147 (by kernel_rfl) rfl)
    (span_stops 11 (by omega) (w2.heap.size + 3) (w2.heap.size + 2) (w2.heap.size + 1) w.heap.size H ho g cap m m lo ad nw gr ln cp W3 (by omega) (Nat.le_refl _) hg hHl (blk_cell' cBh rfl) (blk_cell' cBl rfl) (blk_cell' cBp rfl) hB3)
    KeepB.trans (KeepB.put (by have := hG.size; omega)) (Below.refl _ _) (fun _ => rfl)
    (fun pre W => (((W.heap[w.heap.size]? = some (.cells #[.int .i64 e0, .int .i64 d0, .int .i64 a0] 106 (0, 0)) ∧ W.heap[w2.heap.size + 1]? = some (.cells #[.pointer (some ⟨H, ho, none⟩)] 186 (0, 0)) ∧ W.heap[w2.heap.size + 2]? = some (.cells #[.int .i64 lo] 3 (0, 0))) ∧
      (∃ v, Boxed W w2.heap.size 191 v ∧ W.ownsRow w.heap.size 195 4 v (rowsAll rl (pre.map (·.1))).length (cells4 (rowsAll rl (pre.map (·.1)))) ∧ True)) ∧ Below w.heap.size w W) ∧ W3.heap.size ≤ W.heap.size)
    (fun _ _ _ => False)
    (OwnFrom.and (OwnFrom.and (OwnFrom.and (Own.from (fun s A B row hs hg hr => ⟨blk_kept hs.1 hg hr, blk_kept hs.2.1 hg hr, blk_kept hs.2.2 hg hr⟩) _) (Own.from (holdsRow_own w.heap.size w2.heap.size 191 195 4 (fun pre : List { k : Nat // k < m } => (rowsAll rl (pre.map (·.1))).length) (fun pre : List { k : Nat // k < m } => cells4 (rowsAll rl (pre.map (·.1)))) (fun _ _ => True)) _)) (ownFrom_below (Nat.le_refl _) hG.size)) (fun _ _ _ _ hs hg _ => Nat.le_trans hs hg.size))
    (fun _ _ _ _ _ hs _ _ => hs)
    ⟨⟨⟨⟨cT, cBp, cBl⟩, ⟨_, cR, hown3, trivial⟩⟩, hG⟩, Nat.le_refl _⟩
    (fun x a' W => ∃ Bx, W3.heap.size ≤ Bx ∧ W.heap[Bx]? = some (.cells #[.int .i64 (nw x.1), .slice (some ⟨gr x.1, 0, none⟩) (ln x.1) (cp x.1)] 193 (0, 0)) ∧
      a' = { tmps := #[.pointer (some ⟨H, ho, none⟩), .agg #[.int .i64 e0, .int .i64 d0, .int .i64 a0], undef, .pointer (some ⟨w.heap.size, 0, none⟩), .int .i64 ((m : Int) + 1), .pointer (some ⟨w2.heap.size, 0, none⟩), .pointer (some ⟨Bx, 0, none⟩),
        .pointer (some ⟨H, ho, none⟩), .pointer (some ⟨H, ho, none⟩), .pointer (some ⟨H, ho, none⟩), .slice ad m cap, .int .i64 m, .int .i64 ((m : Int) + 1), .int .i64 ((m : Int) + 1), .int .i64 lw, .slice (some ⟨w.heap.size + 1, 0, none⟩) 0 lw,
        .pointer (some ⟨H, ho, none⟩), .int .i64 ((m : Int) + 1), .int .i64 ((m : Int) + 1), .int .i64 lw, .int .i64 lo, .int .i64 ((m : Int) + 1), .int .i64 m,
        .func (.func 147) #[] #[.pointer (some ⟨w2.heap.size + 3, 0, none⟩), .pointer (some ⟨w2.heap.size + 2, 0, none⟩), .pointer (some ⟨w2.heap.size + 1, 0, none⟩)],
        .agg #[.int .i64 (nw x.1), .slice (some ⟨gr x.1, 0, none⟩) (ln x.1) (cp x.1)], undef, undef, undef, undef, undef, undef, undef, undef, undef, undef, undef, undef, undef, undef, undef, undef, undef, undef, undef, undef, undef, undef, undef, undef, undef, undef], defers := [] })
    (fun x a' => Own.from (fun _ A B row hs hg hr => by obtain ⟨Bx, h1, h2, h3⟩ := hs; exact ⟨Bx, h1, blk_kept h2 hg hr, h3⟩) _)
    ?assign ?body ?done ?stop
  case assign =>
    rintro l pre x W K ⟨⟨⟨⟨iD, iP, iL⟩, ⟨v, hv, hvo, _⟩⟩, iB⟩, iS⟩ hK
    dsimp only [encB]
    gi_wp2
    have hk : Grew W (W.alloc (.cells #[.int .i64 (nw x.1), .slice (some ⟨gr x.1, 0, none⟩) (ln x.1) (cp x.1)] 193)) := (Grew.refl _).alloc _
    exact hK _ _ ((KeepsOthers.alloc _ _).from _) (KeepB.of_grew iB.size hk) ⟨⟨⟨⟨hk.blk iD, hk.blk iP, hk.blk iL⟩, ⟨v, hv.alloc _, hvo.alloc _, trivial⟩⟩, iB.trans (hk.below.mono iB.size)⟩, Nat.le_trans iS hk.size⟩ ⟨W.heap.size, iS, heap_alloc_new W _, rfl⟩
  case body =>
    rintro l pre x a' W hl hr ⟨⟨⟨⟨iD, iP, iL⟩, ⟨v, hv, hvo, _⟩⟩, iB⟩, iS⟩ ⟨Bx, hBx, cX, rfl⟩ hlt
    have cX1 := blk_cell' cX (o := 1) rfl
    have cb0 := blk_cell' hv (o := 0) rfl
    have hxm := x.2
    have hll := rowsAll_len rl m (fun i hi => by have := hrn i hi; omega) pre
    have hst : rowsAll rl ((pre ++ [x]).map (·.1)) = rowsAll rl (pre.map (·.1)) ++ rl x.1 := by rw [List.map_append]; exact rowsAll_snoc _ _ _
    have hx := hrn _ x.2
    have hrow := hro _ x.2
    have hI : RwI w W3 W W [(w.heap.size, .cells #[.int .i64 e0, .int .i64 d0, .int .i64 a0] 106 (0, 0)), (w2.heap.size + 1, .cells #[.pointer (some ⟨H, ho, none⟩)] 186 (0, 0)), (w2.heap.size + 2, .cells #[.int .i64 lo] 3 (0, 0))] [w2.heap.size + 2, w2.heap.size + 1] w2.heap.size (rowsAll rl (pre.map (·.1))).length (cells4 (rowsAll rl (pre.map (·.1)))) :=
      ⟨fun p hp => by
        simp only [List.mem_cons, List.not_mem_nil, or_false] at hp
        rcases hp with rfl | rfl | rfl <;> assumption, ⟨v, hv, hvo⟩, iB, KeepB.refl _, KeepsFrom.refl _ _, iS⟩
    have hFK : ∀ p ∈ [(w.heap.size, Obj.cells #[.int .i64 e0, .int .i64 d0, .int .i64 a0] 106 (0, 0)), (w2.heap.size + 1, .cells #[.pointer (some ⟨H, ho, none⟩)] 186 (0, 0)), (w2.heap.size + 2, .cells #[.int .i64 lo] 3 (0, 0))], p.1 ≠ w2.heap.size ∧ ∃ cs t fz, p.2 = Obj.cells cs t fz ∧ t ≠ 195 := fun p hp => by
      simp only [List.mem_cons, List.not_mem_nil, or_false] at hp
      rcases hp with rfl | rfl | rfl <;> exact ⟨by simp; try omega, _, _, _, rfl, by decide⟩
    have hKB : ∀ b ∈ [w2.heap.size + 2, w2.heap.size + 1], ∃ p ∈ [(w.heap.size, Obj.cells #[.int .i64 e0, .int .i64 d0, .int .i64 a0] 106 (0, 0)), (w2.heap.size + 1, .cells #[.pointer (some ⟨H, ho, none⟩)] 186 (0, 0)), (w2.heap.size + 2, .cells #[.int .i64 lo] 3 (0, 0))], p.1 = b := fun b hb => by
      simp only [List.mem_cons, List.not_mem_nil, or_false] at hb
      rcases hb with rfl | rfl
      · exact ⟨_, List.mem_cons_of_mem _ (List.mem_cons_of_mem _ List.mem_cons_self), rfl⟩
      · exact ⟨_, List.mem_cons_of_mem _ List.mem_cons_self, rfl⟩
    have hrowW := owns_mv hrow iB
    have hll2 : (rowsAll rl (pre.map (·.1))).length + ln x.1 ≤ 4096 := by omega
    generalize rowsAll rl (pre.map (·.1)) = L at *
    obtain ⟨v', w', hrun, hown', hg', _⟩ := run_append_own (P := Tryz.prog) W w.heap.size 191 191 195 i0 _ 4 32 Tryz.underlying191 hi hz0 hz1 hz2 rfl (by decide) v L.length (cells4 L) hvo ⟨gr x.1, 0, none⟩ (ln x.1) (cp x.1) (cells4 (rl x.1)) (by rw [cells4_len, hx.1])
      (news_owned hrowW) (cells4_one _) (by unfold maxLen; omega) (by omega) iB.size
    obtain ⟨hb1, hI2⟩ := hI.step hFK hKB (by omega) hv hvo hown' (Grew.refl _) (KeepsOthers.refl _) hg'
    obtain ⟨ad', n', c', rfl⟩ : ∃ ad' n' c', v' = .slice ad' n' c' := by
      rcases hown'.2 with ⟨h, _⟩ | ⟨_, _, _, h, _⟩ <;> exact ⟨_, _, _, h⟩
    have cb1 := blk_cell' hb1 (o := 0) rfl
    have fb1 := blk_free hb1 0
    have hfin : ∀ p ∈ [(w.heap.size, Obj.cells #[.int .i64 e0, .int .i64 d0, .int .i64 a0] 106 (0, 0)), (w2.heap.size + 1, .cells #[.pointer (some ⟨H, ho, none⟩)] 186 (0, 0)), (w2.heap.size + 2, .cells #[.int .i64 lo] 3 (0, 0))], (w'.setCell ⟨w2.heap.size, 0, none⟩ (.slice ad' n' c')).heap[p.1]? = some p.2 := hI2.fk
    have e1 : (L ++ rl x.1).length = L.length + ln x.1 := by rw [List.length_append, hx.1]
    have HI2 : Hid _ := hI2
    have HF : Hid _ := hfin
    have HS : Hid _ := hst
    clear hI2 hfin hst hown' hg' hvo hI hFK hKB hro hrow hrowW hrb hrn hown3 hB3 hbo
    gi_wp2
    refine appendIn_run v (.slice (some ⟨gr x.1, 0, none⟩) (ln x.1) (cp x.1)) _ _ rfl rfl hrun ?_
    gi_wp2
    show KeepsFrom _ _ _ ∧ KeepB _ _ _ _ ∧ _
    dsimp only
    rw [HS.out]
    obtain ⟨vb, hbox, hvo⟩ := HI2.out.box
    refine ⟨HI2.out.frm, HI2.out.keep, ⟨⟨⟨HF.out _ List.mem_cons_self, HF.out _ (List.mem_cons_of_mem _ List.mem_cons_self), HF.out _ (List.mem_cons_of_mem _ (List.mem_cons_of_mem _ List.mem_cons_self))⟩, ⟨vb, hbox, ?_⟩⟩, HI2.out.below⟩, HI2.out.size⟩
    rw [e1, cells4_append]
    exact ⟨hvo, trivial⟩
  case done =>
    rintro D ys W hD hys ⟨⟨⟨⟨iD, iP, iL⟩, ⟨v, hv, hvo, _⟩⟩, iB⟩, iS⟩ hK
    rw [hys] at hvo
    rw [hlo'] at hrt
    have hbd : ∀ x ∈ rowsAll rl (chain lo m) ++ [(e0, d0, a0, 0)], -100000000000000 ≤ x.2.2.1 ∧ x.2.2.1 ≤ 100000000000000 := by
      intro x hx
      rcases List.mem_append.1 hx with h | h
      · rw [← hys] at h
        simp only [rowsAll, List.mem_flatMap, List.mem_map] at h
        obtain ⟨i, ⟨j, _, rfl⟩, hi⟩ := h
        exact hrb _ j.2 x hi
      · simp at h
        subst h
        exact hab
    have HBD : Hid _ := hbd
    clear hbd hro hrn hrb hB3 cT cR cBp cBl cBh hown3
    generalize hLd : rowsAll rl (chain lo m) = L at *
    have HLd : Hid _ := hLd
    clear hLd
    have cb := hv.cell
    have cT0 := blk_cell' iD (o := 0) rfl
    have cT1 := blk_cell' iD (o := 1) rfl
    have cT2 := blk_cell' iD (o := 2) rfl
    have hI : RwI w W W W [(w.heap.size, .cells #[.int .i64 e0, .int .i64 d0, .int .i64 a0] 106 (0, 0))] [] w2.heap.size L.length (cells4 L) :=
      ⟨fun p hp => by
        simp only [List.mem_cons, List.not_mem_nil, or_false] at hp
        rcases hp with rfl; assumption, ⟨v, hv, hvo⟩, iB, KeepB.refl _, KeepsFrom.refl _ _, Nat.le_refl _⟩
    have hk4 : Grew W (W.alloc (.cells #[.int .i64 e0, .int .i64 d0, .int .i64 a0, .int .i64 0] 195)) := (Grew.refl _).alloc _
    obtain ⟨v1, w5, hrun, hown5, hg5, _⟩ := run_append_own (P := Tryz.prog) (W.alloc (.cells #[.int .i64 e0, .int .i64 d0, .int .i64 a0, .int .i64 0] 195)) w.heap.size 191 191 195 i0 _ 4 32 Tryz.underlying191 hi hz0 hz1 hz2 rfl (by decide) v L.length (cells4 L) (hvo.alloc _) ⟨W.heap.size, 0, none⟩ 1 1 [.int .i64 e0, .int .i64 d0, .int .i64 a0, .int .i64 0] rfl
      (World.news_of_block (cs := #[.int .i64 e0, .int .i64 d0, .int .i64 a0, .int .i64 0]) (heap_alloc_new W _)) one4 (by unfold maxLen; omega) (by omega) (Nat.le_trans iB.size hk4.size)
    obtain ⟨hb1, hI2⟩ := hI.step (fun p hp => by
      simp only [List.mem_cons, List.not_mem_nil, or_false] at hp
      rcases hp with rfl; exact ⟨by simp; omega, _, _, _, rfl, by decide⟩) (fun b hb => by cases hb) (by omega) hv hvo hown5 hk4 (KeepsOthers.alloc _ _) hg5
    obtain ⟨g5, c5, rfl, _⟩ := hown5.form (by omega)
    have hKW : v.ownBlock ≠ some D := fun e => by
      obtain ⟨c, fz', hc⟩ := owns_kind hvo D e
      rw [hK] at hc; cases hc
    have hK5 : (w5.setCell ⟨w2.heap.size, 0, none⟩ (.slice (some ⟨g5, 0, none⟩) (L.length + 1) c5)).heap[D]? = some (.deferred (some [])) :=
      blk_set_other ((hg5.block D (Nat.lt_of_lt_of_le (blk_lt hK) hk4.size) (Ne.symm hKW)).trans (hk4.blk hK)) (by simp; omega) _
    have cb1 := blk_cell' hb1 (o := 0) rfl
    have fb1 := blk_free hb1 0
    have HI2 : Hid _ := hI2
    have HK5 : Hid _ := hK5
    have HB : Hid (type_of% hbo) := hbo
    have HB1 : Hid _ := hb1
    clear hI2 hK5 hown5 hg5 hvo hI hK hKW hb1 hbo
    gi_wp2
    refine appendIn_run v (.slice (some ⟨W.heap.size, 0, none⟩) 1 1) _ _ rfl rfl hrun ?_
    obtain ⟨w6, hw6⟩ : ∃ w6, w5.setCell ⟨w2.heap.size, 0, none⟩ (.slice (some ⟨g5, 0, none⟩) (L.length + 1) c5) = w6 := ⟨_, rfl⟩
    have hI6 := HI2.out
    have hK6 := HK5.out
    rw [hw6] at hI6 hK6
    have HI6 : Hid _ := hI6
    have HK6 : Hid _ := hK6
    clear HI2 HK5 hI6 hK6
    have HW6 : Hid _ := hw6
    clear hw6
    gi_wp2
    rw [HW6.out]
    obtain ⟨vb, hbox6, hown6⟩ := HI6.out.box
    have hvb : vb = .slice (some ⟨g5, 0, none⟩) (L.length + 1) c5 := by
      have h1 := blk_set HB1.out 0 (.slice (some ⟨g5, 0, none⟩) (L.length + 1) c5)
      rw [HW6.out, show w6.heap[w2.heap.size]? = _ from hbox6] at h1
      simpa using h1
    subst hvb
    obtain ⟨M, hM⟩ : ∃ M, M = L ++ [(e0, d0, a0, (0 : Int))] := ⟨_, rfl⟩
    have hMl : M.length = L.length + 1 := by rw [hM]; simp
    have hownM : w6.ownsRow w.heap.size 195 4 (.slice (some ⟨g5, 0, none⟩) M.length c5) M.length (cells4 M) := by rw [hMl, hM, cells4_append]; simpa [cells4, enc4] using hown6
    have hboxM : Boxed w6 w2.heap.size 191 (.slice (some ⟨g5, 0, none⟩) M.length c5) := by rw [hMl]; exact hbox6
    rw [← hMl]
    clear hown6 hbox6
    have hg5 := (hownM.lt g5 rfl).1
    refine ⟨trivial, (callsIn_wide.2 (sortRows_any w.heap.size g5 c5 M w6 hownM (by omega))).mono ?_⟩
    rintro e7 w7 ⟨rfl, l', hperm, hsort, hown7, hg7⟩
    have hpl := hperm.length_eq
    have hkeep : ∀ {wa wb : World} {B : Nat} {e : TypeId} {n : Nat} {xs : List Value} {b : Nat} {cs : Array Value} {t : TypeId} {fz : Nat × Nat}, wa.ownsRow B e 4 (.slice (some ⟨g5, 0, none⟩) n c5) n xs → wa.grownBy wb (some g5) → wa.heap[b]? = some (.cells cs t fz) → t ≠ e → wb.heap[b]? = some (.cells cs t fz) := by
      intro wa wb B e n xs b cs t fz ho hg hb ht
      refine (hg.block b (blk_lt hb) (fun e' => ?_)).trans hb
      cases e'
      obtain ⟨c, fz', hc⟩ := owns_kind ho g5 rfl
      rw [hb] at hc; simp at hc; exact ht hc.2.1
    have hbox7 : w7.heap[w2.heap.size]? = _ := hkeep hownM hg7 hboxM (by decide)
    have hit7 := hkeep hownM hg7 (HI6.out.fk _ List.mem_cons_self) (by decide)
    have hDg : ∀ {wa : World} {n : Nat} {xs : List Value}, wa.ownsRow w.heap.size 195 4 (.slice (some ⟨g5, 0, none⟩) n c5) n xs → wa.heap[D]? = some (.deferred (some [])) → some D ≠ some g5 := by
      intro wa n xs ho hd e'
      cases e'
      obtain ⟨c, fz', hc⟩ := owns_kind ho D rfl
      rw [hd] at hc; cases hc
    have hK7 := (hg7.block D (blk_lt HK6.out) (hDg hownM HK6.out)).trans HK6.out
    have hB7 := HI6.out.below.grown hg7 HI6.out.below.size (fun k hk => by cases hk; exact hg5)
    have hC8 := addUp_any w.heap.size g5 c5 l' w7 (by rw [hpl]; exact hown7) (by omega) (fun x hx => HBD.out x (by rw [← hM]; exact hperm.mem_iff.1 hx))
    rw [hpl] at hC8
    have cb7 := blk_cell' hbox7 (o := 0) rfl
    have HC8 : Hid (type_of% hC8) := hC8
    have HMl : Hid (type_of% hMl) := hMl
    have Hpl : Hid (type_of% hpl) := hpl
    have HM : Hid (type_of% hM) := hM
    have HB7 : Hid _ := hB7
    have HK7 : Hid _ := hK7
    have H7 : Hid _ := hown7
    clear hMl hpl hM hC8 hB7 hK7 hownM hboxM hg7 HI6 HK6 HW6 HB1 hrun cb1 fb1 hown7
    gi_wp2
    refine ⟨trivial, (callsIn_wide.2 HC8.out).mono ?_⟩
    rintro e8 w8 ⟨rfl, hown8, hg8⟩
    have hbox8 : w8.heap[w2.heap.size]? = _ := hkeep H7.out hg8 hbox7 (by decide)
    have hit8 := hkeep H7.out hg8 hit7 (by decide)
    have hK8 := (hg8.block D (blk_lt HK7.out) (hDg H7.out HK7.out)).trans HK7.out
    have hB8 := HB7.out.grown hg8 HB7.out.size (fun k hk => by cases hk; exact hg5)
    have cb8 := blk_cell' hbox8 (o := 0) rfl
    have ci8 := blk_cell' hit8 (o := 0) rfl
    have cH8 := cell_later hB8 cH
    clear hkeep hDg cb7 hbox7 hit7 HC8 HB7 HK7 H7 hg8
    obtain ⟨ib, hib, hbz0, hbz1, hbz2⟩ := info_parts Tryz.infoBlock
    have hk8 : Grew w8 (w8.alloc (.cells #[.int .i64 e0, .slice (some ⟨g5, 0, none⟩) M.length c5] 193)).drew := ((Grew.refl _).alloc _).drew
    have hk8' : Grew w8 (w8.alloc (.cells #[.int .i64 e0, .slice (some ⟨g5, 0, none⟩) M.length c5] 193)) := (Grew.refl _).alloc _
    have hbo8 := owns_mv HB.out hB8
    obtain ⟨v9, w9, hrun, hown9, hg9, _, hat9⟩ := run_append_own_at (P := Tryz.prog) (w8.alloc (.cells #[.int .i64 e0, .slice (some ⟨g5, 0, none⟩) M.length c5] 193)).drew 0 141 141 193 ib _ 2 32 Tryz.underlying141 hib hbz0 hbz1 hbz2 rfl (by decide) (.slice ad m cap) m bcs ((hbo8.alloc _).drew) ⟨w8.heap.size, 0, none⟩ 1 1 [.int .i64 e0, .slice (some ⟨g5, 0, none⟩) M.length c5] rfl
      (World.news_of_block (cs := #[.int .i64 e0, .slice (some ⟨g5, 0, none⟩) M.length c5]) (heap_alloc_new w8 _)) (by simp [Value.oneCell']) (by unfold maxLen; omega) (by omega) (Nat.zero_le _)
    obtain ⟨g9, c9, rfl, _⟩ := hown9.form (by omega)
    have hHb : (Value.slice ad m cap).ownBlock ≠ some H := fun e => by
      obtain ⟨c, fz', hc'⟩ := owns_kind HB.out H e
      rw [hH] at hc'; simp at hc'; exact hht.1 hc'.2.1
    have hHlt : ∀ k, (Value.slice ad m cap).ownBlock = some k → k < w.heap.size := fun k e => (HB.out.lt k e).2
    have hho : hc[ho]? = some (.slice ad m cap) := by rw [← blk_cell hH ho]; exact cH
    have hH8 : w8.heap[H]? = some (.cells hc ht (0, 0)) := (hB8.block H hHl).trans hH
    have hH9 : w9.heap[H]? = some (.cells hc ht (0, 0)) := (hg9.block H (Nat.lt_of_lt_of_le (blk_lt hH8) hk8.size) (Ne.symm hHb)).trans (hk8.blk hH8)
    have cH9 := blk_cell' hH9 hho
    have fH9 := blk_free hH9 ho
    have cb8' := hk8'.cell' cb8
    have ci8' := hk8'.cell' ci8
    have cH8' := hk8'.cell' cH8
    have hDl : w.heap.size < D := by omega
    have hD9 : w9.heap[D]? = some (.deferred (some [])) := (hg9.block D (Nat.lt_of_lt_of_le (blk_lt hK8) hk8.size) (fun e => by have := hHlt D e.symm; omega)).trans (hk8.blk hK8)
    have hD10 : (w9.setCell ⟨H, ho, none⟩ (.slice (some ⟨g9, 0, none⟩) (m + 1) c9)).heap[D]? = some (.deferred (some [])) := blk_set_other hD9 (by simp; omega) _
    have hT10 : Turn (fun k => k = H ∨ (Value.slice ad m cap).ownBlock = some k) w (w9.setCell ⟨H, ho, none⟩ (.slice (some ⟨g9, 0, none⟩) (m + 1) c9)) :=
      (((Turn.of_below hB8).alloc _).drew.of_grown hg9 (fun k e _ => .inr e)).set _ _ (fun _ => .inl rfl)
    have hT8 : Turn (fun k => k = H ∨ (Value.slice ad m cap).ownBlock = some k) w8 (w9.setCell ⟨H, ho, none⟩ (.slice (some ⟨g9, 0, none⟩) (m + 1) c9)) :=
      (((Turn.refl _ _).alloc _).drew.of_grown hg9 (fun k e _ => .inr e)).set _ _ (fun _ => .inl rfl)
    have hrows := owns_turn hown8 hT8 (fun g' e h => by
      have e' : g5 = g' := Option.some.inj e
      rcases h with h | h
      · omega
      · have := hHlt _ h; omega)
    have hblk := ownsRow_setCell_other (a := ⟨H, ho, none⟩) hown9 (fun e => by
      obtain ⟨c, fz', hc'⟩ := owns_kind hown9 H e
      rw [hH9] at hc'; simp at hc'; exact hht.1 hc'.2.1) (.slice (some ⟨g9, 0, none⟩) (m + 1) c9)
    have hHf := blk_set hH9 ho (.slice (some ⟨g9, 0, none⟩) (m + 1) c9)
    have hat : (Value.slice ad m cap).ownBlock = some g9 ∨ w.heap.size ≤ g9 := by
      rcases hat9 with h | h
      · exact .inl h.symm
      · have h2 := hk8.size
        have h3 := hB8.size
        have h4 : g9 = _ := Option.some.inj h
        exact .inr (by omega)
    have hfin : Hid (∃ g' cap' gn cn l', l'.Perm (rowsAll rl (chain (m + 1 - low (m + 1)) m) ++ [(e0, d0, a0, 0)]) ∧ SortedBy (ltOf cfR) l' ∧
        ((w9.setCell ⟨H, ho, none⟩ (.slice (some ⟨g9, 0, none⟩) (m + 1) c9)).putObj D (.deferred none)).heap[H]? = some (.cells (hc.setIfInBounds ho (.slice (some ⟨g', 0, none⟩) (m + 1) cap')) ht (0, 0)) ∧
        ((w9.setCell ⟨H, ho, none⟩ (.slice (some ⟨g9, 0, none⟩) (m + 1) c9)).putObj D (.deferred none)).ownsRow 0 193 2 (.slice (some ⟨g', 0, none⟩) (m + 1) cap') (m + 1) (bcs ++ [.int .i64 e0, .slice (some ⟨gn, 0, none⟩) l'.length cn]) ∧
        ((w9.setCell ⟨H, ho, none⟩ (.slice (some ⟨g9, 0, none⟩) (m + 1) c9)).putObj D (.deferred none)).ownsRow w.heap.size 195 4 (.slice (some ⟨gn, 0, none⟩) l'.length cn) l'.length (cells4 (addUpF 0 l')) ∧
        Turn (fun k => k = H ∨ (Value.slice ad m cap).ownBlock = some k) w ((w9.setCell ⟨H, ho, none⟩ (.slice (some ⟨g9, 0, none⟩) (m + 1) c9)).putObj D (.deferred none)) ∧ ((Value.slice ad m cap).ownBlock = some g' ∨ w.heap.size ≤ g')) := by
      refine ⟨g9, c9, g5, c5, l', ?_, hsort, ?_, ?_, ?_, ?_, hat⟩
      · rw [hlw, hlo', HLd.out, ← HM.out]; exact hperm
      · exact (World.putObj_heap_other (by omega)).trans hHf
      · rw [Hpl.out]; exact ownsRow_putObj hblk _ hD10 rfl
      · rw [Hpl.out]; exact ownsRow_putObj hrows _ hD10 rfl
      · exact hT10.of_grown (grownBy_putObj' _ _ _) (fun k e hk => by cases e; omega)
    have HD10 : Hid (type_of% hD10) := hD10
    have mixed : Tryz.prog.follows .mixedOrders = true := by kernel_rfl
    clear hD10 hD9 hT10 hT8 hrows hblk hHf hat hown9 hg9 hat9 hH9 hK8 hown8 hB8 hH8 hbox8 hit8 hbo8 cT0 cT1 cT2 cb iD iP iL hv cH hH
    gi_wp2
    refine wp_hide ?_
    intro QQ hQQ
    gi_region_with_o (refine appendIn_run (.slice ad m cap) (.slice (some ⟨w8.heap.size, 0, none⟩) 1 1) _ _ rfl rfl hrun ?_)
    all_goals gi_wp2
    all_goals rw [hQQ.out]
    all_goals refine ⟨by simp, .inl ⟨_, _, rfl, run_takeDeferred HD10.out, ?_⟩⟩
    all_goals exact ⟨_, results_none rfl _ _ _, rfl, hfin.out⟩
  case stop =>
    rintro D c pre W _ _ h _
    exact h.elim
end Go.Proofs.YtjnmoddcodnadaaGreatDoor
