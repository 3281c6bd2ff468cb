import Derived.Test.YtjnmoddcodnadaaGreatDoorG07
set_option linter.unusedVariables false
set_option linter.unusedSimpArgs false
namespace Go.Annal
/-- The items of a block from one day to another. -/
def itmBlk (ln : Nat → Nat) (e d a : Nat → Nat → Int) (from' to' : Int) (i : Nat) : List It :=
  (List.range' (Go.Proofs.YtjnmoddcodnadaaGreatDoor.upTo (d i) (ln i) from') (Go.Proofs.YtjnmoddcodnadaaGreatDoor.upTo (d i) (ln i) (to' + 1) - Go.Proofs.YtjnmoddcodnadaaGreatDoor.upTo (d i) (ln i) from')).map (fun j => (e i j, d i j, a i j))
def itmAll (ln : Nat → Nat) (e d a : Nat → Nat → Int) (from' to' : Int) (xs : List Nat) : List It := xs.flatMap (itmBlk ln e d a from' to')
end Go.Annal
namespace Go.Proofs.YtjnmoddcodnadaaGreatDoor
open Go.RowKit Go.Annal Go.Sort Go.Shelf
attribute [local go_sem] Oper.semAt_some
attribute [local go_sem ↓] Go.Annal.appendIn_pre Go.Annal.wpIn_at_zero Go.Annal.wpIn_at_succ
theorem itmAll_snoc (ln : Nat → Nat) (e d a : Nat → Nat → Int) (from' to' : Int) (xs : List Nat) (x : Nat) : itmAll ln e d a from' to' (xs ++ [x]) = itmAll ln e d a from' to' xs ++ itmBlk ln e d a from' to' x := by simp [itmAll]
theorem itmBlk_len (ln : Nat → Nat) (e d a : Nat → Nat → Int) (from' to' : Int) (i : Nat) : (itmBlk ln e d a from' to' i).length ≤ ln i := by
  have := upTo_le (d i) (ln i) (to' + 1)
  simp [itmBlk]; omega
theorem itmAll_len (ln : Nat → Nat) (e d a : Nat → Nat → Int) (from' to' : Int) (m : Nat) (h : ∀ i, i < m → ln i ≤ 1000) (pre : List { k : Nat // k < m }) : (itmAll ln e d a from' to' (pre.map (·.1))).length ≤ pre.length * 1000 := by
  induction pre with
  | nil => simp [itmAll]
  | cons x r ih =>
    have h1 := itmBlk_len ln e d a from' to' x.1
    have h2 := h x.1 x.2
    simp only [itmAll, List.map_cons, List.flatMap_cons, List.length_append, List.length_cons] at *
    omega

theorem chainF_len (lo : Nat) : ∀ f k, (chainF low lo f k).length ≤ f
  | 0, _ => by simp [chainF]
  | f + 1, k => by
    have := chainF_len lo f (k - low k)
    simp only [chainF]
    split
    · simp; omega
    · simp
theorem chain_len (lo k : Nat) : (chain lo k).length ≤ k := chainF_len lo k k

/-- What a loop that gathers items keeps: named blocks; the box of what is gathered; all that was there; what the iterator leans on. -/
structure ItI (w W3 W wr : World) (FK : List (Nat × Obj)) (KB : List Nat) (bi : Nat) (M : List It) : Prop where
  fk : ∀ p ∈ FK, wr.heap[p.1]? = some p.2
  box : ∃ v, Boxed wr bi 104 v ∧ wr.ownsRow w.heap.size 106 3 v M.length (cells3 M)
  below : RowKit.Below w.heap.size w wr
  keep : KeepB w.heap.size KB W wr
  frm : KeepsFrom W3.heap.size W wr
  size : W3.heap.size ≤ wr.heap.size
theorem ItI.grew {w W3 W wr wr' : World} {FK : List (Nat × Obj)} {KB : List Nat} {bi : Nat} {M : List It} (h : ItI w W3 W wr FK KB bi M) (hg : Grew wr wr') : ItI w W3 W wr' FK KB bi M := by
  obtain ⟨v, h1, h2⟩ := h.box
  exact ⟨fun p hp => hg.blk (h.fk p hp), ⟨v, hg.blk h1, owns_mv h2 hg.below⟩, h.below.trans (hg.below.mono h.below.size), h.keep.trans (KeepB.of_grew h.below.size hg), h.frm.trans ⟨hg.size, fun k o _ hk _ => hg.blk hk⟩, Nat.le_trans h.size hg.size⟩
theorem ItI.step {w W3 W wr w' : World} {FK : List (Nat × Obj)} {KB : List Nat} {bi : Nat} {M : List It} (h : ItI w W3 W wr FK KB bi M) (hFK : ∀ p ∈ FK, p.1 ≠ bi ∧ ∃ cs t fz, p.2 = .cells cs t fz ∧ t ≠ 106) (hKB : ∀ b ∈ KB, ∃ p ∈ FK, p.1 = b) (hbi : w.heap.size ≤ bi)
    {v v' : Value} (hbox : Boxed wr bi 104 v) (hvo : wr.ownsRow w.heap.size 106 3 v M.length (cells3 M)) (x : It) (hown' : w'.ownsRow w.heap.size 106 3 v' (M.length + 1) (cells3 M ++ enc3 x))
    (hg' : (wr.alloc (.cells (enc3 x).toArray 106)).drew.grownBy w' v.ownBlock) : Boxed w' bi 104 v ∧ ItI w W3 W (w'.setCell ⟨bi, 0, none⟩ v') FK KB bi (M ++ [x]) := by
  have hk : Grew wr (wr.alloc (.cells (enc3 x).toArray 106)).drew := ((Grew.refl _).alloc _).drew
  have hnot : ∀ (b : Nat) (cs : Array Value) (t : TypeId) (fz : Nat × Nat), wr.heap[b]? = some (.cells cs t fz) → t ≠ 106 → v.ownBlock ≠ some b := fun b cs t fz hb ht e => by
    obtain ⟨c, fz', hc⟩ := owns_kind hvo b e
    rw [hb] at hc
    simp at hc
    exact ht hc.2.1
  have hkeep : ∀ (b : Nat) (cs : Array Value) (t : TypeId) (fz : Nat × Nat), wr.heap[b]? = some (.cells cs t fz) → t ≠ 106 → w'.heap[b]? = some (.cells cs t fz) := fun b cs t fz hb ht =>
    (hg'.block b (blk_lt (hk.blk hb)) (Ne.symm (hnot b cs t fz hb ht))).trans (hk.blk hb)
  have hb1 : Boxed w' bi 104 v := hkeep bi _ _ _ hbox (by decide)
  have hB1 : RowKit.Below w.heap.size w w' := (h.below.trans (hk.below.mono h.below.size)).grown hg' (Nat.le_trans h.below.size hk.size) (fun k e => (hvo.lt k e).1)
  have hfk : ∀ p ∈ FK, (w'.setCell ⟨bi, 0, none⟩ v').heap[p.1]? = some p.2 := fun p hp => by
    obtain ⟨hne, cs, t, fz, hc, ht⟩ := hFK p hp
    refine blk_set_other ?_ hne v'
    rw [hc]
    exact hkeep p.1 cs t fz (by rw [h.fk p hp, hc]) ht
  refine ⟨hb1, hfk, ⟨v', blk_set hb1 0 v', ?_⟩, hB1.setCell (p := ⟨bi, 0, none⟩) hbi v', ?_, ?_, ?_⟩
  · have : w'.ownsRow w.heap.size 106 3 v' (M ++ [x]).length (cells3 (M ++ [x])) := by
      rw [List.length_append, cells3_append]; simpa [cells3] using hown'
    exact ownsRow_setCell_other this (fun e => by
      obtain ⟨c, fz', hc⟩ := owns_kind hown' bi e
      rw [hb1] at hc; simp at hc) v'
  · refine ⟨h.keep.1.trans ⟨?_, ?_, ?_, ?_, ?_⟩, fun p u hp hu => ?_⟩
    · exact hg'.os
    · exact hg'.tape
    · exact hg'.output
    · exact Nat.le_trans hk.size (by simpa [World.setCell] using hg'.size)
    · intro k hkw
      have hkr : k < wr.heap.size := Nat.lt_of_lt_of_le hkw h.below.size
      rw [Below.heap_setCell _ _ _ _ (by simp; omega), hg'.block k (Nat.lt_of_lt_of_le hkr hk.size) (fun e => by have := (hvo.lt k e.symm).1; omega)]
      exact hk.block hkr
    · obtain ⟨q, hq, hqb⟩ := hKB _ hp
      have h1 := h.keep.2 p u hp hu
      have h2 := h.fk q hq
      have h3 := hfk q hq
      rw [hqb] at h2 h3
      rw [← h1]
      exact World.cell?_of_block (w := wr) (h3.trans h2.symm)
  · refine h.frm.trans ((KeepsOthers.alloc wr (.cells (enc3 x).toArray 106)).from _ |>.trans ((KeepsOthers.drew _).from _) |>.trans (((KeepsOthers.of_grownBy hg' (fun j o ej hj => ?_)).trans (KeepsOthers.setCell _ _ _)).from _))
    obtain ⟨c, fz', hc⟩ := owns_kind hvo j ej
    have := hk.blk hc
    rw [this] at hj; cases hj; rfl
  · exact Nat.le_trans h.size (Nat.le_trans hk.size (by simpa [World.setCell] using hg'.size))

set_option maxRecDepth 100000 in
set_option maxHeartbeats 2000000 in
theorem histItems_any (H ho g cap m : Nat) (ad : Option Addr) (nw : Nat → Int) (gr ln cp : Nat → Nat) (e d a s : Nat → Nat → Int) (from' to' known : Int) (w : World)
    (hm : m ≤ 64) (hB : BlocksAt w H ho g cap m ad nw gr ln cp) (hR : RowsAt w m gr ln e d a s) (hN : ∀ p q, p ≤ q → q < m → nw p ≤ nw q) (h0 : 0 ≤ from') (h1 : from' ≤ 9999) (h2 : 0 ≤ to') (h3 : to' ≤ 9999) :
    Calls Tryz.prog 127 #[.pointer (some ⟨H, ho, none⟩), .int .i64 from', .int .i64 to', .int .i64 known] w fun r w' => ∃ v l',
      r = .returned v ∧ l'.Perm (itmAll ln e d a from' to' (chain 0 (cntKnown nw m known))) ∧ SortedBy (ltOf cfT) l' ∧ w'.ownsRow w.heap.size 106 3 v l'.length (cells3 l') ∧ Below w.heap.size w w' := by
  obtain ⟨i0, hi, hz0, hz1, hz2⟩ := info_parts Tryz.infoItem
  refine (callsIn_wide (n := 12)).1 ?_
  refine callsIn_of_wp_marks Tryz.func127 rfl trivial ?_ rfl
  simp only [Tryz.ntmps127, List.size_toArray, List.length_cons, List.length_nil, Nat.reduceAdd, Nat.reduceSub, Array.replicate_succ, Array.replicate_zero, List.push_toArray, List.append_toArray, List.nil_append, List.cons_append]
  gi_wp2
  have hG1 : Grew w (((w.alloc (.cells #[.int .i64 from'] 3)).alloc (.cells #[.int .i64 to'] 3)).alloc (.cells #[.slice none 0 0] 104)) := (((Grew.refl _).alloc _).alloc _).alloc _
  have hB1 := hB.mv hG1.below
  refine ⟨trivial, (callsIn_wide.2 (count_known known H ho g cap ad m nw _ (by omega) hB1.cH hB1.ha hB1.cn hN)).mono ?_⟩
  rintro e1 w2 ⟨rfl, hg2⟩
  gi_wp2
  refine ⟨trivial, (callsIn_wide.2 (span_any H ho _ _ _)).mono ?_⟩
  rintro e3 w3 ⟨rfl, rfl⟩
  gi_wp2
  have hH : H < w.heap.size := World.block_lt_of_cell? _ _ hB.cH
  have hg : 0 < m → g < w.heap.size := fun h => World.block_lt_of_cell? _ _ (hB.cn 0 h)
  have hsz2 : w.heap.size + 3 ≤ w2.heap.size := by have := hg2.size; simpa using this
  obtain ⟨W3, hW3⟩ : ∃ W3, ((w2.alloc (Obj.cells #[Value.pointer (some { block := H, off := ho })] 186)).alloc (Obj.cells #[Value.int IntKind.i64 0] 3)).alloc (Obj.cells #[Value.int IntKind.i64 ↑(cntKnown nw m known)] 3) = W3 := ⟨_, rfl⟩
  have hG3 : Grew w2 W3 := by rw [← hW3]; exact (((Grew.refl _).alloc _).alloc _).alloc _
  have hs3 : W3.heap.size = w2.heap.size + 3 := by rw [← hW3]; simp
  have hG : Grew w W3 := (hG1.trans hg2).trans hG3
  have cD : W3.heap[w.heap.size]? = some (.cells #[.int .i64 from'] 3 (0, 0)) := hG3.blk (hg2.blk (Grew.blk (((Grew.refl _).alloc _).alloc _) (heap_alloc_new w _)))
  have cT : W3.heap[w.heap.size + 1]? = some (.cells #[.int .i64 to'] 3 (0, 0)) := hG3.blk (hg2.blk (Grew.blk ((Grew.refl _).alloc _) (by have := heap_alloc_new (w.alloc (.cells #[.int .i64 from'] 3)) (.cells #[.int .i64 to'] 3); rwa [World.size_alloc] at this)))
  have cI : W3.heap[w.heap.size + 1 + 1]? = some (.cells #[.slice none 0 0] 104 (0, 0)) := hG3.blk (hg2.blk (by have := heap_alloc_new ((w.alloc (.cells #[.int .i64 from'] 3)).alloc (.cells #[.int .i64 to'] 3)) (.cells #[.slice none 0 0] 104); rwa [World.size_alloc, World.size_alloc] at this))
  have cBp : W3.heap[w2.heap.size]? = some (.cells #[.pointer (some ⟨H, ho, none⟩)] 186 (0, 0)) := by rw [← hW3]; exact Grew.blk (((Grew.refl _).alloc _).alloc _) (heap_alloc_new w2 _)
  have cBl : W3.heap[w2.heap.size + 1]? = some (.cells #[.int .i64 0] 3 (0, 0)) := by
    rw [← hW3]; refine Grew.blk ((Grew.refl _).alloc _) ?_
    have := heap_alloc_new (w2.alloc (.cells #[.pointer (some ⟨H, ho, none⟩)] 186)) (.cells #[.int .i64 0] 3); rwa [World.size_alloc] at this
  have cBh : W3.heap[w2.heap.size + 2]? = some (.cells #[.int .i64 (cntKnown nw m known)] 3 (0, 0)) := by
    rw [← hW3]
    have := heap_alloc_new ((w2.alloc (.cells #[.pointer (some ⟨H, ho, none⟩)] 186)).alloc (.cells #[.int .i64 0] 3)) (.cells #[.int .i64 (cntKnown nw m known)] 3); rwa [World.size_alloc, World.size_alloc] at this
  have hB3 := hB.mv hG.below
  rw [hW3]
  clear hW3 hB1
  refine wpIn_rangeFunc_ownH rfl (by omega) (gf := 147) (lb := #[.pointer (some ⟨w2.heap.size + 2, 0, none⟩), .pointer (some ⟨w2.heap.size + 1, 0, none⟩), .pointer (some ⟨w2.heap.size, 0, none⟩)]) rfl trivial (enters_of Tryz.func147 (by kernel_rfl) rfl)
    (span_stops 11 (by omega) (w2.heap.size + 2) (w2.heap.size + 1) w2.heap.size w.heap.size H ho g cap m (cntKnown nw m known) 0 ad nw gr ln cp W3 hm (cntKnown_le _ _ _) hg hH (blk_cell' cBh rfl) (blk_cell' cBl rfl) (blk_cell' cBp rfl) hB3)
    KeepB.trans (KeepB.put (by have := hG.size; omega)) (Below.refl _ _) (fun _ => rfl)
    (fun pre W => (((W.heap[w.heap.size]? = some (.cells #[.int .i64 from'] 3 (0, 0)) ∧ W.heap[w.heap.size + 1]? = some (.cells #[.int .i64 to'] 3 (0, 0)) ∧ W.heap[w2.heap.size]? = some (.cells #[.pointer (some ⟨H, ho, none⟩)] 186 (0, 0)) ∧ W.heap[w2.heap.size + 1]? = some (.cells #[.int .i64 0] 3 (0, 0))) ∧
      (∃ v, Boxed W (w.heap.size + 1 + 1) 104 v ∧ W.ownsRow w.heap.size 106 3 v (itmAll ln e d a from' to' (pre.map (·.1))).length (cells3 (itmAll ln e d a from' to' (pre.map (·.1)))) ∧ True)) ∧ Below w.heap.size w W) ∧ W3.heap.size ≤ W.heap.size)
    (fun _ _ _ => False)
    (OwnFrom.and (OwnFrom.and (OwnFrom.and (Own.from (fun s A B row hs hg hr => ⟨blk_kept hs.1 hg hr, blk_kept hs.2.1 hg hr, blk_kept hs.2.2.1 hg hr, blk_kept hs.2.2.2 hg hr⟩) _) (Own.from (holdsRow_own w.heap.size (w.heap.size + 1 + 1) 104 106 3 (fun pre : List { k : Nat // k < m } => (itmAll ln e d a from' to' (pre.map (·.1))).length) (fun pre : List { k : Nat // k < m } => cells3 (itmAll ln e d a from' to' (pre.map (·.1)))) (fun _ _ => True)) _)) (ownFrom_below (Nat.le_refl _) hG.size)) (fun _ _ _ _ hs hg _ => Nat.le_trans hs hg.size))
    (fun _ _ _ _ _ hs _ _ => hs)
    ⟨⟨⟨⟨cD, cT, cBp, cBl⟩, ⟨_, cI, World.ownsRow_nil _ _ _ _, trivial⟩⟩, hG.below⟩, Nat.le_refl _⟩
    (fun x a' W => ∃ Bx, W3.heap.size ≤ Bx ∧ W.heap[Bx]? = some (.cells #[.int .i64 (nw x.1), .slice (some ⟨gr x.1, 0, none⟩) (ln x.1) (cp x.1)] 193 (0, 0)) ∧
      a' = { tmps := #[.pointer (some ⟨H, ho, none⟩), .int .i64 from', .int .i64 to', .int .i64 known, undef, .pointer (some ⟨w.heap.size, 0, none⟩), .pointer (some ⟨w.heap.size + 1, 0, none⟩), undef, .slice none 0 0, .pointer (some ⟨w.heap.size + 1 + 1, 0, none⟩), .pointer (some ⟨Bx, 0, none⟩), undef, undef,
        .pointer (some ⟨H, ho, none⟩), .pointer (some ⟨H, ho, none⟩), .int .i64 known, .int .i64 (cntKnown nw m known), .func (.func 147) #[] #[.pointer (some ⟨w2.heap.size + 2, 0, none⟩), .pointer (some ⟨w2.heap.size + 1, 0, none⟩), .pointer (some ⟨w2.heap.size, 0, none⟩)],
        .agg #[.int .i64 (nw x.1), .slice (some ⟨gr x.1, 0, none⟩) (ln x.1) (cp x.1)], undef, undef, undef, undef, undef, undef, undef, undef, undef, undef, undef, undef, undef, undef, undef, undef, undef, undef, undef, undef, undef, undef, undef, undef], defers := [] })
    (fun x a' => Own.from (fun _ A B row hs hg hr => by obtain ⟨Bx, h1, h2, h3⟩ := hs; exact ⟨Bx, h1, blk_kept h2 hg hr, h3⟩) _)
    ?assign ?body ?done ?stop
  case assign =>
    rintro l pre x W K ⟨⟨⟨⟨iD, iT, iP, iL⟩, ⟨v, hv, hvo, _⟩⟩, iB⟩, iS⟩ hK
    dsimp only [encB]
    gi_wp2
    have hk : Grew W (W.alloc (.cells #[.int .i64 (nw x.1), .slice (some ⟨gr x.1, 0, none⟩) (ln x.1) (cp x.1)] 193)) := (Grew.refl _).alloc _
    exact hK _ _ ((KeepsOthers.alloc _ _).from _) (KeepB.of_grew iB.size hk) ⟨⟨⟨⟨hk.blk iD, hk.blk iT, hk.blk iP, hk.blk iL⟩, ⟨v, hv.alloc _, hvo.alloc _, trivial⟩⟩, iB.trans (hk.below.mono iB.size)⟩, Nat.le_trans iS hk.size⟩ ⟨W.heap.size, iS, heap_alloc_new W _, rfl⟩
  case body =>
    rintro l pre x a' W hl hr ⟨⟨⟨⟨iD, iT, iP, iL⟩, ⟨v, hv, hvo, _⟩⟩, iB⟩, iS⟩ ⟨Bx, hBx, cX, rfl⟩ hlt
    have cX0 := blk_cell' cX (o := 0) rfl
    have cX1 := blk_cell' cX (o := 1) rfl
    have cD0 := blk_cell' iD (o := 0) rfl
    have cT0 := blk_cell' iT (o := 0) rfl
    have hxm := x.2
    have hC1 := before_upTo (nw x.1) (to' + 1) (gr x.1) (cp x.1) (ln x.1) (d x.1) W (hR.small _ x.2) (fun i hi => cell_later iB (hR.cd _ x.2 i hi)) (hR.sorted _ x.2)
    gi_wp2
    refine ⟨trivial, (CallsIn.inRound l (callsIn_wide.2 hC1)).mono ?_⟩
    rintro e5 w5 ⟨rfl, hg5⟩
    have iB5 : Below w.heap.size w w5 := iB.trans (hg5.below.mono iB.size)
    have hC2 := before_upTo (nw x.1) from' (gr x.1) (cp x.1) (ln x.1) (d x.1) w5 (hR.small _ x.2) (fun i hi => cell_later iB5 (hR.cd _ x.2 i hi)) (hR.sorted _ x.2)
    have jX0 := hg5.cell' cX0
    have jX1 := hg5.cell' cX1
    have jD0 := hg5.cell' cD0
    clear hC1 cX0 cX1 cD0 cT0
    gi_wp2
    refine ⟨trivial, (CallsIn.inRound l (callsIn_wide.2 hC2)).mono ?_⟩
    rintro e6 w6 ⟨rfl, hg6⟩
    have hg56 := hg5.trans hg6
    clear hC2 jX0 jX1 jD0
    have hhi := upTo_le (d x.1) (ln x.1) (to' + 1)
    have hsm := hR.small _ x.2
    have hst : Hid (itmAll ln e d a from' to' ((pre ++ [x]).map (·.1)) = itmAll ln e d a from' to' (pre.map (·.1)) ++ (List.range' (upTo (d x.1) (ln x.1) from') (upTo (d x.1) (ln x.1) (to' + 1) - upTo (d x.1) (ln x.1) from')).map (fun j => (e x.1 j, d x.1 j, a x.1 j))) := by
      show itmAll _ _ _ _ _ _ _ = _
      rw [List.map_append]; exact itmAll_snoc _ _ _ _ _ _ _ _
    have hll := itmAll_len ln e d a from' to' m hR.small pre
    have hI0 : ItI w W3 W w6 [(w.heap.size, .cells #[.int .i64 from'] 3 (0, 0)), (w.heap.size + 1, .cells #[.int .i64 to'] 3 (0, 0)), (w2.heap.size, .cells #[.pointer (some ⟨H, ho, none⟩)] 186 (0, 0)), (w2.heap.size + 1, .cells #[.int .i64 0] 3 (0, 0)), (Bx, .cells #[.int .i64 (nw x.1), .slice (some ⟨gr x.1, 0, none⟩) (ln x.1) (cp x.1)] 193 (0, 0))] [w2.heap.size + 1, w2.heap.size] (w.heap.size + 1 + 1) (itmAll ln e d a from' to' (pre.map (·.1))) :=
      ItI.grew ⟨fun p hp => by
        simp only [List.mem_cons, List.not_mem_nil, or_false] at hp
        rcases hp with rfl | rfl | rfl | rfl | rfl <;> assumption, ⟨v, hv, hvo⟩, iB, KeepB.refl _, KeepsFrom.refl _ _, iS⟩ hg56
    have hFK : ∀ p ∈ [(w.heap.size, Obj.cells #[.int .i64 from'] 3 (0, 0)), (w.heap.size + 1, .cells #[.int .i64 to'] 3 (0, 0)), (w2.heap.size, .cells #[.pointer (some ⟨H, ho, none⟩)] 186 (0, 0)), (w2.heap.size + 1, .cells #[.int .i64 0] 3 (0, 0)), (Bx, .cells #[.int .i64 (nw x.1), .slice (some ⟨gr x.1, 0, none⟩) (ln x.1) (cp x.1)] 193 (0, 0))], p.1 ≠ w.heap.size + 1 + 1 ∧ ∃ cs t fz, p.2 = Obj.cells cs t fz ∧ t ≠ 106 := fun p hp => by
      simp only [List.mem_cons, List.not_mem_nil, or_false] at hp
      rcases hp with rfl | rfl | rfl | rfl | rfl <;> exact ⟨by simp; try omega, _, _, _, rfl, by decide⟩
    have hKB : ∀ b ∈ [w2.heap.size + 1, w2.heap.size], ∃ p ∈ [(w.heap.size, Obj.cells #[.int .i64 from'] 3 (0, 0)), (w.heap.size + 1, .cells #[.int .i64 to'] 3 (0, 0)), (w2.heap.size, .cells #[.pointer (some ⟨H, ho, none⟩)] 186 (0, 0)), (w2.heap.size + 1, .cells #[.int .i64 0] 3 (0, 0)), (Bx, .cells #[.int .i64 (nw x.1), .slice (some ⟨gr x.1, 0, none⟩) (ln x.1) (cp x.1)] 193 (0, 0))], p.1 = b := fun b hb => by
      simp only [List.mem_cons, List.not_mem_nil, or_false] at hb
      rcases hb with rfl | rfl
      · exact ⟨_, List.mem_cons_of_mem _ (List.mem_cons_of_mem _ (List.mem_cons_of_mem _ List.mem_cons_self)), rfl⟩
      · exact ⟨_, List.mem_cons_of_mem _ (List.mem_cons_of_mem _ List.mem_cons_self), rfl⟩
    generalize hFKd : ([(w.heap.size, Obj.cells #[.int .i64 from'] 3 (0, 0)), (w.heap.size + 1, .cells #[.int .i64 to'] 3 (0, 0)), (w2.heap.size, .cells #[.pointer (some ⟨H, ho, none⟩)] 186 (0, 0)), (w2.heap.size + 1, .cells #[.int .i64 0] 3 (0, 0)), (Bx, .cells #[.int .i64 (nw x.1), .slice (some ⟨gr x.1, 0, none⟩) (ln x.1) (cp x.1)] 193 (0, 0))] : List (Nat × Obj)) = FK at *
    have hmX : (Bx, Obj.cells #[.int .i64 (nw x.1), .slice (some ⟨gr x.1, 0, none⟩) (ln x.1) (cp x.1)] 193 (0, 0)) ∈ FK := by rw [← hFKd]; simp
    have hm1 : (w.heap.size, Obj.cells #[.int .i64 from'] 3 (0, 0)) ∈ FK := by rw [← hFKd]; simp
    have hm2 : (w.heap.size + 1, Obj.cells #[.int .i64 to'] 3 (0, 0)) ∈ FK := by rw [← hFKd]; simp
    have hm3 : (w2.heap.size, Obj.cells #[.pointer (some ⟨H, ho, none⟩)] 186 (0, 0)) ∈ FK := by rw [← hFKd]; simp
    have hm4 : (w2.heap.size + 1, Obj.cells #[.int .i64 0] 3 (0, 0)) ∈ FK := by rw [← hFKd]; simp
    clear hFKd iD iT iP iL hv hvo cX hg5 hg6 hg56 hr
    generalize itmAll ln e d a from' to' (pre.map (·.1)) = L at *
    generalize upTo (d x.1) (ln x.1) from' = lo at *
    generalize upTo (d x.1) (ln x.1) (to' + 1) = hi' at *
    have hpl : L.length ≤ 64000 := by omega
    have HF : Hid _ := hFK
    have HK : Hid _ := hKB
    clear hFK hKB
    gi_wp2
    gi_loopw [12] (fun iv wr => ∃ j : Nat, lo ≤ j ∧ (j ≤ hi' ∨ j = lo) ∧ iv = .int .i64 j ∧ ItI w W3 W wr FK [w2.heap.size + 1, w2.heap.size] (w.heap.size + 1 + 1) (L ++ (List.range' lo (j - lo)).map (fun j => (e x.1 j, d x.1 j, a x.1 j)))) (fun iv _ => hi' - (intOf iv).toNat)
    case atStart => exact ⟨lo, Nat.le_refl _, .inr rfl, rfl, by simpa using hI0⟩
    case round =>
      obtain ⟨j, hj1, hj2, rfl, hI⟩ := hrel
      by_cases hjl : j < hi'
      · have hjl' : (j : Int) < (hi' : Int) := by omega
        have hj0 : (0 : Int) ≤ (j : Int) := by omega
        have hjn : j < ln x.1 := by omega
        have hjn' : (j : Int) < (ln x.1 : Int) := by omega
        have ce := cell_later hI.below (hR.ce _ x.2 j hjn)
        have cd := cell_later hI.below (hR.cd _ x.2 j hjn)
        have ca := cell_later hI.below (hR.ca _ x.2 j hjn)
        have cX1 := blk_cell' (hI.fk _ hmX) (o := 1) rfl
        obtain ⟨vb, hbox, hvo⟩ := hI.box
        have hstep : (List.range' lo (j + 1 - lo)).map (fun j => (e x.1 j, d x.1 j, a x.1 j)) = (List.range' lo (j - lo)).map (fun j => (e x.1 j, d x.1 j, a x.1 j)) ++ [(e x.1 j, d x.1 j, a x.1 j)] := by
          rw [show j + 1 - lo = (j - lo) + 1 by omega, List.range'_concat]
          simp [show lo + (j - lo) = j by omega]
        have HS : Hid _ := hstep
        clear hstep
        have hml : (L ++ (List.range' lo (j - lo)).map (fun j => (e x.1 j, d x.1 j, a x.1 j))).length ≤ 65000 := by simp; omega
        generalize hM : L ++ (List.range' lo (j - lo)).map (fun j => (e x.1 j, d x.1 j, a x.1 j)) = M at *
        have HM : Hid _ := hM
        clear hM
        generalize hE1 : e x.1 j = ej at *
        generalize hD1 : d x.1 j = dj at *
        generalize hA1 : a x.1 j = aj at *
        clear hE1 hD1 hA1
        obtain ⟨v', w', hrun, hown', hg', _⟩ := run_append_own (P := Tryz.prog) (wr.alloc (.cells #[.int .i64 ej, .int .i64 dj, .int .i64 aj] 106)).drew w.heap.size 104 104 106 i0 _ 3 24 Tryz.underlying104 hi hz0 hz1 hz2 rfl (by decide) vb M.length (cells3 M) ((hvo.alloc _).drew) ⟨wr.heap.size, 0, none⟩ 1 1 [.int .i64 ej, .int .i64 dj, .int .i64 aj] rfl
          (World.news_of_block (cs := #[.int .i64 ej, .int .i64 dj, .int .i64 aj]) (heap_alloc_new wr _)) one3 (by unfold maxLen; omega) (by omega) (Nat.le_trans hI.below.size (by simp))
        obtain ⟨hb1, hI2⟩ := hI.step HF.out HK.out (by omega) hbox hvo (ej, dj, aj) hown' hg'
        obtain ⟨g', cap', rfl, _⟩ := hown'.form (by omega)
        have cb0 := blk_cell' hbox (o := 0) rfl
        have cb1 := blk_cell' hb1 (o := 0) rfl
        have fb1 := blk_free hb1 0
        have hkG : Grew wr (wr.alloc (.cells #[.int .i64 ej, .int .i64 dj, .int .i64 aj] 106)) := (Grew.refl _).alloc _
        have cb0' := hkG.cell' cb0
        have cX1' := hkG.cell' cX1
        have ce' := hkG.cell' ce
        have cd' := hkG.cell' cd
        have ca' := hkG.cell' ca
        have mixed : Tryz.prog.follows .mixedOrders = true := by kernel_rfl
        have HI2 : Hid _ := hI2
        clear hI2 hown' hg' hvo hI hI0
        gi_wp2
        gi_region_with_o (refine appendIn_run vb (.slice (some ⟨wr.heap.size, 0, none⟩) 1 1) _ _ rfl rfl hrun ?_)
        all_goals gi_wp2
        all_goals exact ⟨⟨j + 1, by omega, .inl (by omega), by go_num, by rw [HS.out, ← List.append_assoc, HM.out]; exact HI2.out⟩, by simp [intOf]; omega⟩
      · have hjl' : ¬ (j : Int) < (hi' : Int) := by omega
        have hjj : j - lo = hi' - lo := by omega
        rw [hjj] at hI
        have HI : Hid _ := hI
        clear hI hjj hI0
        gi_wp2
        show KeepsFrom _ _ _ ∧ KeepB _ _ _ _ ∧ _
        have hst2 : itmAll ln e d a from' to' (pre ++ [x]).unattach = _ := hst.out
        dsimp only
        rw [hst2]
        obtain ⟨vb, hbox, hvo⟩ := HI.out.box
        have hfr := HI.out.frm
        have hsi := HI.out.size
        rw [hs3] at hfr hsi
        exact ⟨hfr, HI.out.keep, ⟨⟨⟨HI.out.fk _ hm1, HI.out.fk _ hm2, HI.out.fk _ hm3, HI.out.fk _ hm4⟩, ⟨vb, hbox, hvo⟩⟩, HI.out.below⟩, hsi⟩
  case done =>
    rintro D ys W hD hys ⟨⟨⟨⟨iD, iT, iP, iL⟩, ⟨v, hv, hvo, _⟩⟩, iB⟩, iS⟩ hK
    have hll := itmAll_len ln e d a from' to' m hR.small ys
    have hyl : ys.length ≤ 64 := by
      have h5 := chain_len 0 (cntKnown nw m known)
      have h6 := cntKnown_le nw m known
      rw [← hys, List.length_map] at h5
      omega
    rw [hys] at hvo hll
    generalize hLd : itmAll ln e d a from' to' (chain 0 (cntKnown nw m known)) = L at *
    have HLd : Hid _ := hLd
    clear hLd
    have cb := hv.cell
    clear hB3 hR hB hN cBp cBl cBh cD cT cI iD iT iP iL
    rcases hvo.2 with ⟨rfl, hl0⟩ | ⟨g', cap', cur, rfl, hgg, hgc, _⟩
    · have hL0 : L = [] := List.length_eq_zero_iff.1 hl0
      subst hL0
      gi_wp2
      refine ⟨trivial, (callsIn_wide.2 (sortItems_none none 0 _ _)).mono ?_⟩
      rintro e6 w6 ⟨rfl, hw6⟩
      rw [hw6]
      clear hw6
      gi_wp2
      refine ⟨by simp, .inl ⟨_, _, rfl, run_takeDeferred hK, ?_⟩⟩
      exact ⟨_, results_tmp rfl _ _ _, _, [], rfl, by rw [HLd.out], List.Pairwise.nil, World.ownsRow_nil _ _ _ _, iB.trans (belowK_b (w := w) (Nat.le_refl _) W D _ _ (by have := hG.size; omega) hK rfl rfl)⟩
    · gi_wp2
      refine ⟨trivial, (callsIn_wide.2 (sortItems_any w.heap.size g' cap' L W hvo (by omega))).mono ?_⟩
      rintro e6 w6 ⟨rfl, l', hperm, hsort, hown6, hg6⟩
      have hDg : some D ≠ some g' := fun e => by cases e; rw [hK] at hgc; cases hgc
      have hK6 := (hg6.block D (blk_lt hK) hDg).trans hK
      have hbg : some (w.heap.size + 1 + 1) ≠ some g' := fun e => by cases e; rw [show W.heap[w.heap.size + 1 + 1]? = _ from hv] at hgc; simp at hgc
      have hb6 : w6.heap[w.heap.size + 1 + 1]? = _ := (hg6.block _ hv.lt hbg).trans hv
      have cb6 := blk_cell' hb6 (o := 0) rfl
      have hB6 := iB.grown hg6 iB.size (fun k hk => by cases hk; exact hgg)
      have hpl := hperm.length_eq
      clear hvo hgc cb hb6
      gi_wp2
      refine ⟨by simp, .inl ⟨_, _, rfl, run_takeDeferred hK6, ?_⟩⟩
      exact ⟨_, results_tmp rfl _ _ _, _, l', rfl, by rw [HLd.out]; exact hperm, hsort, by rw [hpl]; exact ownsRow_putObj hown6 _ hK6 rfl, hB6.trans (belowK_b (w := w) (Nat.le_refl _) w6 D _ _ (by have := hG.size; omega) hK6 rfl rfl)⟩
  case stop =>
    rintro D c pre W _ _ h _
    exact h.elim
end Go.Proofs.YtjnmoddcodnadaaGreatDoor
