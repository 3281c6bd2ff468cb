import Derived.Test.YtjnmoddcodnadaaGreatDoorG05
set_option linter.unusedVariables false
set_option linter.unusedSimpArgs false
namespace Go.Proofs.YtjnmoddcodnadaaGreatDoor
open Go.RowKit Go.Annal Go.Sort Go.Shelf
attribute [local go_sem] Oper.semAt_some

/-- How many of a block's rows are of days up to one. -/
def upTo (d : Nat → Int) (n : Nat) (day : Int) : Nat := (List.range n).countP (fun j => !decide (day ≤ d j))
def balTerm (ln : Nat → Nat) (d s : Nat → Nat → Int) (day : Int) (i : Nat) : Int := if 0 < upTo (d i) (ln i) (day + 1) then s i (upTo (d i) (ln i) (day + 1) - 1) else 0
def balSum (ln : Nat → Nat) (d s : Nat → Nat → Int) (day : Int) (xs : List Nat) : Int := (xs.map (balTerm ln d s day)).sum
/-- How many entries' blocks are known. -/
def cntKnown (nw : Nat → Int) (m : Nat) (known : Int) : Nat := (List.range m).countP (fun i => !decide (known < nw i))
theorem cntKnown_le (nw : Nat → Int) (m : Nat) (known : Int) : cntKnown nw m known ≤ m := by
  have := List.countP_le_length (p := fun i => !decide (known < nw i)) (l := List.range m); simpa [cntKnown] using this
theorem upTo_le (d : Nat → Int) (n : Nat) (day : Int) : upTo d n day ≤ n := by
  have := List.countP_le_length (p := fun j => !decide (day ≤ d j)) (l := List.range n); simpa [upTo] using this

/-- The rows' cells. -/
structure RowsAt (w : World) (m : Nat) (gr ln : Nat → Nat) (e d a s : Nat → Nat → Int) : Prop where
  ce : ∀ i, i < m → ∀ j, j < ln i → w.cell? ⟨gr i, j * 4, none⟩ = some (.int .i64 (e i j))
  cd : ∀ i, i < m → ∀ j, j < ln i → w.cell? ⟨gr i, j * 4 + 1, none⟩ = some (.int .i64 (d i j))
  ca : ∀ i, i < m → ∀ j, j < ln i → w.cell? ⟨gr i, j * 4 + 2, none⟩ = some (.int .i64 (a i j))
  cs : ∀ i, i < m → ∀ j, j < ln i → w.cell? ⟨gr i, j * 4 + 3, none⟩ = some (.int .i64 (s i j))
  sorted : ∀ i, i < m → ∀ p q, p ≤ q → q < ln i → d i p ≤ d i q
  small : ∀ i, i < m → ln i ≤ 1000
  bound : ∀ i, i < m → ∀ j, j < ln i → -100000000000000 ≤ s i j ∧ s i j ≤ 100000000000000
theorem RowsAt.mv {w w' : World} {m : Nat} {gr ln : Nat → Nat} {e d a s : Nat → Nat → Int} (h : RowsAt w m gr ln e d a s) (hb : Below w.heap.size w w') : RowsAt w' m gr ln e d a s :=
  ⟨fun i hi j hj => cell_later hb (h.ce i hi j hj), fun i hi j hj => cell_later hb (h.cd i hi j hj), fun i hi j hj => cell_later hb (h.ca i hi j hj), fun i hi j hj => cell_later hb (h.cs i hi j hj), h.sorted, h.small, h.bound⟩

theorem balSum_bd (ln : Nat → Nat) (d s : Nat → Nat → Int) (day : Int) (m : Nat) (hb : ∀ i, i < m → ∀ j, j < ln i → -100000000000000 ≤ s i j ∧ s i j ≤ 100000000000000) (pre : List { k : Nat // k < m }) :
    -(100000000000000 * (pre.length : Int)) ≤ balSum ln d s day (pre.map (·.1)) ∧ balSum ln d s day (pre.map (·.1)) ≤ 100000000000000 * (pre.length : Int) := by
  induction pre with
  | nil => simp [balSum]
  | cons x r ih =>
    have ht : -100000000000000 ≤ balTerm ln d s day x.1 ∧ balTerm ln d s day x.1 ≤ 100000000000000 := by
      unfold balTerm
      have := upTo_le (d x.1) (ln x.1) (day + 1)
      split
      · exact hb _ x.2 _ (by omega)
      · omega
    simp only [balSum, List.map_cons, List.sum_cons, List.length_cons] at ih ⊢
    omega

theorem count_known (known : Int) (H ho g cap : Nat) (ad : Option Addr) (n : Nat) (f : Nat → Int) (w : World) (hl : n ≤ 1000) (hh : w.cell? ⟨H, ho, none⟩ = some (.slice ad n cap)) (ha : 0 < n → ad = some ⟨g, 0, none⟩)
    (hc : ∀ i, i < n → w.cell? ⟨g, i * 2, none⟩ = some (.int .i64 (f i))) (hs : ∀ a b, a ≤ b → b < n → f a ≤ f b) :
    Calls Tryz.prog 113 #[.pointer (some ⟨H, ho, none⟩), .int .i64 known] w fun r w' => r = .returned (.int .i64 (cntKnown f n known)) ∧ Grew w w' :=
  count_any known H ho g cap ad n f w hl hh ha hc hs
theorem before_upTo (nw day : Int) (g cap : Nat) (n : Nat) (f : Nat → Int) (w : World) (hl : n ≤ 1000)
    (hc : ∀ i, i < n → w.cell? ⟨g, i * 4 + 1, none⟩ = some (.int .i64 (f i))) (hs : ∀ a b, a ≤ b → b < n → f a ≤ f b) :
    Calls Tryz.prog 114 #[.agg #[.int .i64 nw, .slice (some ⟨g, 0, none⟩) n cap], .int .i64 day] w fun r w' => r = .returned (.int .i64 (upTo f n day)) ∧ Grew w w' :=
  before_any nw day g cap n f w hl hc hs

theorem bal_fin {w W W3 w5 : World} {B : List Nat} {oD : Obj} {u0 : Value} {t : TypeId} (hBs : ∀ b ∈ B, b ≠ w.heap.size + 1) (hF5 : KeepsFrom W3.heap.size W w5) (hK5 : KeepB w.heap.size B W w5) (jD : w5.heap[w.heap.size]? = some oD)
    (jT : w5.heap[w.heap.size + 1]? = some (.cells #[u0] t (0, 0))) (hB5 : Below w.heap.size w w5) (hs : W3.heap.size ≤ w5.heap.size) (v : Value) :
    KeepsFrom W3.heap.size W (w5.setCell ⟨w.heap.size + 1, 0, none⟩ v).drew ∧ KeepB w.heap.size B W (w5.setCell ⟨w.heap.size + 1, 0, none⟩ v).drew ∧
      (((w5.setCell ⟨w.heap.size + 1, 0, none⟩ v).drew.heap[w.heap.size]? = some oD ∧ (w5.setCell ⟨w.heap.size + 1, 0, none⟩ v).drew.heap[w.heap.size + 1]? = some (.cells #[v] t (0, 0))) ∧
        Below w.heap.size w (w5.setCell ⟨w.heap.size + 1, 0, none⟩ v).drew) ∧ W3.heap.size ≤ (w5.setCell ⟨w.heap.size + 1, 0, none⟩ v).drew.heap.size := by
  refine ⟨hF5.trans (((KeepsOthers.setCell _ _ _).trans (KeepsOthers.drew _)).from _), hK5.trans ⟨((Below.refl _ _).setCell (p := ⟨w.heap.size + 1, 0, none⟩) (by simp) _).drew, fun p v hp hv => ?_⟩, ⟨⟨blk_set_other jD (by simp) _, blk_set jT 0 _⟩, (hB5.setCell (p := ⟨w.heap.size + 1, 0, none⟩) (by simp) _).drew⟩, ?_⟩
  · rw [← hv]
    refine World.cell?_of_block (w := w5) ?_
    exact Below.heap_setCell w5 _ _ _ (hBs _ hp)
  · show _ ≤ (w5.setCell _ _).heap.size
    simpa [World.setCell] using hs

set_option maxRecDepth 100000 in
set_option maxHeartbeats 1000000 in
theorem histBalance_any (H ho g cap m : Nat) (ad : Option Addr) (nw : Nat → Int) (gr ln cp : Nat → Nat) (e d a s : Nat → Nat → Int) (day known : Int) (w : World)
    (hm : m ≤ 64) (hB : BlocksAt w H ho g cap m ad nw gr ln cp) (hR : RowsAt w m gr ln e d a s) (hN : ∀ p q, p ≤ q → q < m → nw p ≤ nw q) (h0 : 0 ≤ day) (h1 : day ≤ 9999) :
    Calls Tryz.prog 70 #[.pointer (some ⟨H, ho, none⟩), .int .i64 day, .int .i64 known] w fun r w' =>
      r = .returned (.int .i64 (balSum ln d s day (chain 0 (cntKnown nw m known)))) ∧ Below w.heap.size w w' := by
  refine (callsIn_wide (n := 12)).1 ?_
  refine callsIn_of_wp_marks Tryz.func70 rfl trivial ?_ rfl
  simp only [Tryz.ntmps70, List.size_toArray, List.length_cons, List.length_nil, Nat.reduceAdd, Nat.reduceSub, Array.replicate_succ, Array.replicate_zero, List.push_toArray, List.append_toArray, List.nil_append, List.cons_append]
  gi_wp2
  have hG1 : Grew w ((w.alloc (.cells #[.int .i64 day] 3)).alloc (.cells #[.int .i64 0] 3)) := ((Grew.refl _).alloc _).alloc _
  have hB1 := hB.mv hG1.below
  refine ⟨trivial, (callsIn_wide.2 (count_known known H ho g cap ad m nw _ (by omega) hB1.cH hB1.ha hB1.cn hN)).mono ?_⟩
  rintro e1 w2 ⟨rfl, hg2⟩
  gi_wp2
  refine ⟨trivial, (callsIn_wide.2 (span_any H ho _ _ _)).mono ?_⟩
  rintro e3 w3 ⟨rfl, rfl⟩
  gi_wp2
  have hH : H < w.heap.size := World.block_lt_of_cell? _ _ hB.cH
  have hg : 0 < m → g < w.heap.size := fun h => World.block_lt_of_cell? _ _ (hB.cn 0 h)
  have hgr : ∀ i, i < m → 0 < ln i → gr i < w.heap.size := fun i hi h => World.block_lt_of_cell? _ _ (hR.ce i hi 0 h)
  have hsz2 : w.heap.size + 2 ≤ w2.heap.size := by have := hg2.size; simpa using this
  obtain ⟨W3, hW3⟩ : ∃ W3, ((w2.alloc (Obj.cells #[Value.pointer (some { block := H, off := ho })] 186)).alloc (Obj.cells #[Value.int IntKind.i64 0] 3)).alloc (Obj.cells #[Value.int IntKind.i64 ↑(cntKnown nw m known)] 3) = W3 := ⟨_, rfl⟩
  have hG3 : Grew w2 W3 := by rw [← hW3]; exact (((Grew.refl _).alloc _).alloc _).alloc _
  have hs3 : W3.heap.size = w2.heap.size + 3 := by rw [← hW3]; simp
  have hG : Grew w W3 := (hG1.trans hg2).trans hG3
  have cD : W3.heap[w.heap.size]? = some (.cells #[.int .i64 day] 3 (0, 0)) := hG3.blk (hg2.blk (Grew.blk ((Grew.refl _).alloc _) (heap_alloc_new w _)))
  have cT : W3.heap[w.heap.size + 1]? = some (.cells #[.int .i64 0] 3 (0, 0)) := hG3.blk (hg2.blk (by have := heap_alloc_new (w.alloc (.cells #[.int .i64 day] 3)) (.cells #[.int .i64 0] 3); rwa [World.size_alloc] at this))
  have cBp : W3.heap[w2.heap.size]? = some (.cells #[.pointer (some ⟨H, ho, none⟩)] 186 (0, 0)) := by rw [← hW3]; exact Grew.blk (((Grew.refl _).alloc _).alloc _) (heap_alloc_new w2 _)
  have cBl : W3.heap[w2.heap.size + 1]? = some (.cells #[.int .i64 0] 3 (0, 0)) := by
    rw [← hW3]; refine Grew.blk ((Grew.refl _).alloc _) ?_
    have := heap_alloc_new (w2.alloc (.cells #[.pointer (some ⟨H, ho, none⟩)] 186)) (.cells #[.int .i64 0] 3); rwa [World.size_alloc] at this
  have cBh : W3.heap[w2.heap.size + 2]? = some (.cells #[.int .i64 (cntKnown nw m known)] 3 (0, 0)) := by
    rw [← hW3]
    have := heap_alloc_new ((w2.alloc (.cells #[.pointer (some ⟨H, ho, none⟩)] 186)).alloc (.cells #[.int .i64 0] 3)) (.cells #[.int .i64 (cntKnown nw m known)] 3); rwa [World.size_alloc, World.size_alloc] at this
  have hB3 := hB.mv hG.below
  rw [hW3]
  clear hW3 hB1
  refine wpIn_rangeFunc_ownH rfl (by omega) (gf := 147) (lb := #[.pointer (some ⟨w2.heap.size + 2, 0, none⟩), .pointer (some ⟨w2.heap.size + 1, 0, none⟩), .pointer (some ⟨w2.heap.size, 0, none⟩)]) rfl trivial (enters_of Tryz.func147 (by kernel_rfl) rfl)
    (span_stops 11 (by omega) (w2.heap.size + 2) (w2.heap.size + 1) w2.heap.size w.heap.size H ho g cap m (cntKnown nw m known) 0 ad nw gr ln cp W3 hm (cntKnown_le _ _ _) hg hH (blk_cell' cBh rfl) (blk_cell' cBl rfl) (blk_cell' cBp rfl) hB3)
    KeepB.trans (KeepB.put (by have := hG.size; omega)) (Below.refl _ _) (fun _ => rfl)
    (fun pre W => ((W.heap[w.heap.size]? = some (.cells #[.int .i64 day] 3 (0, 0)) ∧ W.heap[w.heap.size + 1]? = some (.cells #[.int .i64 (balSum ln d s day (pre.map (·.1)))] 3 (0, 0))) ∧ Below w.heap.size w W) ∧ W3.heap.size ≤ W.heap.size)
    (fun _ _ _ => False)
    (OwnFrom.and (OwnFrom.and (Own.from (fun s A B row hs hg hr => ⟨blk_kept hs.1 hg hr, blk_kept hs.2 hg hr⟩) _) (ownFrom_below (Nat.le_refl _) hG.size)) (fun _ _ _ _ hs hg _ => Nat.le_trans hs hg.size))
    (fun _ _ _ _ _ hs _ _ => hs)
    ⟨⟨⟨cD, cT⟩, hG.below⟩, Nat.le_refl _⟩
    (fun x a' W => ∃ Bx, W3.heap.size ≤ Bx ∧ W.heap[Bx]? = some (.cells #[.int .i64 (nw x.1), .slice (some ⟨gr x.1, 0, none⟩) (ln x.1) (cp x.1)] 193 (0, 0)) ∧
      a' = { tmps := #[.pointer (some ⟨H, ho, none⟩), .int .i64 day, .int .i64 known, undef, .pointer (some ⟨w.heap.size, 0, none⟩), undef, .int .i64 0, .pointer (some ⟨w.heap.size + 1, 0, none⟩), .pointer (some ⟨Bx, 0, none⟩), undef,
        .pointer (some ⟨H, ho, none⟩), .pointer (some ⟨H, ho, none⟩), .int .i64 known, .int .i64 (cntKnown nw m known), .func (.func 147) #[] #[.pointer (some ⟨w2.heap.size + 2, 0, none⟩), .pointer (some ⟨w2.heap.size + 1, 0, none⟩), .pointer (some ⟨w2.heap.size, 0, none⟩)],
        .agg #[.int .i64 (nw x.1), .slice (some ⟨gr x.1, 0, none⟩) (ln x.1) (cp x.1)], undef, undef, undef, undef, undef, undef, undef, undef, undef, undef, undef, undef, undef, undef, undef, undef], defers := [] })
    (fun x a' => Own.from (fun _ A B row hs hg hr => by obtain ⟨Bx, h1, h2, h3⟩ := hs; exact ⟨Bx, h1, blk_kept h2 hg hr, h3⟩) _)
    ?assign ?body ?done ?stop
  case assign =>
    rintro l pre x W K ⟨⟨⟨iD, iT⟩, iB⟩, iS⟩ hK
    dsimp only [encB]
    gi_wp2
    have hk : Grew W (W.alloc (.cells #[.int .i64 (nw x.1), .slice (some ⟨gr x.1, 0, none⟩) (ln x.1) (cp x.1)] 193)) := (Grew.refl _).alloc _
    exact hK _ _ ((KeepsOthers.alloc _ _).from _) (KeepB.of_grew iB.size hk) ⟨⟨⟨hk.blk iD, hk.blk iT⟩, iB.trans (hk.below.mono iB.size)⟩, Nat.le_trans iS hk.size⟩ ⟨W.heap.size, iS, heap_alloc_new W _, rfl⟩
  case body =>
    rintro l pre x a' W hl hr ⟨⟨⟨iD, iT⟩, iB⟩, iS⟩ ⟨Bx, hBx, cX, rfl⟩ hlt
    have cX0 := blk_cell' cX (o := 0) rfl
    have cX1 := blk_cell' cX (o := 1) rfl
    have cD0 := blk_cell' iD (o := 0) rfl
    have hxm := x.2
    have hul := upTo_le (d x.1) (ln x.1) (day + 1)
    have hC := before_upTo (nw x.1) (day + 1) (gr x.1) (cp x.1) (ln x.1) (d x.1) W (hR.small _ x.2) (fun i hi => cell_later iB (hR.cd _ x.2 i hi)) (hR.sorted _ x.2)
    have hterm : Hid (balTerm ln d s day x.1 = if 0 < upTo (d x.1) (ln x.1) (day + 1) then s x.1 (upTo (d x.1) (ln x.1) (day + 1) - 1) else 0) := rfl
    have hsum : Hid (balSum ln d s day ((pre ++ [x]).map (·.1)) = balSum ln d s day (pre.map (·.1)) + balTerm ln d s day x.1) := by simp [Hid, balSum]
    have hbd := balSum_bd ln d s day m hR.bound pre
    have hcu : ∀ u : Nat, 0 < u → u ≤ ln x.1 → w.cell? ⟨gr x.1, (u - 1) * 4 + 3, none⟩ = some (.int .i64 (s x.1 (u - 1))) := fun u h h' => hR.cs _ x.2 (u - 1) (by omega)
    have hbu : ∀ u : Nat, 0 < u → u ≤ ln x.1 → -100000000000000 ≤ s x.1 (u - 1) ∧ s x.1 (u - 1) ≤ 100000000000000 := fun u h h' => hR.bound _ x.2 (u - 1) (by omega)
    have hln := hR.small _ x.2
    generalize upTo (d x.1) (ln x.1) (day + 1) = u at hC hul hterm
    generalize balSum ln d s day (pre.map (·.1)) = tot at iT hsum hbd
    clear hB3 hR hB hN cBp cBl cBh cD cT
    gi_wp2
    refine ⟨trivial, (CallsIn.inRound l (callsIn_wide.2 hC)).mono ?_⟩
    rintro e5 w5 ⟨rfl, hg5⟩
    have jD := hg5.blk iD
    have jT := hg5.blk iT
    have jX := hg5.blk cX
    have hB5 : Below w.heap.size w w5 := iB.trans (hg5.below.mono iB.size)
    have jX1 := blk_cell' jX (o := 1) rfl
    have jT0 := blk_cell' jT (o := 0) rfl
    have fT0 := blk_free jT 0
    have hK5 : KeepB w.heap.size [w2.heap.size + 1, w2.heap.size] W w5 := KeepB.of_grew iB.size hg5
    have hF5 : KeepsFrom W3.heap.size W w5 := ⟨hg5.size, fun k o _ hk _ => hg5.blk hk⟩
    clear hC cX0 cX1 cD0
    by_cases hu : 0 < u
    · have hu' : (0 : Int) < (u : Int) := by omega
      have hul' : (u : Int) ≤ (ln x.1 : Int) := by omega
      have hln' : (ln x.1 : Int) ≤ 1000 := by omega
      have hi0 : (0 : Int) ≤ (u : Int) - 1 := by omega
      have hi1 : (u : Int) - 1 < (ln x.1 : Int) := by omega
      have hi2 : ((u : Int) - 1).toNat = u - 1 := by omega
      have ju := cell_later hB5 (hcu u hu hul)
      have bu := hbu u hu hul
      obtain ⟨bu1, bu2⟩ := bu
      obtain ⟨hb1, hb2⟩ := hbd
      generalize s x.1 (u - 1) = su at ju bu1 bu2 hterm
      have hpl : (pre.length : Int) ≤ 64 := by omega
      clear hcu hbu
      have fin : Hid _ := bal_fin (B := [w2.heap.size + 1, w2.heap.size]) (fun b hb => by simp at hb; omega) hF5 hK5 jD jT hB5 (Nat.le_trans iS hg5.size) (.int .i64 (tot + su))
      have hfs : Hid (balSum ln d s day ((pre ++ [x]).map (·.1)) = tot + su) := by have := hsum.out; rw [hterm.out, if_pos hu] at this; exact this
      have hw1 : IntKind.i64.wrap ((u : Int) - 1) = (u : Int) - 1 := wrap_id _ (by omega) (by omega)
      have hw2 : IntKind.i64.wrap (tot + su) = tot + su := wrap_id _ (by omega) (by omega)
      have mixed : Tryz.prog.follows .mixedOrders = true := by kernel_rfl
      gi_wp2
      gi_region_with_o (fail)
      all_goals gi_wp2
      all_goals (show KeepsFrom _ _ _ ∧ KeepB _ _ _ _ ∧ _; dsimp only; rw [hfs.out]; exact fin.out)
    · have hu' : ¬ (0 : Int) < (u : Int) := by omega
      clear hcu hbu
      gi_wp2
      exact ⟨hF5, hK5, ⟨⟨jD, by rw [hsum.out, hterm.out, if_neg hu, Int.add_zero]; exact jT⟩, hB5⟩, Nat.le_trans iS hg5.size⟩
  case done =>
    rintro D ys W hD hys ⟨⟨⟨iD, iT⟩, iB⟩, iS⟩ hK
    have cT0 := blk_cell' iT (o := 0) rfl
    rw [hys] at cT0
    clear hB3 hR hB hN cBp cBl cBh cD cT iT iD
    gi_wp2
    refine ⟨by simp, .inl ⟨_, _, rfl, run_takeDeferred hK, ?_⟩⟩
    exact ⟨_, results_tmp rfl _ _ _, rfl, iB.trans (belowK_b (w := w) (Nat.le_refl _) W D _ _ (by have := hG.size; omega) hK rfl rfl)⟩
  case stop =>
    rintro D c pre W _ _ h _
    exact h.elim
end Go.Proofs.YtjnmoddcodnadaaGreatDoor
