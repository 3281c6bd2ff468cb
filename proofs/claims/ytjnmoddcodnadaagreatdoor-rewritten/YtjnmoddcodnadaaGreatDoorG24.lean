import Derived.Test.YtjnmoddcodnadaaGreatDoorG23
set_option linter.unusedVariables false
set_option linter.unusedSimpArgs false
namespace Go.Proofs.YtjnmoddcodnadaaGreatDoor
open Go.RowKit Go.Annal
theorem lineCells_succ (la : Nat → ByteArray) (lm : Nat → Int) (k : Nat) : lineCells la lm (k + 1) = lineCells la lm k ++ [.string (la k), .int .i64 (lm k)] := by
  unfold lineCells
  rw [List.range_succ, List.map_append, cells2_append]
  rfl
theorem owns_view' {w : World} {B : Nat} {e : TypeId} {sz : Nat} {v : Value} {n : Nat} {xs : List Value} (h : w.ownsRow B e sz v n xs) : ∃ ad cap g, v = .slice ad n cap ∧ n ≤ cap ∧ (0 < n → ad = some ⟨g, 0, none⟩ ∧ B ≤ g) ∧ True := by
  rcases h.2 with ⟨rfl, rfl⟩ | ⟨g, cap, cur, rfl, hb, hg, hnc, _⟩
  · exact ⟨none, 0, 0, rfl, Nat.le_refl _, fun h => absurd h (Nat.lt_irrefl _), trivial⟩
  · exact ⟨_, cap, g, rfl, hnc, fun _ => ⟨rfl, hb⟩, trivial⟩
set_option maxRecDepth 100000 in
set_option maxHeartbeats 2000000 in
theorem ReverseR_ok (R ne ce e ge gl n cl : Nat) (c0 : Value) (lk dy : Int) (t : ByteArray) (xs : List Value) (la : Nat → ByteArray) (lm : Nat → Int) (w : World) (hR : w.heap[R]? = some (.cells #[c0, .slice (some ⟨ge, 0, none⟩) ne ce, .int .i64 lk, .string t] 103 (0, 0)))
    (hown : w.ownsRow 0 158 3 (.slice (some ⟨ge, 0, none⟩) ne ce) ne xs) (he : e < ne) (hne : ne < 60)
    (cd : w.cell? ⟨ge, e * 3, none⟩ = some (.int .i64 dy)) (cl' : w.cell? ⟨ge, e * 3 + 1, none⟩ = some (.slice (some ⟨gl, 0, none⟩) n cl)) (cg : w.cell? ⟨ge, e * 3 + 2, none⟩ = some (.bool false)) (hlk : -1 ≤ lk ∧ lk ≤ 9999) (hL : LinesAt w gl 0 n la lm) (hn0 : 0 < n) (hn : n ≤ 100) (hnc : n ≤ cl)
    (hlm : ∀ k, k < n → -1000000000000 ≤ lm k ∧ lm k ≤ 1000000000000) (ht : t.size ≤ 900000000000) (hday : ¬ 9999 < revDay dy lk) :
    Calls Tryz.prog 42 #[.pointer (some ⟨R, 0, none⟩), .int .i64 ((e : Int) + 1)] w fun r w' => r = .returned (.tuple #[.int .i64 ((ne + 1 : Nat) : Int), .int .i64 0]) ∧ ∃ g cap' gl' cl2,
      w'.heap[R]? = some (.cells #[c0, .slice (some ⟨g, 0, none⟩) (ne + 1) cap', .int .i64 lk, .string (t ++ (⟨#[114, 32]⟩ ++ ⟨(digZ ((e : Int) + 1)).toArray⟩) ++ ⟨#[10]⟩)] 103 (0, 0)) ∧
      w'.ownsRow 0 158 3 (.slice (some ⟨g, 0, none⟩) (ne + 1) cap') (ne + 1) (xs.set (e * 3 + 2) (.bool true) ++ [.int .i64 (revDay dy lk), .slice (some ⟨gl', 0, none⟩) n cl2, .bool true]) ∧
      w'.ownsRow w.heap.size 58 2 (.slice (some ⟨gl', 0, none⟩) n cl2) n (lineCells la (fun k => - lm k) n) ∧
      Turn (fun k => k = R ∨ k = ge) w w' ∧ (g = ge ∨ w.heap.size ≤ g) := by
  obtain ⟨i0, hi, hz0, hz1, hz2⟩ := info_parts Tryz.infoLine
  have cE := blk_cell' hR (o := 1) rfl
  have cL := blk_cell' hR (o := 2) rfl
  obtain ⟨hl1, hl2⟩ := hlk
  have h1' : decide ((e : Int) + 1 < 1) = false := by simp; omega
  have h2' : decide ((ne : Int) < (e : Int) + 1) = false := by simp; omega
  have h3 : (0 : Int) ≤ (e : Int) := by omega
  have h4 : (e : Int) < (ne : Int) := by omega
  have hne' : ¬ (60 : Int) ≤ (ne : Int) := by omega
  obtain ⟨W0, hW0⟩ : ∃ W0, W0 = w.alloc (.cells #[.int .i64 dy, .slice (some ⟨gl, 0, none⟩) n cl, .bool false] 158) := ⟨_, rfl⟩
  have hb0 : Below w.heap.size w W0 := by rw [hW0]; exact ((Grew.refl w).alloc _).below
  have hbx : W0.heap[w.heap.size]? = some (.cells #[.int .i64 dy, .slice (some ⟨gl, 0, none⟩) n cl, .bool false] 158 (0, 0)) := by rw [hW0]; exact heap_alloc_new w _
  have cE' := cell_later hb0 cE
  have cL' := cell_later hb0 cL
  rw [hW0] at cE' cL'
  have HW : Hid (type_of% hW0) := hW0
  have HBX : Hid (type_of% hbx) := hbx
  have HB0 : Hid (type_of% hb0) := hb0
  have HLn : Hid (type_of% hL) := hL
  have HR : Hid (type_of% hR) := hR
  have HO : Hid (type_of% hown) := hown
  clear hW0 hbx hb0 hL hR hown
  generalize hrd : revDay dy lk = rd at *
  have hpre : (dy ≤ lk ∧ rd = lk + 1) ∨ (¬ dy ≤ lk ∧ rd = dy) := by
    rw [← hrd]; unfold revDay
    by_cases h : dy ≤ lk
    · exact .inl ⟨h, if_pos h⟩
    · exact .inr ⟨h, if_neg h⟩
  clear hrd
  have hrest : Hid True := trivial
  rcases hpre with ⟨hd, rfl⟩ | ⟨hd, rfl⟩
  · go_enter Tryz.func42, Tryz.ntmps42
    go_wp2
    rw [← HW.out]
    go_loopw [8, 9] (fun lv iv wr => ∃ k : Nat, k ≤ n ∧ iv = .int .i64 k ∧ Hid (wr.ownsRow W0.heap.size 58 2 lv k (lineCells la (fun j => - lm j) k)) ∧ Hid (Below W0.heap.size W0 wr)) (fun _ iv _ => n - (intOf iv).toNat)
    case atStart => exact ⟨0, Nat.zero_le _, rfl, World.ownsRow_nil _ _ _ _, Below.refl _ _⟩
    case round =>
      obtain ⟨k, hk, rfl, ho, hb⟩ := hrel
      have hbx := (hb.out.block _ (blk_lt HBX.out)).trans HBX.out
      have x1 := blk_cell' hbx (o := 1) rfl
      by_cases hlt : k < n
      · have hlt' : (k : Int) < (n : Int) := by omega
        have hk0 : (0 : Int) ≤ (k : Int) := by omega
        have hbw : Below w.heap.size w wr := HB0.out.trans (hb.out.mono HB0.out.size)
        have ca := cell_later hbw (HLn.out.ca k hlt)
        have cm := cell_later hbw (HLn.out.cm k hlt)
        rw [Nat.zero_add] at ca cm
        have hlk' := hlm k hlt
        obtain ⟨hlk1, hlk2⟩ := hlk'
        have hsz := hb.out.size
        have hwn : IntKind.i64.wrap (- lm k) = - lm k := wrap_id _ (by omega) (by omega)
        go_wp2
        have hb2 : (wr.alloc (.cells #[.string (la k), .int .i64 (- lm k)] 58)).drew.heap[wr.heap.size]? = some (.cells #[.string (la k), .int .i64 (- lm k)] 58 (0, 0)) := heap_alloc_new wr _
        go_region_law (refine step_append_lies _ (by rfl) _ _ _ (by rfl) W0.heap.size 58 i0 _ 2 24 Tryz.underlying54 hi hz0 hz1 hz2 rfl (by decide) _ k _ (by rfl) (by exact (ho.out.alloc _).drew) ⟨wr.heap.size, 0, none⟩ 1 1 [.string (la k), .int .i64 (- lm k)] (by rfl) rfl (World.news_of_block (cs := #[.string (la k), .int .i64 (- lm k)]) hb2) (by simp [Value.oneCell']) (by decide) (by unfold maxLen; omega) (by omega) (by simp; omega) (wr.heap.size + 1) (by simp) ?_; intro g2 cap2 w2 hown2 hg2 hat2 hlt2)
        all_goals go_wp2
        all_goals
          have hb3 : Below W0.heap.size W0 w2 := ((hb.out.alloc hsz _).drew).grown hg2 (by simp; omega) (fun j hj => (ho.out.lt j hj).1)
          exact ⟨⟨k + 1, by omega, by go_num, by show w2.ownsRow _ _ _ _ _ _; rw [lineCells_succ]; exact hown2, hb3⟩, by simp [intOf]; omega⟩
      · have hlt' : ¬ (k : Int) < (n : Int) := by omega
        obtain rfl : k = n := by omega
        obtain ⟨ad, cl2, gl2, eg, _, hgav, _⟩ := owns_view' ho.out
        obtain ⟨rfl, hgb⟩ := hgav hn0
        have hbw : Below w.heap.size w wr := HB0.out.trans (hb.out.mono HB0.out.size)
        have hRr := (hbw.block R (blk_lt HR.out)).trans HR.out
        have hor := owns_mv HO.out hbw
        have hgeR : ge ≠ R := fun h => by
          obtain ⟨c, fz, hc⟩ := owns_kind HO.out ge rfl
          rw [h, HR.out] at hc; simp at hc
        have hgel : ge < w.heap.size := (HO.out.lt ge rfl).2
        have r1 := blk_cell' hRr (o := 1) rfl
        have s2 := cell_later hbw cg
        have q2 := hor.frozenAt (e * 3 + 2)
        have hst := (hor.stored (e * 3 + 2) (.bool true)).1
        have R5 : (wr.setCell ⟨ge, e * 3 + 2, none⟩ (.bool true)).heap[R]? = some (.cells #[c0, .slice (some ⟨ge, 0, none⟩) ne ce, .int .i64 lk, .string t] 103 (0, 0)) := (Below.heap_setCell wr ⟨ge, e * 3 + 2, none⟩ (.bool true) R (fun h => hgeR h.symm)).trans hRr
        have oL5 := ownsRow_setCell_other ho.out (a := ⟨ge, e * 3 + 2, none⟩) (fun h => by rw [eg] at h; simp only [Value.ownBlock, Option.some.injEq] at h; have := HB0.out.size; omega) (.bool true)
        have T5 : Turn (fun x => x = R ∨ x = ge) w (wr.setCell ⟨ge, e * 3 + 2, none⟩ (.bool true)) := (Turn.of_below hbw).set _ _ (fun _ => .inr rfl)
        rw [eg] at oL5
        rw [eg]
        have HST : Hid (type_of% hst) := hst
        have HR5 : Hid (type_of% R5) := R5
        have HL5 : Hid (type_of% oL5) := oL5
        have HT5 : Hid (type_of% T5) := T5
        have CD := fun W => digits_any ((e : Int) + 1) W (by omega) (by omega)
        have HD : Hid _ := CD
        have hdl := digZ_len ((e : Int) + 1)
        generalize hdz : digZ ((e : Int) + 1) = dl at HD hdl
        have HDZ : Hid (type_of% hdz) := hdz
        clear hdz
        clear hst R5 oL5 T5 CD ho hor hRr eg hgav
        go_wp2_with fail
        refine Calls.mono (HD.out _) ?_
        rintro e' w3 ⟨rfl, hg3⟩
        have R3 := hg3.blk HR5.out
        have oE3 := owns_mv HST.out hg3.below
        have oL3 := owns_mv HL5.out hg3.below
        have T3 := HT5.out.below hg3.below
        clear hg3 HST HR5 HL5 HT5 HD
        go_wp2_with fail
        refine Calls.mono (note_any R _ _ _ t _ w3 R3 (by simp only [ByteArray.size_append, sz_arr, List.size_toArray, List.length_cons, List.length_nil]; omega)) ?_
        rintro e' w4 ⟨rfl, rfl⟩
        have hge3 : (Value.slice (some ⟨ge, 0, none⟩) ne ce).ownBlock ≠ some R := fun h => hgeR (Option.some.inj h)
        have R4 := blk_set R3 3 (.string (t ++ (⟨#[114, 32]⟩ ++ ⟨dl.toArray⟩) ++ ⟨#[10]⟩))
        have oE4 := ownsRow_setCell_other oE3 (a := ⟨R, 3, none⟩) hge3 (.string (t ++ (⟨#[114, 32]⟩ ++ ⟨dl.toArray⟩) ++ ⟨#[10]⟩))
        have oL4 := ownsRow_setCell_other oL3 (a := ⟨R, 3, none⟩) (fun h => by have h9 : gl2 = R := Option.some.inj h; have := blk_lt HR.out; have := HB0.out.size; omega) (.string (t ++ (⟨#[114, 32]⟩ ++ ⟨dl.toArray⟩) ++ ⟨#[10]⟩))
        have T4 := T3.set ⟨R, 3, none⟩ (.string (t ++ (⟨#[114, 32]⟩ ++ ⟨dl.toArray⟩) ++ ⟨#[10]⟩)) (fun _ => .inl rfl)
        clear R3 oE3 oL3 T3
        generalize htx : (t ++ (⟨#[114, 32]⟩ ++ ⟨dl.toArray⟩) ++ ⟨#[10]⟩ : ByteArray) = tx at R4 oE4 oL4 T4 ⊢
        have HTX : Hid (type_of% htx) := htx
        clear htx
        go_wp2_with fail
        refine Calls.mono (enterR_any R ne c0 (.slice (some ⟨ge, 0, none⟩) ne ce) (.int .i64 lk) (.string tx) (.slice (some ⟨gl2, 0, none⟩) k cl2) _ (lk + 1) true _ R4 oE4 (by omega) rfl) ?_
        rintro e' w5 ⟨rfl, g, cap', hR5, own5, T5, hat⟩
        have hws := HB0.out.size
        have hRl := blk_lt HR.out
        have oL6 := owns_turn oL4 T5 (fun x hx => by
          have hx' : gl2 = x := Option.some.inj hx
          subst hx'
          rintro (h | h)
          · omega
          · have h' : ge = gl2 := Option.some.inj h
            omega)
        have T6 := T4.trans (T5.mono (fun x _ hx => hx.imp id (fun h => (Option.some.inj h).symm)))
        have hs4 := T4.size
        go_wp2
        go_ret2
        rw [← HTX.out, ← HDZ.out] at hR5
        exact ⟨rfl, g, cap', gl2, cl2, hR5, own5, owns_le oL6 hws, T6, hat.imp (fun h => (Option.some.inj h).symm) (fun h => Nat.le_trans hs4 h)⟩
  · go_enter Tryz.func42, Tryz.ntmps42
    go_wp2
    rw [← HW.out]
    go_loopw [8, 9] (fun lv iv wr => ∃ k : Nat, k ≤ n ∧ iv = .int .i64 k ∧ Hid (wr.ownsRow W0.heap.size 58 2 lv k (lineCells la (fun j => - lm j) k)) ∧ Hid (Below W0.heap.size W0 wr)) (fun _ iv _ => n - (intOf iv).toNat)
    case atStart => exact ⟨0, Nat.zero_le _, rfl, World.ownsRow_nil _ _ _ _, Below.refl _ _⟩
    case round =>
      obtain ⟨k, hk, rfl, ho, hb⟩ := hrel
      have hbx := (hb.out.block _ (blk_lt HBX.out)).trans HBX.out
      have x1 := blk_cell' hbx (o := 1) rfl
      by_cases hlt : k < n
      · have hlt' : (k : Int) < (n : Int) := by omega
        have hk0 : (0 : Int) ≤ (k : Int) := by omega
        have hbw : Below w.heap.size w wr := HB0.out.trans (hb.out.mono HB0.out.size)
        have ca := cell_later hbw (HLn.out.ca k hlt)
        have cm := cell_later hbw (HLn.out.cm k hlt)
        rw [Nat.zero_add] at ca cm
        have hlk' := hlm k hlt
        obtain ⟨hlk1, hlk2⟩ := hlk'
        have hsz := hb.out.size
        have hwn : IntKind.i64.wrap (- lm k) = - lm k := wrap_id _ (by omega) (by omega)
        go_wp2
        have hb2 : (wr.alloc (.cells #[.string (la k), .int .i64 (- lm k)] 58)).drew.heap[wr.heap.size]? = some (.cells #[.string (la k), .int .i64 (- lm k)] 58 (0, 0)) := heap_alloc_new wr _
        go_region_law (refine step_append_lies _ (by rfl) _ _ _ (by rfl) W0.heap.size 58 i0 _ 2 24 Tryz.underlying54 hi hz0 hz1 hz2 rfl (by decide) _ k _ (by rfl) (by exact (ho.out.alloc _).drew) ⟨wr.heap.size, 0, none⟩ 1 1 [.string (la k), .int .i64 (- lm k)] (by rfl) rfl (World.news_of_block (cs := #[.string (la k), .int .i64 (- lm k)]) hb2) (by simp [Value.oneCell']) (by decide) (by unfold maxLen; omega) (by omega) (by simp; omega) (wr.heap.size + 1) (by simp) ?_; intro g2 cap2 w2 hown2 hg2 hat2 hlt2)
        all_goals go_wp2
        all_goals
          have hb3 : Below W0.heap.size W0 w2 := ((hb.out.alloc hsz _).drew).grown hg2 (by simp; omega) (fun j hj => (ho.out.lt j hj).1)
          exact ⟨⟨k + 1, by omega, by go_num, by show w2.ownsRow _ _ _ _ _ _; rw [lineCells_succ]; exact hown2, hb3⟩, by simp [intOf]; omega⟩
      · have hlt' : ¬ (k : Int) < (n : Int) := by omega
        obtain rfl : k = n := by omega
        obtain ⟨ad, cl2, gl2, eg, _, hgav, _⟩ := owns_view' ho.out
        obtain ⟨rfl, hgb⟩ := hgav hn0
        have hbw : Below w.heap.size w wr := HB0.out.trans (hb.out.mono HB0.out.size)
        have hRr := (hbw.block R (blk_lt HR.out)).trans HR.out
        have hor := owns_mv HO.out hbw
        have hgeR : ge ≠ R := fun h => by
          obtain ⟨c, fz, hc⟩ := owns_kind HO.out ge rfl
          rw [h, HR.out] at hc; simp at hc
        have hgel : ge < w.heap.size := (HO.out.lt ge rfl).2
        have r1 := blk_cell' hRr (o := 1) rfl
        have s2 := cell_later hbw cg
        have q2 := hor.frozenAt (e * 3 + 2)
        have hst := (hor.stored (e * 3 + 2) (.bool true)).1
        have R5 : (wr.setCell ⟨ge, e * 3 + 2, none⟩ (.bool true)).heap[R]? = some (.cells #[c0, .slice (some ⟨ge, 0, none⟩) ne ce, .int .i64 lk, .string t] 103 (0, 0)) := (Below.heap_setCell wr ⟨ge, e * 3 + 2, none⟩ (.bool true) R (fun h => hgeR h.symm)).trans hRr
        have oL5 := ownsRow_setCell_other ho.out (a := ⟨ge, e * 3 + 2, none⟩) (fun h => by rw [eg] at h; simp only [Value.ownBlock, Option.some.injEq] at h; have := HB0.out.size; omega) (.bool true)
        have T5 : Turn (fun x => x = R ∨ x = ge) w (wr.setCell ⟨ge, e * 3 + 2, none⟩ (.bool true)) := (Turn.of_below hbw).set _ _ (fun _ => .inr rfl)
        rw [eg] at oL5
        rw [eg]
        have HST : Hid (type_of% hst) := hst
        have HR5 : Hid (type_of% R5) := R5
        have HL5 : Hid (type_of% oL5) := oL5
        have HT5 : Hid (type_of% T5) := T5
        have CD := fun W => digits_any ((e : Int) + 1) W (by omega) (by omega)
        have HD : Hid _ := CD
        have hdl := digZ_len ((e : Int) + 1)
        generalize hdz : digZ ((e : Int) + 1) = dl at HD hdl
        have HDZ : Hid (type_of% hdz) := hdz
        clear hdz
        clear hst R5 oL5 T5 CD ho hor hRr eg hgav
        go_wp2_with fail
        refine Calls.mono (HD.out _) ?_
        rintro e' w3 ⟨rfl, hg3⟩
        have R3 := hg3.blk HR5.out
        have oE3 := owns_mv HST.out hg3.below
        have oL3 := owns_mv HL5.out hg3.below
        have T3 := HT5.out.below hg3.below
        clear hg3 HST HR5 HL5 HT5 HD
        go_wp2_with fail
        refine Calls.mono (note_any R _ _ _ t _ w3 R3 (by simp only [ByteArray.size_append, sz_arr, List.size_toArray, List.length_cons, List.length_nil]; omega)) ?_
        rintro e' w4 ⟨rfl, rfl⟩
        have hge3 : (Value.slice (some ⟨ge, 0, none⟩) ne ce).ownBlock ≠ some R := fun h => hgeR (Option.some.inj h)
        have R4 := blk_set R3 3 (.string (t ++ (⟨#[114, 32]⟩ ++ ⟨dl.toArray⟩) ++ ⟨#[10]⟩))
        have oE4 := ownsRow_setCell_other oE3 (a := ⟨R, 3, none⟩) hge3 (.string (t ++ (⟨#[114, 32]⟩ ++ ⟨dl.toArray⟩) ++ ⟨#[10]⟩))
        have oL4 := ownsRow_setCell_other oL3 (a := ⟨R, 3, none⟩) (fun h => by have h9 : gl2 = R := Option.some.inj h; have := blk_lt HR.out; have := HB0.out.size; omega) (.string (t ++ (⟨#[114, 32]⟩ ++ ⟨dl.toArray⟩) ++ ⟨#[10]⟩))
        have T4 := T3.set ⟨R, 3, none⟩ (.string (t ++ (⟨#[114, 32]⟩ ++ ⟨dl.toArray⟩) ++ ⟨#[10]⟩)) (fun _ => .inl rfl)
        clear R3 oE3 oL3 T3
        generalize htx : (t ++ (⟨#[114, 32]⟩ ++ ⟨dl.toArray⟩) ++ ⟨#[10]⟩ : ByteArray) = tx at R4 oE4 oL4 T4 ⊢
        have HTX : Hid (type_of% htx) := htx
        clear htx
        go_wp2_with fail
        refine Calls.mono (enterR_any R ne c0 (.slice (some ⟨ge, 0, none⟩) ne ce) (.int .i64 lk) (.string tx) (.slice (some ⟨gl2, 0, none⟩) k cl2) _ rd true _ R4 oE4 (by omega) rfl) ?_
        rintro e' w5 ⟨rfl, g, cap', hR5, own5, T5, hat⟩
        have hws := HB0.out.size
        have hRl := blk_lt HR.out
        have oL6 := owns_turn oL4 T5 (fun x hx => by
          have hx' : gl2 = x := Option.some.inj hx
          subst hx'
          rintro (h | h)
          · omega
          · have h' : ge = gl2 := Option.some.inj h
            omega)
        have T6 := T4.trans (T5.mono (fun x _ hx => hx.imp id (fun h => (Option.some.inj h).symm)))
        have hs4 := T4.size
        go_wp2
        go_ret2
        rw [← HTX.out, ← HDZ.out] at hR5
        exact ⟨rfl, g, cap', gl2, cl2, hR5, own5, owns_le oL6 hws, T6, hat.imp (fun h => (Option.some.inj h).symm) (fun h => Nat.le_trans hs4 h)⟩
end Go.Proofs.YtjnmoddcodnadaaGreatDoor
