import Derived.Test.YtjnmoddcodnadaaGreatDoorG27
import Derived.Test.YtjnmoddcodnadaaGreatDoorG25
set_option linter.unusedVariables false
set_option linter.unusedSimpArgs false
namespace Go.Proofs.YtjnmoddcodnadaaGreatDoor
open Go.RowKit Go.Annal Go.Sort
theorem owns_ofL {w : World} {B n g cap : Nat} {L : List Ln} (h : w.ownsRow B 58 2 (.slice (some ⟨g, 0, none⟩) n cap) n (cells2 L)) (hl : L.length = n) : LinesAt w g 0 n (lnA L) (lnM L) ∧ B ≤ g ∧ n ≤ cap ∧ g < w.heap.size := by
  rcases Nat.eq_zero_or_pos n with rfl | hn
  · rcases h.2 with ⟨e, _⟩ | ⟨g', cap', cur, e, hB, hc, hr⟩
    · cases e
    · injection e with e1 _ e3
      injection e1 with e1
      injection e1 with e1
      subst e1
      exact ⟨⟨fun k hk => by omega, fun k hk => by omega⟩, hB, by omega, blk_lt hc⟩
  · have h' := h
    rw [← hl, ← lineCells_ofL L, hl] at h'
    obtain ⟨g', cap', e, hB, hc, hL, cs, hcs⟩ := owns_lines h' hn
    injection e with e1 _ e3
    injection e1 with e1
    injection e1 with e1
    subst e1; subst e3
    exact ⟨hL, hB, hc, blk_lt hcs⟩
theorem owns_tail {w : World} {B g n cap size o : Nat} {e : TypeId} {xs : List Value} (h : w.ownsRow B e size (.slice (some ⟨g, 0, none⟩) n cap) n xs) (ho : n * size ≤ o) (vs : List Value) : (w.setCells g o vs).ownsRow B e size (.slice (some ⟨g, 0, none⟩) n cap) n xs := by
  refine ⟨h.1, ?_⟩
  rcases h.2 with ⟨e, _⟩ | ⟨g', cap', cur, e, hB, hc, h1, h2, h3, h4⟩
  · cases e
  · injection e with e1 _ e3
    injection e1 with e1
    injection e1 with e1
    subst e1; subst e3
    obtain ⟨cs', hc', hs'⟩ := setCells_blk vs o hc
    refine .inr ⟨g, cap, cs', rfl, hB, hc', h1, h2, by rw [hs', h3], ?_⟩
    rw [← h4]
    apply List.ext_getElem?
    intro q
    by_cases hq : q < n * size
    · rw [List.getElem?_take_of_lt hq, List.getElem?_take_of_lt hq, Array.getElem?_toList, Array.getElem?_toList, ← blk_cell hc' q, ← blk_cell hc q]
      exact World.cell?_setCells_out g vs o w ⟨g, q, none⟩ (fun _ _ => .inl (by show q < o; omega))
    · rw [List.getElem?_eq_none (by simp; omega), List.getElem?_eq_none (by simp; omega)]
theorem lnA_at (L : List Ln) (j : Nat) (h : j < L.length) : lnA L j = L[j].1 ∧ lnM L j = L[j].2 := by
  simp [lnA, lnM, List.getD_eq_getElem?_getD, List.getElem?_eq_getElem h]
theorem filter_snoc (p : Ln → Bool) (L : List Ln) (j : Nat) (h : j < L.length) : (L.take (j + 1)).filter (fun x => !p x) = (L.take j).filter (fun x => !p x) ++ if p L[j] then [] else [L[j]] := by
  rw [List.take_succ_eq_append_getElem h, List.filter_append]
  congr 1
  cases hp : p L[j] <;> simp [hp]
theorem first_hit (q : Nat → Bool) : ∀ n, (∀ j, j < n → q j = false) ∨ ∃ i, i < n ∧ q i = true ∧ ∀ j, j < i → q j = false
  | 0 => .inl (fun j h => by omega)
  | n + 1 => by
    rcases first_hit q n with h | ⟨i, hi, h⟩
    · cases hq : q n
      · exact .inl (fun j hj => by
          by_cases e : j = n
          · subst e; exact hq
          · exact h j (by omega))
      · exact .inr ⟨n, by omega, hq, h⟩
    · exact .inr ⟨i, by omega, h⟩
set_option maxHeartbeats 2000000 in
set_option maxRecDepth 100000 in
theorem deleteL_any (G : Nat) (ba lb : Array Value) (base g n cap : Nat) (L : List Ln) (p : Ln → Bool) (w : World) (eg : ∀ args w, (callFunc G args).run Tryz.prog w = .ok (.enter G args) w)
    (hown : w.ownsRow base 58 2 (.slice (some ⟨g, 0, none⟩) n cap) n (cells2 L)) (hl : L.length = n) (hn : n ≤ 100)
    (hC : ∀ y ∈ L, ∀ W, Turn (fun b => b = g) w W → Calls Tryz.prog G (ba ++ #[.agg #[.string y.1, .int .i64 y.2]] ++ lb) W fun r w' => r = .returned (.bool (p y)) ∧ Below W.heap.size W w') :
    Calls Tryz.prog 145 #[.slice (some ⟨g, 0, none⟩) n cap, .func (.func G) ba lb] w fun r w' => r = .returned (.slice (some ⟨g, 0, none⟩) (L.filter (fun x => !p x)).length cap) ∧
      Hid (w'.ownsRow base 58 2 (.slice (some ⟨g, 0, none⟩) (L.filter (fun x => !p x)).length cap) (L.filter (fun x => !p x)).length (cells2 (L.filter (fun x => !p x))) ∧ Turn (fun b => b = g) w w') := by
  obtain ⟨hL, hB, hcap, hglt⟩ := owns_ofL hown hl
  have CI : Hid (type_of% (idxL_any G ba lb g 0 n cap (lnA L) (lnM L) (fun j => p (L.getD j (⟨#[]⟩, 0))) w eg hL (by omega) (fun i hi W hW => by
    have hy := hC L[i] (List.getElem_mem (by omega)) W (Turn.of_below hW)
    have e := lnA_at L i (by omega)
    rw [e.1, e.2]
    have e2 : L.getD i (⟨#[]⟩, 0) = L[i] := by simp [List.getD_eq_getElem?_getD, List.getElem?_eq_getElem (show i < L.length by omega)]
    rw [e2]; exact hy))) := idxL_any G ba lb g 0 n cap (lnA L) (lnM L) (fun j => p (L.getD j (⟨#[]⟩, 0))) w eg hL (by omega) (fun i hi W hW => by
    have hy := hC L[i] (List.getElem_mem (by omega)) W (Turn.of_below hW)
    have e := lnA_at L i (by omega)
    rw [e.1, e.2]
    have e2 : L.getD i (⟨#[]⟩, 0) = L[i] := by simp [List.getD_eq_getElem?_getD, List.getElem?_eq_getElem (show i < L.length by omega)]
    rw [e2]; exact hy)
  have HG : Hid (∀ i (h : i < L.length), L.getD i (⟨#[]⟩, 0) = L[i]) := fun i h => by simp [List.getD_eq_getElem?_getD, List.getElem?_eq_getElem h]
  have HO : Hid (type_of% hown) := hown
  have HC : Hid (type_of% hC) := hC
  clear hown hC hL
  rcases first_hit (fun j => p (L.getD j (⟨#[]⟩, 0))) n with hall | ⟨i0, hi0, hit, hbe⟩
  · have CA : Hid (Calls Tryz.prog 136 #[.slice (some ⟨g, 0, none⟩) n cap, .func (.func G) ba lb] w fun r w' => r = .returned (.int .i64 (-1)) ∧ Below w.heap.size w w') := by
      refine CI.out.mono ?_
      rintro r w' ⟨h1, hb⟩
      rcases h1 with ⟨rfl, _⟩ | ⟨i, hi, rfl, h1, _⟩
      · exact ⟨rfl, hb⟩
      · rw [hall i hi] at h1; cases h1
    have hF : L.filter (fun x => !p x) = L := by
      rw [List.filter_eq_self]
      intro y hy
      obtain ⟨i, hi, rfl⟩ := List.mem_iff_getElem.1 hy
      have this : p (L.getD i (⟨#[]⟩, 0)) = false := hall i (by omega)
      rw [HG.out i hi] at this
      rw [this]; rfl
    rw [hF, hl]
    clear hall CI HC hF
    go_enter Tryz.func145, Tryz.ntmps145
    go_wp2_with (go_at_call 136; refine Calls.mono CA.out ?_; rintro e w1 ⟨rfl, hb1⟩)
    go_ret
    exact ⟨rfl, ⟨owns_mv HO.out hb1, Turn.of_below hb1⟩⟩
  · have CA : Hid (Calls Tryz.prog 136 #[.slice (some ⟨g, 0, none⟩) n cap, .func (.func G) ba lb] w fun r w' => r = .returned (.int .i64 i0) ∧ Below w.heap.size w w') := by
      refine CI.out.mono ?_
      rintro r w' ⟨h1, hb⟩
      rcases h1 with ⟨rfl, h1⟩ | ⟨i, hi, rfl, h1, h2⟩
      · have this : p (L.getD i0 (⟨#[]⟩, 0)) = false := h1 i0 hi0; rw [hit] at this; cases this
      · have : i = i0 := by
          rcases Nat.lt_trichotomy i i0 with h | h | h
          · have this : p (L.getD i (⟨#[]⟩, 0)) = false := hbe i h; rw [h1] at this; cases this
          · exact h
          · have this : p (L.getD i0 (⟨#[]⟩, 0)) = false := h2 i0 h; rw [hit] at this; cases this
        subst this
        exact ⟨rfl, hb⟩
    have hS : (L.take (i0 + 1)).filter (fun x => !p x) = L.take i0 := by
      rw [filter_snoc p L i0 (by omega)]
      have hit' : p (L.getD i0 (⟨#[]⟩, 0)) = true := hit
      rw [HG.out i0 (by omega)] at hit'
      rw [if_pos hit', List.append_nil, List.filter_eq_self]
      intro y hy
      obtain ⟨i, hi, rfl⟩ := List.mem_iff_getElem.1 hy
      have hi' : i < i0 := by simp at hi; omega
      have this : p (L.getD i (⟨#[]⟩, 0)) = false := hbe i hi'
      rw [HG.out i (by omega)] at this
      rw [List.getElem_take, this]; rfl
    have HS : Hid (type_of% hS) := hS
    have hne1 : ((i0 : Int) == -1) = false := beq_eq_false_iff_ne.2 (by omega)
    clear hit hbe CI hS
    go_enter Tryz.func145, Tryz.ntmps145
    go_wp2_with (go_at_call 136; refine Calls.mono CA.out ?_; rintro e w1 ⟨rfl, hb1⟩)
    have HO1 : Hid (type_of% (owns_mv HO.out hb1)) := owns_mv HO.out hb1
    have HT1 : Hid (Turn (fun b => b = g) w w1) := Turn.of_below hb1
    clear hb1 HO CA
    go_loopw [5, 6, 7] (fun s5 s6 _ wr => ∃ (i j : Nat) (R : List Ln), s5 = .int .i64 i ∧ s6 = .int .i64 j ∧ i < j ∧ j ≤ n ∧ Hid (R.length = n ∧ R.take i = (L.take j).filter (fun x => !p x) ∧ R.drop j = L.drop j) ∧ Hid (wr.ownsRow base 58 2 (.slice (some ⟨g, 0, none⟩) n cap) n (cells2 R)) ∧ Hid (Turn (fun b => b = g) w wr)) (fun _ s6 _ _ => n - (intOf s6).toNat)
    case atStart => exact ⟨i0, i0 + 1, L, rfl, by go_num, by omega, by omega, ⟨hl, HS.out.symm, rfl⟩, HO1, HT1⟩
    case round =>
      obtain ⟨i, j, R, rfl, rfl, hij, hjn, hR, ho, ht⟩ := hrel
      clear HO1 HT1
      have hRl := hR.out.1
      by_cases hlt : j < n
      · have hlt' : (j : Int) < (n : Int) := by omega
        have hj0 : (0 : Int) ≤ (j : Int) := by omega
        have hin' : (i : Int) < (n : Int) := by omega
        have hi0' : (0 : Int) ≤ (i : Int) := by omega
        have hRj : R[j]'(by omega) = L[j]'(by omega) := by
          have := congrArg (fun l => l[0]?) hR.out.2.2
          simp only [List.getElem?_drop, Nat.add_zero] at this
          rw [List.getElem?_eq_getElem (by omega), List.getElem?_eq_getElem (by omega)] at this
          exact Option.some.inj this
        have hc := cells2_at R j (by omega)
        rw [hRj] at hc
        have cj0 := (ho.out.cellAt (j * 2) (by omega)).trans hc.1
        have cj1 := (ho.out.cellAt (j * 2 + 1) (by omega)).trans hc.2
        have CX : Hid (type_of% (HC.out (L[j]'(by omega)) (List.getElem_mem (by omega)) (wr.alloc (.cells #[.string (L[j]'(by omega)).1, .int .i64 (L[j]'(by omega)).2] 58)) (ht.out.alloc _))) := HC.out _ (List.getElem_mem (by omega)) _ (ht.out.alloc _)
        have hfs := filter_snoc p L j (by omega)
        have HFS : Hid (type_of% hfs) := hfs
        generalize hy : L[j]'(by omega) = y at *
        generalize hpy : p y = py at CX HFS
        have hbv := heap_alloc_new wr (.cells #[.string y.1, .int .i64 y.2] 58)
        have HW : Hid (∀ w2, Below (wr.alloc (.cells #[.string y.1, .int .i64 y.2] 58)).heap.size (wr.alloc (.cells #[.string y.1, .int .i64 y.2] 58)) w2 → w2.cell? ⟨wr.heap.size, 0, none⟩ = some (.string y.1) ∧ w2.cell? ⟨wr.heap.size, 1, none⟩ = some (.int .i64 y.2) ∧ Hid (w2.ownsRow base 58 2 (.slice (some ⟨g, 0, none⟩) n cap) n (cells2 R)) ∧ Hid (Turn (fun b => b = g) w w2) ∧ ∃ u0 u1, w2.cell? ⟨g, i * 2, none⟩ = some u0 ∧ w2.cell? ⟨g, i * 2 + 1, none⟩ = some u1 ∧ w2.frozen? ⟨g, i * 2, none⟩ = false ∧ w2.frozen? ⟨g, i * 2 + 1, none⟩ = false ∧ Hid (∀ w3, w3 = (w2.setCell ⟨g, i * 2, none⟩ (.string y.1)).setCell ⟨g, i * 2 + 1, none⟩ (.int .i64 y.2) → w3.ownsRow base 58 2 (.slice (some ⟨g, 0, none⟩) n cap) n (cells2 (R.set i y)) ∧ Turn (fun b => b = g) w w3)) := by
          intro w2 hb2
          have hbv2 := (hb2.block _ (blk_lt hbv)).trans hbv
          have hk := ((Grew.refl wr).alloc (.cells #[.string y.1, .int .i64 y.2] 58)).below
          have hb02 := hk.trans (hb2.mono hk.size)
          have ho2 := owns_mv ho.out hb02
          have ht2 := ht.out.below hb02
          have hci := cells2_at R i (by omega)
          refine ⟨blk_cell' hbv2 rfl, blk_cell' hbv2 rfl, ho2, ht2, _, _, (ho2.cellAt (i * 2) (by omega)).trans hci.1, (ho2.cellAt (i * 2 + 1) (by omega)).trans hci.2, ho2.frozenAt _, ho2.frozenAt _, ?_⟩
          rintro w3 rfl
          have s1 := ho2.stored (i * 2) (.string y.1)
          have s2 := s1.1.stored (i * 2 + 1) (.int .i64 y.2)
          refine ⟨?_, (ht2.set _ _ (fun _ => rfl)).set _ _ (fun _ => rfl)⟩
          rw [← cells2_set R i (by omega) y]
          exact s2.1
        clear hbv hc hRj
        cases py
        · have HN : Hid ((R.set i y).length = n ∧ (R.set i y).take (i + 1) = (L.take (j + 1)).filter (fun x => !p x) ∧ (R.set i y).drop (j + 1) = L.drop (j + 1)) := by
            refine ⟨by simp [hRl], ?_, ?_⟩
            · rw [HFS.out, ← hR.out.2.1]
              simp only [Bool.false_eq_true, if_false]
              rw [List.take_succ_eq_append_getElem (by simp; omega), List.getElem_set_self, List.take_set_of_le (by omega)]
            · rw [List.drop_set_of_lt (by omega)]
              have := congrArg (List.drop 1) hR.out.2.2
              rwa [List.drop_drop, List.drop_drop] at this
          go_wp2_with (go_at_fn G; refine Calls.mono CX.out ?_; rintro e w2 ⟨rfl, hb2⟩; obtain ⟨v0, v1, ho2, ht2, u0, u1, x0, x1, x2, x3, hq⟩ := HW.out w2 hb2)
          go_roundw
          case rel => exact ⟨i + 1, j + 1, R.set i y, by go_num, by go_num, by omega, by omega, HN.out, (hq.out _ rfl).1, (hq.out _ rfl).2⟩
          case measure => simp [intOf]; omega
        · have HN : Hid (R.take i = (L.take (j + 1)).filter (fun x => !p x) ∧ R.drop (j + 1) = L.drop (j + 1)) := by
            refine ⟨by rw [HFS.out, hR.out.2.1]; simp, ?_⟩
            have := congrArg (List.drop 1) hR.out.2.2
            rwa [List.drop_drop, List.drop_drop] at this
          go_wp2_with (go_at_fn G; refine Calls.mono CX.out ?_; rintro e w2 ⟨rfl, hb2⟩; obtain ⟨v0, v1, ho2, ht2, u0, u1, x0, x1, x2, x3, hq⟩ := HW.out w2 hb2)
          go_roundw
          case rel => exact ⟨i, j + 1, R, rfl, by go_num, by omega, by omega, ⟨hRl, HN.out⟩, ho2, ht2⟩
          case measure => simp [intOf]; omega
      · have hlt' : ¬ (j : Int) < (n : Int) := by omega
        obtain rfl : j = n := by omega
        have hij' : (i : Int) ≤ (j : Int) := by omega
        have hi0' : (0 : Int) ≤ (i : Int) := by omega
        have hic : (i : Int) ≤ (cap : Int) := by omega
        have hjc : (j : Int) ≤ (cap : Int) := by omega
        obtain ⟨vs, hvl, hcl⟩ : ∃ vs : List Value, vs.length = (j - i) * 2 ∧ ∀ ty, (Builtin.clear_ #[54] ty #[.slice (some ⟨g, i * 2, none⟩) (j - i) (cap - i)]).run Tryz.prog wr = .ok (.tuple #[]) (wr.setCells g (i * 2) vs) := by
          obtain ⟨vs, h1, h2⟩ := clear_lines wr 0 g (i * 2) (j - i) (cap - i) (by omega) (fun q hq => by rw [ho.out.cellAt (i * 2 + q) (by omega), List.getElem?_eq_getElem (by rw [cells2_len]; omega)]; rfl) (fun q hq => ho.out.frozenAt _)
          exact ⟨vs, h1, fun ty => h2⟩
        have hF : L.filter (fun x => !p x) = R.take i := by
          rw [hR.out.2.1, List.take_of_length_le (by omega)]
        have hFl : (L.filter (fun x => !p x)).length = i := by rw [hF]; simp; omega
        have HF : Hid (type_of% hF) := hF
        have HFl : Hid (type_of% hFl) := hFl
        clear hF hFl
        go_wp2
        go_ret
        refine ⟨by rw [HFl.out]; rfl, ?_⟩
        have hcut := owns_tail (o := i * 2) (owns_cut ho.out hRl (Nat.le_of_lt hij)) (Nat.le_refl _) vs
        refine ⟨?_, Turn.setCells (S := fun b => b = g) (fun _ => rfl) vs (i * 2) ht.out⟩
        rw [HFl.out, HF.out]
        exact hcut
end Go.Proofs.YtjnmoddcodnadaaGreatDoor
