import Derived.Test.YtjnmoddcodnadaaGreatDoorG33
set_option linter.unusedVariables false
set_option linter.unusedSimpArgs false
namespace Go.Annal
/-- The number that a word is, if it is one: what would be written for it, of at most ten digits. -/
def numB (x : ByteArray) : Option Int :=
  if (Lib.trimPrefix x.data.toList [45]).length > 10 then none
  else match Lib.atoiAll x.data.toList with
    | .ok v => if (⟨(Lib.itoa v).toArray⟩ : ByteArray) = x then some v else none
    | _ => none
end Go.Annal
namespace Go.Proofs.YtjnmoddcodnadaaGreatDoor
open Go.RowKit Go.Annal Go.Sort
theorem beq_bytes (a b : ByteArray) : (a.toList == b.toList) = decide (a = b) := by
  rw [Bool.eq_iff_iff, decide_eq_true_iff]
  constructor
  · intro h
    have := eq_of_beq h
    exact ba_ext this
  · rintro rfl; simp
def NumIs (x : ByteArray) (r : Ending) : Prop := ∃ n b, r = .returned (.tuple #[.int .i64 n, .bool b]) ∧ b = (numB x).isSome ∧ ∀ v, numB x = some v → n = v
theorem numIs_no {x : ByteArray} (h : numB x = none) (n : Int) : NumIs x (.returned (.tuple #[.int .i64 n, .bool false])) := ⟨n, false, rfl, by rw [h]; rfl, fun v e => by rw [h] at e; cases e⟩
set_option maxHeartbeats 1000000 in
set_option maxRecDepth 100000 in
theorem number_any (x : ByteArray) (w : World) (ht : Tabs w) (hx : x.size ≤ 1000000000000) :
    Calls Tryz.prog 99 #[.string x] w fun r w' => NumIs x r ∧ Below w.heap.size w w' := by
  obtain ⟨y, hy⟩ : ∃ y : ByteArray, y = ⟨(Lib.trimPrefix x.data.toList [45]).toArray⟩ := ⟨_, rfl⟩
  have hys : y.size = (Lib.trimPrefix x.data.toList [45]).length := by rw [hy]; show (Lib.trimPrefix x.data.toList [45]).toArray.size = _; rw [List.size_toArray]
  have CT : Hid (Calls Tryz.prog 133 #[.string x, .string ⟨#[45]⟩] w fun r w' => r = .returned (.string y) ∧ w' = w) := by
    rw [hy]; exact Any.strings_TrimPrefix Tryz.trimL x ⟨#[45]⟩ w
  clear hy
  by_cases hl : (Lib.trimPrefix x.data.toList [45]).length > 10
  · have hN : numB x = none := by unfold numB; rw [if_pos hl]
    have hl' : (y.size : Int) > 10 := by omega
    have HN : Hid (type_of% hN) := hN
    clear hys hl hN
    go_enter Tryz.func99, Tryz.ntmps99
    go_wp2_with (go_at_call 133; with_reducible refine Calls.mono CT.out ?_; rintro e wx ⟨rfl, hw⟩; rw [hw]; clear hw wx)
    go_ret2
    exact ⟨numIs_no HN.out 0, Below.refl _ _⟩
  · have hl' : ¬ (y.size : Int) > 10 := by omega
    have hN0 : numB x = (match Lib.atoiAll x.data.toList with | .ok v => if (⟨(Lib.itoa v).toArray⟩ : ByteArray) = x then some v else none | _ => none) := by unfold numB; rw [if_neg hl]
    clear hys hl
    cases hA : Lib.atoiAll x.data.toList with
    | ok v =>
      rw [hA] at hN0
      have hvb := Lib.atoiAll_bounds hA
      have CA : Hid (Calls Tryz.prog 134 #[.string x] w fun r w' => r = .returned (.tuple #[.int .i64 v, .nilIface]) ∧ Below w.heap.size w w') := by
        refine (Any.strconv_Atoi_ok Tryz.atoiL x (by omega) v hA w).mono ?_
        rintro r w' ⟨rfl, hw⟩
        refine ⟨rfl, ?_⟩
        rcases hw with rfl | ⟨t, rfl⟩
        · exact Below.refl _ _
        · exact Lib.bytesWorld_below w _ t
      obtain ⟨z, hz⟩ : ∃ z : ByteArray, (⟨(Lib.itoa v).toArray⟩ : ByteArray) = z := ⟨_, rfl⟩
      have CI : Hid (∀ W, Below w.heap.size w W → Calls Tryz.prog 135 #[.int .i64 v] W fun r w' => r = .returned (.string z) ∧ Below W.heap.size W w') := fun W hW => by
        refine (Any.strconv_Itoa Tryz.itoaL v hvb.1 hvb.2 W (ht.below hW).pow).mono ?_
        rintro r w' ⟨rfl, k, os, rfl⟩
        rw [← hz]
        exact ⟨rfl, Lib.below_grow _ W (Nat.le_refl _) k os⟩
      have HN : Hid (∀ b, b = decide (z = x) → NumIs x (.returned (.tuple #[.int .i64 v, .bool b]))) := fun b hb => by
        have e : numB x = if z = x then some v else none := by rw [hN0]; show (if (⟨(Lib.itoa v).toArray⟩ : ByteArray) = x then some v else none) = _; rw [hz]
        refine ⟨v, b, rfl, ?_, fun v' e' => ?_⟩
        · rw [e, hb]; split <;> simp_all
        · rw [e] at e'; split at e'
          · exact Option.some.inj e'
          · cases e'
      clear hN0 hA hvb ht hz
      go_enter Tryz.func99, Tryz.ntmps99
      go_wp2_with (first
        | (go_at_call 133; with_reducible refine Calls.mono CT.out ?_; rintro e wx ⟨rfl, hw⟩; rw [hw]; clear hw wx)
        | (go_at_call 134; with_reducible refine Calls.mono CA.out ?_; rintro e w1 ⟨rfl, hb1⟩)
        | (go_at_call 135; with_reducible refine Calls.mono (CI.out _ hb1) ?_; rintro e w2 ⟨rfl, hb2⟩))
      go_ret2
      exact ⟨HN.out _ (beq_bytes z x), hb1.trans (hb2.mono hb1.size)⟩
    | «syntax» =>
      rw [hA] at hN0
      obtain ⟨tp, p, hv⟩ := ht.syn
      have CA : Hid (Calls Tryz.prog 134 #[.string x] w fun r w' => ∃ n t v, r = .returned (.tuple #[.int .i64 n, .iface t v]) ∧ Below w.heap.size w w') := by
        refine (Any.strconv_Atoi_syntax_var Tryz.atoiL x (by omega) hA tp p w hv).mono ?_
        rintro r w' ⟨N, rfl, _, _, hb⟩
        exact ⟨_, _, _, rfl, hb⟩
      have HN : Hid (numB x = none) := hN0
      clear hN0 hA hv ht
      go_enter Tryz.func99, Tryz.ntmps99
      go_wp2_with (first
        | (go_at_call 133; with_reducible refine Calls.mono CT.out ?_; rintro e wx ⟨rfl, hw⟩; rw [hw]; clear hw wx)
        | (go_at_call 134; with_reducible refine Calls.mono CA.out ?_; rintro e w1 ⟨n, t, v, rfl, hb1⟩))
      go_ret2
      exact ⟨numIs_no HN.out n, hb1⟩
    | range =>
      rw [hA] at hN0
      obtain ⟨tp, p, hv⟩ := ht.rng
      have CA : Hid (Calls Tryz.prog 134 #[.string x] w fun r w' => ∃ n t v, r = .returned (.tuple #[.int .i64 n, .iface t v]) ∧ Below w.heap.size w w') := by
        refine (Any.strconv_Atoi_range_var Tryz.atoiL x (by omega) hA tp p w hv).mono ?_
        rintro r w' ⟨N, rfl, _, _, hb⟩
        exact ⟨_, _, _, rfl, hb⟩
      have HN : Hid (numB x = none) := hN0
      clear hN0 hA hv ht
      go_enter Tryz.func99, Tryz.ntmps99
      go_wp2_with (first
        | (go_at_call 133; with_reducible refine Calls.mono CT.out ?_; rintro e wx ⟨rfl, hw⟩; rw [hw]; clear hw wx)
        | (go_at_call 134; with_reducible refine Calls.mono CA.out ?_; rintro e w1 ⟨n, t, v, rfl, hb1⟩))
      go_ret2
      exact ⟨numIs_no HN.out n, hb1⟩
end Go.Proofs.YtjnmoddcodnadaaGreatDoor
namespace Go.Annal
def wd (x : ByteArray) : ByteArray := ⟨(Lib.cut x.data.toList [32]).1.toArray⟩
def rs (x : ByteArray) : ByteArray := ⟨(Lib.cut x.data.toList [32]).2.1.toArray⟩
def fd (x : ByteArray) : Bool := (Lib.cut x.data.toList [32]).2.2
end Go.Annal
namespace Go.Proofs.YtjnmoddcodnadaaGreatDoor
open Go.RowKit Go.Annal Go.Sort
/-- A line of a text, of which words are taken. -/
def LineIs (w : World) (l : Nat) (rest : ByteArray) (more wrong : Bool) : Prop := w.heap[l]? = some (.cells #[.string rest, .bool more, .bool wrong] 172 (0, 0))
theorem Tryz.gMax1 : Tryz.prog.globalNamed "internal/bytealg.MaxLen" = some (Tryz.cutL_ren.g 1) := by kernel_rfl
theorem line_notMax {w : World} {l : Nat} {rest : ByteArray} {more wrong : Bool} (h : LineIs w l rest more wrong) (ht : Tabs w) : Tryz.cutL_ren.g 1 ≠ l := fun e => by
  obtain ⟨m, hm⟩ := ht.mx
  have := World.var?_cell Tryz.gMax1 hm 0
  rw [e] at this
  rw [blk_cell' h (o := 0) rfl] at this
  simp at this
set_option maxHeartbeats 1000000 in
theorem demand_any (l : Nat) (rest : ByteArray) (more wrong right : Bool) (w : World) (h : LineIs w l rest more wrong) :
    Calls Tryz.prog 97 #[.pointer (some ⟨l, 0, none⟩), .bool right] w fun r w' => r = .returned (.tuple #[]) ∧ w' = w.setCell ⟨l, 2, none⟩ (.bool (wrong || !right)) := by
  have c2 := blk_cell' h (o := 2) rfl
  have f2 := blk_free h 2
  cases wrong <;> cases right
  all_goals
    go_enter Tryz.func97, Tryz.ntmps97
    go_wp2
    go_end0
    exact ⟨rfl, rfl⟩
set_option maxHeartbeats 1000000 in
theorem of_any (s : ByteArray) (w : World) : Calls Tryz.prog 53 #[.string s] w fun r w' => r = .returned (.pointer (some ⟨w.heap.size, 0, none⟩)) ∧ w' = w.alloc (.cells #[.string s, .bool true, .bool false] 172) := by
  go_enter Tryz.func53, Tryz.ntmps53
  go_wp2
  go_ret
  exact ⟨rfl, rfl⟩
theorem LineIs.set2 {w : World} {l : Nat} {rest : ByteArray} {more wrong : Bool} (h : LineIs w l rest more wrong) (b : Bool) : LineIs (w.setCell ⟨l, 2, none⟩ (.bool b)) l rest more b := blk_set h 2 _
theorem LineIs.mv {w w' : World} {l : Nat} {rest : ByteArray} {more wrong : Bool} (h : LineIs w l rest more wrong) (hb : Below w.heap.size w w') : LineIs w' l rest more wrong := (hb.block _ (blk_lt h)).trans h
theorem LineIs.turn {S : Nat → Prop} {w w' : World} {l : Nat} {rest : ByteArray} {more wrong : Bool} (h : LineIs w l rest more wrong) (ht : Turn S w w') (hs : ¬ S l) : LineIs w' l rest more wrong := ht.blk h hs
theorem LineIs.fz {w : World} {l : Nat} {rest : ByteArray} {more wrong : Bool} (h : LineIs w l rest more wrong) (i : Nat) : w.frozen? ⟨l, i, none⟩ = false := blk_free h i
theorem LineIs.c0 {w : World} {l : Nat} {rest : ByteArray} {more wrong : Bool} (h : LineIs w l rest more wrong) : w.cell? ⟨l, 0, none⟩ = some (.string rest) := blk_cell' h rfl
theorem LineIs.c1 {w : World} {l : Nat} {rest : ByteArray} {more wrong : Bool} (h : LineIs w l rest more wrong) : w.cell? ⟨l, 1, none⟩ = some (.bool more) := blk_cell' h rfl
theorem LineIs.c2 {w : World} {l : Nat} {rest : ByteArray} {more wrong : Bool} (h : LineIs w l rest more wrong) : w.cell? ⟨l, 2, none⟩ = some (.bool wrong) := blk_cell' h rfl
theorem LineIs.lt {w : World} {l : Nat} {rest : ByteArray} {more wrong : Bool} (h : LineIs w l rest more wrong) : l < w.heap.size := blk_lt h
theorem cut_any (x : ByteArray) (w : World) (m : Int) (hx : x.size < 4294967281) (hm : w.cell? ⟨Tryz.cutL_ren.g 1, 0, none⟩ = some (.int .i64 m)) :
    Calls Tryz.prog 98 #[.string x, .string ⟨#[32]⟩] w fun r w' => r = .returned (.tuple #[.string (wd x), .string (rs x), .bool (fd x)]) ∧ ∃ n, w' = w.drewN n :=
  Any.strings_Cut Tryz.cutL x ⟨#[32]⟩ m w hx hm
set_option maxHeartbeats 1000000 in
set_option maxRecDepth 100000 in
theorem word_any (l : Nat) (rest : ByteArray) (more wrong : Bool) (w : World) (h : LineIs w l rest more wrong) (ht : Tabs w) (hx : rest.size < 4294967281) :
    Calls Tryz.prog 54 #[.pointer (some ⟨l, 0, none⟩)] w fun r w' => r = .returned (.string (wd rest)) ∧ Hid (LineIs w' l (rs rest) (fd rest) (wrong || !more) ∧ Turn (fun b => b = l) w w') := by
  obtain ⟨m, hm⟩ := ht.mx
  have hne := line_notMax h ht
  have cM : w.cell? ⟨Tryz.cutL_ren.g 1, 0, none⟩ = some (.int .i64 m) := by have := World.var?_cell Tryz.gMax1 hm 0; exact this
  have c1 : w.cell? ⟨l, 1, none⟩ = some (.bool more) := blk_cell' h rfl
  have C1 : Hid (type_of% (demand_any l rest more wrong more w h)) := demand_any l rest more wrong more w h
  have hT1 : Turn (fun b => b = l) w (w.setCell ⟨l, 2, none⟩ (.bool (wrong || !more))) := (Turn.refl _ _).set _ _ (fun _ => rfl)
  have h1 := h.set2 (wrong || !more)
  have cM1 : (w.setCell ⟨l, 2, none⟩ (.bool (wrong || !more))).cell? ⟨Tryz.cutL_ren.g 1, 0, none⟩ = some (.int .i64 m) := (World.cell?_of_block (w := w) (hT1.block _ (World.block_lt_of_cell? _ _ cM) (fun e => hne e))).trans cM
  obtain ⟨W1, hW1⟩ : ∃ W1, w.setCell ⟨l, 2, none⟩ (.bool (wrong || !more)) = W1 := ⟨_, rfl⟩
  rw [hW1] at C1 hT1 h1 cM1
  have C2 : Hid (type_of% (cut_any rest W1 m hx cM1)) := cut_any rest W1 m hx cM1
  have d0 : W1.cell? ⟨l, 0, none⟩ = some (.string rest) := blk_cell' h1 rfl
  have HT1 : Hid (type_of% hT1) := hT1
  have H1 : Hid (type_of% h1) := h1
  clear hm cM hne hW1 cM1 ht hT1 h1
  go_enter Tryz.func54, Tryz.ntmps54
  go_wp2_with (go_at_call 97; with_reducible refine Calls.mono C1.out ?_; rintro e wx ⟨rfl, hw⟩; rw [hw]; clear hw wx)
  with_reducible refine Calls.mono C2.out ?_
  rintro e w2 ⟨rfl, q, hw2⟩
  have h2 : LineIs w2 l rest more (wrong || !more) := by rw [hw2]; exact H1.out.mv (below_drewN W1 q)
  have T2 : Hid (Turn (fun b => b = l) w w2) := by rw [hw2]; exact HT1.out.trans (Turn.of_below (below_drewN W1 q))
  have f0 := h2.fz 0
  have f1 := h2.fz 1
  have k0 := h2.c0
  have k1 := h2.c1
  have H2 : Hid (type_of% h2) := h2
  clear hw2 h2
  go_wp2
  go_ret
  refine ⟨rfl, ?_⟩
  show _ ∧ _
  refine ⟨?_, (T2.out.set _ _ (fun _ => rfl)).set _ _ (fun _ => rfl)⟩
  exact blk_set (blk_set H2.out 0 (.string (rs rest))) 1 (.bool (fd rest))
set_option maxHeartbeats 1000000 in
theorem more_any (l : Nat) (rest : ByteArray) (more wrong : Bool) (w : World) (h : LineIs w l rest more wrong) :
    Calls Tryz.prog 100 #[.pointer (some ⟨l, 0, none⟩)] w fun r w' => r = .returned (.bool (more && !wrong)) ∧ Below w.heap.size w w' := by
  have c1 := h.c1
  have c2 := h.c2
  cases more <;> cases wrong
  all_goals
    go_enter Tryz.func100, Tryz.ntmps100
    go_wp2
    go_ret
    exact ⟨rfl, Below.refl _ _⟩
set_option maxHeartbeats 1000000 in
theorem lineRight_any (l : Nat) (rest : ByteArray) (more wrong : Bool) (w : World) (h : LineIs w l rest more wrong) :
    Calls Tryz.prog 57 #[.pointer (some ⟨l, 0, none⟩)] w fun r w' => r = .returned (.bool (!more && !wrong)) ∧ Below w.heap.size w w' := by
  have c1 := h.c1
  have c2 := h.c2
  cases more <;> cases wrong
  all_goals
    go_enter Tryz.func57, Tryz.ntmps57
    go_wp2
    go_ret
    exact ⟨rfl, Below.refl _ _⟩
theorem wd_size (x : ByteArray) : (wd x).size ≤ x.size := by
  unfold wd
  show (Lib.cut x.data.toList [32]).1.toArray.size ≤ x.data.size
  rw [List.size_toArray, ← Array.length_toList]
  unfold Lib.cut
  split
  · show (List.take _ _).length ≤ _
    rw [List.length_take]; omega
  · exact Nat.le_refl _
theorem rs_size (x : ByteArray) : (rs x).size ≤ x.size := by
  unfold rs
  show (Lib.cut x.data.toList [32]).2.1.toArray.size ≤ x.data.size
  rw [List.size_toArray, ← Array.length_toList]
  unfold Lib.cut
  split
  · show (List.drop _ _).length ≤ _
    rw [List.length_drop]; omega
  · exact Nat.zero_le _
/-- Behind a demand. -/
theorem demanded {l : Nat} {rest : ByteArray} {more wrong : Bool} {w w1 w2 : World} (h1 : LineIs w1 l rest more wrong) (ht : Turn (fun b => b = l) w w1) (hb : Below w1.heap.size w1 w2) (b : Bool) : LineIs (w2.setCell ⟨l, 2, none⟩ (.bool b)) l rest more b ∧ Turn (fun b => b = l) w (w2.setCell ⟨l, 2, none⟩ (.bool b)) :=
  ⟨(h1.mv hb).set2 b, (ht.trans (Turn.of_below hb)).set _ _ (fun _ => rfl)⟩
set_option maxHeartbeats 1000000 in
set_option maxRecDepth 100000 in
theorem lineName_any (l : Nat) (rest : ByteArray) (more wrong : Bool) (w : World) (h : LineIs w l rest more wrong) (ht : Tabs w) (hx : rest.size ≤ 1000000000) :
    Calls Tryz.prog 55 #[.pointer (some ⟨l, 0, none⟩)] w fun r w' => r = .returned (.string (wd rest)) ∧ Hid (LineIs w' l (rs rest) (fd rest) ((wrong || !more) || !(isName (wd rest))) ∧ Turn (fun b => b = l) w w') := by
  have hwx := wd_size rest
  have C1 : Hid (type_of% (word_any l rest more wrong w h ht (by omega))) := word_any l rest more wrong w h ht (by omega)
  have C2 : Hid (∀ W, _) := fun W => right_any (wd rest) W (by omega)
  clear ht h
  go_enter Tryz.func55, Tryz.ntmps55
  go_wp2_with (first
    | (go_at_call 54; with_reducible refine Calls.mono C1.out ?_; rintro e w1 ⟨rfl, h1⟩)
    | (go_at_call 73; with_reducible refine Calls.mono (C2.out _) ?_; rintro e w2 ⟨rfl, hg2⟩))
  with_reducible refine Calls.mono (demand_any l (rs rest) (fd rest) (wrong || !more) (isName (wd rest)) w2 (h1.out.1.mv hg2.below)) ?_
  rintro e w3 ⟨rfl, hw3⟩
  go_wp2
  go_ret
  refine ⟨rfl, ?_⟩
  exact demanded h1.out.1 h1.out.2 hg2.below _
/-- The number that a word is, or any. -/
def NumOf (x : ByteArray) (n : Int) : Prop := ∀ v, numB x = some v → n = v
set_option maxHeartbeats 1000000 in
set_option maxRecDepth 100000 in
theorem lineNumber_any (l : Nat) (rest : ByteArray) (more wrong : Bool) (w : World) (h : LineIs w l rest more wrong) (ht : Tabs w) (hl : ∀ w', Turn (fun b => b = l) w w' → Tabs w') (hx : rest.size ≤ 1000000000) :
    Calls Tryz.prog 56 #[.pointer (some ⟨l, 0, none⟩)] w fun r w' => ∃ n, r = .returned (.int .i64 n) ∧ Hid (NumOf (wd rest) n ∧ LineIs w' l (rs rest) (fd rest) ((wrong || !more) || !(numB (wd rest)).isSome) ∧ Turn (fun b => b = l) w w') := by
  have hwx := wd_size rest
  have C1 : Hid (type_of% (word_any l rest more wrong w h ht (by omega))) := word_any l rest more wrong w h ht (by omega)
  have C2 : Hid (∀ W, Turn (fun b => b = l) w W → Calls Tryz.prog 99 #[.string (wd rest)] W fun r w' => ∃ n b, r = .returned (.tuple #[.int .i64 n, .bool b]) ∧ Hid (b = (numB (wd rest)).isSome ∧ NumOf (wd rest) n ∧ Below W.heap.size W w')) := fun W hW => by
    refine (number_any (wd rest) W (hl W hW) (by omega)).mono ?_
    rintro r w' ⟨⟨n, b, rfl, e1, e2⟩, hb⟩
    exact ⟨n, b, rfl, e1, e2, hb⟩
  clear ht h hl
  go_enter Tryz.func56, Tryz.ntmps56
  go_wp2_with (first
    | (go_at_call 54; with_reducible refine Calls.mono C1.out ?_; rintro e w1 ⟨rfl, h1⟩)
    | (go_at_call 99; with_reducible refine Calls.mono (C2.out _ h1.out.2) ?_; rintro e w2 ⟨n, b, rfl, hq2⟩))
  with_reducible refine Calls.mono (demand_any l (rs rest) (fd rest) (wrong || !more) b w2 (h1.out.1.mv hq2.out.2.2)) ?_
  rintro e w3 ⟨rfl, hw3⟩
  go_wp2
  go_ret
  refine ⟨n, rfl, hq2.out.2.1, ?_⟩
  rw [← hq2.out.1]
  exact demanded h1.out.1 h1.out.2 hq2.out.2.2 _
end Go.Proofs.YtjnmoddcodnadaaGreatDoor
namespace Go.Annal
/-- The lines that the rest of a line tells; none: it tells none. -/
def pairsF : Nat → ByteArray → Bool → Bool → Option (List Ln)
  | 0, _, _, _ => none
  | f + 1, rest, more, wrong =>
    if wrong then none else if !more then some [] else
      if isName (wd rest) && fd rest then
        match numB (wd (rs rest)) with
        | some v => (pairsF f (rs (rs rest)) (fd (rs rest)) false).map ((wd rest, v) :: ·)
        | none => none
      else none
/-- What the rest of a line tells, behind those that were taken. -/
def pairsG (f : Nat) (L : List Ln) (rest : ByteArray) (more wrong : Bool) : Option (List Ln) := (pairsF f rest more wrong).map (L ++ ·)
theorem pairsG_step (f : Nat) (L : List Ln) (rest : ByteArray) :
    pairsG (f + 1) L rest true false = if isName (wd rest) && fd rest && (numB (wd (rs rest))).isSome then pairsG f (L ++ [(wd rest, (numB (wd (rs rest))).getD 0)]) (rs (rs rest)) (fd (rs rest)) false else none := by
  unfold pairsG
  rw [pairsF]
  simp only [Bool.false_eq_true, if_false, Bool.not_true]
  by_cases h : isName (wd rest) && fd rest
  · rw [if_pos h]
    cases hn : numB (wd (rs rest)) with
    | none => simp
    | some x =>
      simp only [Option.isSome_some, Bool.and_true, if_pos h, Option.getD_some]
      cases pairsF f (rs (rs rest)) (fd (rs rest)) false with
      | none => rfl
      | some y => simp
  · rw [if_neg h]
    simp [h]
theorem rs_lt {x : ByteArray} (h : fd x = true) : (rs x).size < x.size := by
  unfold fd at h
  unfold rs
  show (Lib.cut x.data.toList [32]).2.1.toArray.size < x.data.size
  rw [List.size_toArray, ← Array.length_toList]
  unfold Lib.cut at *
  split at h
  · rename_i hi
    rw [if_pos hi]
    show (List.drop _ _).length < _
    rw [List.length_drop]
    cases hx : x.data.toList with
    | nil => rw [hx] at hi; exact absurd hi (by decide)
    | cons a b => simp; omega
  · cases h
theorem rs_none {x : ByteArray} (h : fd x = false) : rs x = ⟨#[]⟩ := by
  unfold fd at h
  unfold rs
  unfold Lib.cut at *
  split at h
  · cases h
  · rename_i hi
    rw [if_neg hi]
theorem pairsG_wrong (f : Nat) (L : List Ln) (rest : ByteArray) (more : Bool) : pairsG f L rest more true = none := by
  unfold pairsG
  cases f with
  | zero => rfl
  | succ f => rw [pairsF]; rfl
theorem pairsG_end (f : Nat) (L : List Ln) (rest : ByteArray) : pairsG (f + 1) L rest false false = some L := by
  unfold pairsG
  rw [pairsF]
  simp
theorem pairs_next {f : Nat} {L : List Ln} {rest : ByteArray} {n : Int} (hf : rest.size < f) (hn : ∀ v, numB (wd (rs rest)) = some v → n = v) :
    ∃ f', (rs (rs rest)).size < f' ∧ pairsG f' (L ++ [(wd rest, n)]) (rs (rs rest)) (fd (rs rest)) ((((false || !true) || !(isName (wd rest))) || !(fd rest)) || !(numB (wd (rs rest))).isSome) = pairsG f L rest true false := by
  have h1 := Go.Proofs.YtjnmoddcodnadaaGreatDoor.rs_size (rs rest)
  obtain ⟨g, rfl⟩ : ∃ g, f = g + 1 := ⟨f - 1, by omega⟩
  rw [pairsG_step]
  by_cases hc : (isName (wd rest) && fd rest && (numB (wd (rs rest))).isSome) = true
  · have hc' := hc
    rw [Bool.and_eq_true, Bool.and_eq_true] at hc'
    obtain ⟨⟨a1, a2⟩, a3⟩ := hc'
    have h2 := rs_lt a2
    obtain ⟨v, hv⟩ := Option.isSome_iff_exists.1 a3
    refine ⟨g, by omega, ?_⟩
    rw [if_pos hc, a1, a2, a3, hn v hv, hv]
    rfl
  · refine ⟨(rs (rs rest)).size + 1, by omega, ?_⟩
    rw [if_neg hc]
    have : ((((false || !true) || !(isName (wd rest))) || !(fd rest)) || !(numB (wd (rs rest))).isSome) = true := by
      revert hc
      cases isName (wd rest) <;> cases fd rest <;> cases (numB (wd (rs rest))).isSome <;> decide
    rw [this, pairsG_wrong]
theorem pairs_less {rest : ByteArray} : (rs (rs rest)).size + (if fd (rs rest) then 1 else 0) < rest.size + 1 := by
  cases h : fd rest
  · rw [rs_none h]
    have : (rs ⟨#[]⟩).size = 0 ∧ fd ⟨#[]⟩ = false := by decide
    rw [this.1, this.2]; simp
  · have h1 := rs_lt h
    have h2 := Go.Proofs.YtjnmoddcodnadaaGreatDoor.rs_size (rs rest)
    cases h3 : fd (rs rest)
    · simp; omega
    · have := rs_lt h3; simp; omega
end Go.Annal
namespace Go.Proofs.YtjnmoddcodnadaaGreatDoor
open Go.RowKit Go.Annal Go.Sort
def sizeAt (w : World) (l : Nat) : Nat := (match w.cell? ⟨l, 0, none⟩ with | some (.string r) => r.size | _ => 0) + (match w.cell? ⟨l, 1, none⟩ with | some (.bool true) => 1 | _ => 0)
theorem sizeAt_is {w : World} {l : Nat} {rest : ByteArray} {more wrong : Bool} (h : LineIs w l rest more wrong) : sizeAt w l = rest.size + (if more then 1 else 0) := by
  unfold sizeAt
  rw [h.c0, h.c1]
  cases more <;> rfl
/-- What the loop over pairs keeps. -/
def PairsAt (w : World) (l : Nat) (rest0 : ByteArray) (G : Option (List Ln)) (wr : World) (v : Value) : Prop := ∃ (f : Nat) (L : List Ln) (rest : ByteArray) (more wrong : Bool), wr.ownsRow w.heap.size 58 2 v L.length (cells2 L) ∧ LineIs wr l rest more wrong ∧ Turn (fun b => b = l) w wr ∧ L.length + rest.size + (if more then 1 else 0) ≤ rest0.size + 1 ∧ (∀ y ∈ L, y.1.size ≤ rest0.size) ∧ rest.size < f ∧ pairsG f L rest more wrong = G ∧ rest.size ≤ rest0.size
set_option maxHeartbeats 1000000 in
set_option maxRecDepth 100000 in
theorem pairs_any (l : Nat) (rest0 : ByteArray) (more0 wrong0 : Bool) (w : World) (h : LineIs w l rest0 more0 wrong0) (ht : ∀ w', Turn (fun b => b = l) w w' → Tabs w') (hx : rest0.size ≤ 1000000000) :
    Calls Tryz.prog 58 #[.pointer (some ⟨l, 0, none⟩)] w fun r w' => ∃ v L rest more wrong, r = .returned v ∧ Hid (w'.ownsRow w.heap.size 58 2 v L.length (cells2 L) ∧ LineIs w' l rest more wrong ∧ Turn (fun b => b = l) w w' ∧ L.length ≤ rest0.size + 1 ∧ (∀ y ∈ L, y.1.size ≤ rest0.size) ∧ (if !more && !wrong then pairsF (rest0.size + 1) rest0 more0 wrong0 = some L else pairsF (rest0.size + 1) rest0 more0 wrong0 = none)) := by
  obtain ⟨i0, hi, hz0, hz1, hz2⟩ := info_parts Tryz.infoLine
  have HT : Hid (type_of% ht) := ht
  have HH : Hid (type_of% h) := h
  clear h ht
  go_enter Tryz.func58, Tryz.ntmps58
  go_wp2_with fail
  go_loopw [3, 4, 5] (fun s3 _ _ wr => PairsAt w l rest0 (pairsF (rest0.size + 1) rest0 more0 wrong0) wr s3) (fun _ _ _ wr => sizeAt wr l)
  case atStart => exact ⟨rest0.size + 1, [], rest0, more0, wrong0, ⟨rfl, .inl ⟨rfl, rfl⟩⟩, HH.out, Turn.refl _ _, by cases more0 <;> simp, (fun y hy => by cases hy), Nat.lt_succ_self _, (by unfold pairsG; cases pairsF (rest0.size + 1) rest0 more0 wrong0 <;> simp), Nat.le_refl _⟩
  case round =>
    obtain ⟨f, L, rest, more, wrong, q1, q2, q3, q4, q5, q6, q7, q8⟩ := hrel
    have hlw := HH.out.lt
    by_cases hmw : more = true ∧ wrong = false
    · obtain ⟨rfl, rfl⟩ := hmw
      have CM : Hid (Calls Tryz.prog 100 #[.pointer (some ⟨l, 0, none⟩)] wr fun r w' => r = .returned (.bool true) ∧ Below wr.heap.size wr w') := more_any l rest true false wr q2
      have CN : Hid (∀ W, Below wr.heap.size wr W → _) := fun W hW => lineName_any l rest true false W (q2.mv hW) (HT.out W (q3.trans (Turn.of_below hW))) (by omega)
      have hrs := rs_size rest
      have CU : Hid (∀ W b, LineIs W l (rs rest) (fd rest) b → Turn (fun b => b = l) w W → _) := fun W b hl hW => lineNumber_any l (rs rest) (fd rest) b W hl (HT.out W hW) (fun w' hw' => HT.out w' (hW.trans hw')) (by omega)
      have Q1 : Hid (type_of% q1) := q1
      have Q2 : Hid (type_of% q2) := q2
      have Q3 : Hid (type_of% q3) := q3
      have Q5 : Hid (type_of% q5) := q5
      have Q7 : Hid (type_of% q7) := q7
      clear q1 q2 q3 q5 q7
      go_wp2_with (go_at_call 100; with_reducible refine Calls.mono CM.out ?_; rintro e w1 ⟨rfl, hb1⟩)
      with_reducible refine Calls.mono (CN.out _ hb1) ?_
      rintro e w2 ⟨rfl, h2⟩
      have T2 : Hid (Turn (fun b => b = l) w w2) := (Q3.out.trans (Turn.of_below hb1)).trans h2.out.2
      go_wp2_with fail
      with_reducible refine Calls.mono (CU.out _ _ h2.out.1 T2.out) ?_
      rintro e w3 ⟨n, rfl, h3⟩
      have T3 : Turn (fun b => b = l) w w3 := T2.out.trans h3.out.2.2
      have T13 : Turn (fun b => b = l) wr w3 := ((Turn.of_below hb1).trans h2.out.2).trans h3.out.2.2
      have o3 := owns_turn Q1.out T13 (fun g e hg => by have := (Q1.out.lt g e).1; omega)
      have hs3 := T3.size
      have HT3 : Hid (type_of% T3) := T3
      have hq4 : L.length + rest.size + 1 ≤ rest0.size + 1 := q4
      clear T3 T13 CM CN CU
      go_wp2_with (at_builtin; refine wpList_append_lies _ rfl (.tmp 12) (.tmp 16) 54 rfl w.heap.size 58 i0 _ 2 24 Tryz.underlying54 hi hz0 hz1 hz2 rfl (by decide) _ L.length _ rfl (o3.alloc _) ⟨w3.heap.size, 0, none⟩ 1 1 [.string (wd rest), .int .i64 n] rfl rfl (World.news_of_block (cs := #[.string (wd rest), .int .i64 n]) (heap_alloc_new w3 _)) (by simp [Value.oneCell']) (by decide) (by unfold maxLen; omega) (by omega) (by simp; omega) (w3.heap.size + 1) (by simp) ?_; intro g4 cap4 w4 hown4 hg4 hat4 hlt4)
      obtain ⟨f', hf', hG⟩ := pairs_next (L := L) q6 h3.out.1
      have hl4 : LineIs w4 l (rs (rs rest)) (fd (rs rest)) ((((false || !true) || !(isName (wd rest))) || !(fd rest)) || !(numB (wd (rs rest))).isSome) := (hg4.block _ (by have := h3.out.2.1.lt; simp; omega) (fun e => by have := (o3.lt l e.symm).1; omega)).trans (Grew.blk ((Grew.refl w3).alloc _) h3.out.2.1)
      have T4 : Turn (fun b => b = l) w w4 := Turn.of_grown (HT3.out.alloc _) hg4 (fun k hk hlt => by have := (o3.lt k hk).1; omega)
      have hls := pairs_less (rest := rest)
      refine ⟨⟨f', L ++ [(wd rest, n)], rs (rs rest), fd (rs rest), _, ?_, hl4, T4, ?_, ?_, hf', hG.trans Q7.out, ?_⟩, ?_⟩
      · rw [List.length_append, cells2_append]
        exact hown4
      · rw [List.length_append]; simp only [List.length_cons, List.length_nil]; omega
      · intro y hy
        rcases List.mem_append.1 hy with hy | hy
        · exact Q5.out y hy
        · obtain rfl : y = (wd rest, n) := by simpa using hy
          have := wd_size rest
          show (wd rest).size ≤ _; omega
      · have := rs_size (rs rest); omega
      · rw [sizeAt_is hl4, sizeAt_is Q2.out]; exact hls
    · have CM : Hid (Calls Tryz.prog 100 #[.pointer (some ⟨l, 0, none⟩)] wr fun r w' => r = .returned (.bool false) ∧ Below wr.heap.size wr w') := by
        have := more_any l rest more wrong wr q2
        rw [show (more && !wrong) = false by revert hmw; cases more <;> cases wrong <;> simp] at this
        exact this
      have HE : Hid (∀ w', Below wr.heap.size wr w' → w'.ownsRow w.heap.size 58 2 u3 L.length (cells2 L) ∧ LineIs w' l rest more wrong ∧ Turn (fun b => b = l) w w' ∧ L.length ≤ rest0.size + 1 ∧ (∀ y ∈ L, y.1.size ≤ rest0.size) ∧ (if !more && !wrong then pairsF (rest0.size + 1) rest0 more0 wrong0 = some L else pairsF (rest0.size + 1) rest0 more0 wrong0 = none)) := fun w' hb => by
        refine ⟨owns_mv q1 hb, q2.mv hb, q3.trans (Turn.of_below hb), by omega, q5, ?_⟩
        cases more <;> cases wrong
        · obtain ⟨g, rfl⟩ : ∃ g, f = g + 1 := ⟨f - 1, by omega⟩
          rw [pairsG_end] at q7
          simp [q7]
        · rw [pairsG_wrong] at q7
          simp [← q7]
        · exact absurd ⟨rfl, rfl⟩ hmw
        · rw [pairsG_wrong] at q7
          simp [← q7]
      clear q1 q2 q3 q4 q5 q7 hmw
      go_wp2_with (go_at_call 100; with_reducible refine Calls.mono CM.out ?_; rintro e w1 ⟨rfl, hb1⟩)
      go_ret
      exact ⟨_, L, rest, more, wrong, rfl, HE.out _ hb1⟩
end Go.Proofs.YtjnmoddcodnadaaGreatDoor
namespace Go.Annal
open Go.Proofs.YtjnmoddcodnadaaGreatDoor
/-- What a line of a text does: the answer and what becomes of the book. The line has no byte 10 any more. -/
def doF (s : St) (x : ByteArray) : Int × St :=
  if wd x = ⟨#[111]⟩ then
    if fd x && isName (wd (rs x)) && fd (rs x) && (numB (wd (rs (rs x)))).isSome && !fd (rs (rs x)) then (s.openE (wd (rs x)) ((numB (wd (rs (rs x)))).getD 0), s.afterOpen (wd (rs x)) ((numB (wd (rs (rs x)))).getD 0)) else (14, s)
  else if wd x = ⟨#[112]⟩ then
    match pairsF ((rs (rs x)).size + 1) (rs (rs x)) (fd (rs x)) (!fd x || !(numB (wd (rs x))).isSome) with
    | some L => (s.postE ((numB (wd (rs x))).getD 0) (lnA L) (lnM L) L.length, s.afterPost ((numB (wd (rs x))).getD 0) (lnA L) (lnM L) L.length)
    | none => (14, s)
  else if wd x = ⟨#[114]⟩ then
    if fd x && (numB (wd (rs x))).isSome && !fd (rs x) then (s.revE ((numB (wd (rs x))).getD 0), s.afterRev ((numB (wd (rs x))).getD 0)) else (14, s)
  else if wd x = ⟨#[108]⟩ then
    if fd x && (numB (wd (rs x))).isSome && !fd (rs x) then (s.lockE ((numB (wd (rs x))).getD 0), s.afterLock ((numB (wd (rs x))).getD 0)) else (14, s)
  else if wd x = ⟨#[99]⟩ then
    if fd x && (numB (wd (rs x))).isSome && fd (rs x) && isName (wd (rs (rs x))) && !fd (rs (rs x)) then (s.closeE ((numB (wd (rs x))).getD 0) (wd (rs (rs x))), s.afterClose ((numB (wd (rs x))).getD 0) (wd (rs (rs x)))) else (14, s)
  else (14, s)
end Go.Annal
namespace Go.Proofs.YtjnmoddcodnadaaGreatDoor
open Go.RowKit Go.Annal Go.Sort
theorem turnL {w W W' : World} {l : Nat} (hb : Below w.heap.size w W) (hl : w.heap.size ≤ l) (ht : Turn (fun b => b = l) W W') : Below w.heap.size w W' :=
  ⟨ht.os.trans hb.os, ht.tape.trans hb.tape, ht.output.trans hb.output, Nat.le_trans hb.size ht.size, fun x hx => (ht.block x (Nat.lt_of_lt_of_le hx hb.size) (by omega)).trans (hb.block x hx)⟩
section
variable {w : World} {l : Nat} (ht : Tabs w) (hl : w.heap.size ≤ l)
include ht hl
theorem rName (W : World) (rest : ByteArray) (more wrong : Bool) (h : LineIs W l rest more wrong) (hb : Below w.heap.size w W) (hx : rest.size ≤ 1000000000) :
    Calls Tryz.prog 55 #[.pointer (some ⟨l, 0, none⟩)] W fun r w' => r = .returned (.string (wd rest)) ∧ Hid (LineIs w' l (rs rest) (fd rest) ((wrong || !more) || !(isName (wd rest))) ∧ Below w.heap.size w w') := by
  refine (lineName_any l rest more wrong W h (ht.below hb) hx).mono ?_
  rintro r w' ⟨rfl, q1, q2⟩
  exact ⟨rfl, q1, turnL hb hl q2⟩
theorem rNumber (W : World) (rest : ByteArray) (more wrong : Bool) (h : LineIs W l rest more wrong) (hb : Below w.heap.size w W) (hx : rest.size ≤ 1000000000) :
    Calls Tryz.prog 56 #[.pointer (some ⟨l, 0, none⟩)] W fun r w' => ∃ n, r = .returned (.int .i64 n) ∧ Hid (NumOf (wd rest) n ∧ LineIs w' l (rs rest) (fd rest) ((wrong || !more) || !(numB (wd rest)).isSome) ∧ Below w.heap.size w w') := by
  refine (lineNumber_any l rest more wrong W h (ht.below hb) (fun w' hw' => ht.below (turnL hb hl hw')) hx).mono ?_
  rintro r w' ⟨n, rfl, q1, q2, q3⟩
  exact ⟨n, rfl, q1, q2, turnL hb hl q3⟩
theorem rPairs (W : World) (rest : ByteArray) (more wrong : Bool) (h : LineIs W l rest more wrong) (hb : Below w.heap.size w W) (hx : rest.size ≤ 1000000000) :
    Calls Tryz.prog 58 #[.pointer (some ⟨l, 0, none⟩)] W fun r w' => ∃ v L rest' more' wrong', r = .returned v ∧ Hid (w'.ownsRow W.heap.size 58 2 v L.length (cells2 L) ∧ LineIs w' l rest' more' wrong' ∧ Below w.heap.size w w' ∧ L.length ≤ rest.size + 1 ∧ (∀ y ∈ L, y.1.size ≤ rest.size) ∧ (if !more' && !wrong' then pairsF (rest.size + 1) rest more wrong = some L else pairsF (rest.size + 1) rest more wrong = none)) := by
  refine (pairs_any l rest more wrong W h (fun w' hw' => ht.below (turnL hb hl hw')) hx).mono ?_
  rintro r w' ⟨v, L, rest', more', wrong', rfl, q1, q2, q3, q4⟩
  exact ⟨v, L, rest', more', wrong', rfl, q1, q2, turnL hb hl q3, q4⟩
omit ht hl in
theorem rRight (W : World) (rest : ByteArray) (more wrong : Bool) (h : LineIs W l rest more wrong) (hb : Below w.heap.size w W) :
    Calls Tryz.prog 57 #[.pointer (some ⟨l, 0, none⟩)] W fun r w' => r = .returned (.bool (!more && !wrong)) ∧ Hid (Below W.heap.size W w' ∧ Below w.heap.size w w') := by
  refine (lineRight_any l rest more wrong W h).mono ?_
  rintro r w' ⟨rfl, q⟩
  exact ⟨rfl, q, hb.trans (q.mono hb.size)⟩
end
/-- What redo leaves. -/
def Redone (w w' : World) (B : Nat) (t : St) (Fp : Nat → Prop) : Prop := ∃ Fp', ProgIs w' B t Fp' ∧ Turn Fp w w' ∧ ∀ b, Fp' b → Fp b ∨ w.heap.size ≤ b
theorem redone_same {w w' : World} {B : Nat} {s : St} {Fp : Nat → Prop} (h : ProgIs w B s Fp) (hb : Below w.heap.size w w') : Redone w w' B s Fp := ⟨Fp, h.turn (S := fun _ => False) (Turn.of_below hb) (fun _ _ h => h), Turn.of_below hb, fun _ h => .inl h⟩
theorem redone_by {w W w' : World} {B : Nat} {t : St} {Fp : Nat → Prop} (hb : Below w.heap.size w W) (q : ∃ Fp', ProgIs w' B t Fp' ∧ Turn Fp W w' ∧ ∀ b, Fp' b → Fp b ∨ W.heap.size ≤ b) : Redone w w' B t Fp := by
  obtain ⟨Fp', q1, q2, q3⟩ := q
  exact ⟨Fp', q1, (Turn.of_below hb).trans q2, fun b h => (q3 b h).imp id (fun h => Nat.le_trans hb.size h)⟩
/-- A line that begins: its first word is taken. -/
theorem redo_word {x : ByteArray} {w : World} (ht : Tabs w) (hx : x.size ≤ 1000000000) :
    Calls Tryz.prog 54 #[.pointer (some ⟨w.heap.size, 0, none⟩)] (w.alloc (.cells #[.string x, .bool true, .bool false] 172)) fun r w' => r = .returned (.string (wd x)) ∧ Hid (LineIs w' w.heap.size (rs x) (fd x) (false || !true) ∧ Below w.heap.size w w') := by
  have hb : Below w.heap.size w (w.alloc (.cells #[.string x, .bool true, .bool false] 172)) := ((Grew.refl w).alloc _).below
  refine (word_any w.heap.size x true false _ (heap_alloc_new w _) (ht.below hb) (by omega)).mono ?_
  rintro r w' ⟨rfl, q1, q2⟩
  exact ⟨rfl, q1, turnL hb (Nat.le_refl _) q2⟩
theorem getD_num {x : ByteArray} {n : Int} (h : NumOf x n) (hs : (numB x).isSome = true) : (numB x).getD 0 = n := by
  obtain ⟨v, hv⟩ := Option.isSome_iff_exists.1 hs
  rw [hv, h v hv]; rfl
end Go.Proofs.YtjnmoddcodnadaaGreatDoor
