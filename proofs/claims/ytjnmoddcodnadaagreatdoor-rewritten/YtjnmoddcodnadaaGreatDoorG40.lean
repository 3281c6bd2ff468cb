import Derived.Test.YtjnmoddcodnadaaGreatDoorG39
set_option linter.unusedVariables false
set_option linter.unusedSimpArgs false
namespace Go.Annal
open Go.RowKit Go.Proofs.YtjnmoddcodnadaaGreatDoor
/-- All lines are done. -/
def runL : St → List ByteArray → Option St
  | s, [] => some s
  | s, x :: r => if (redoF s x).1 = 0 then runL (redoF s x).2 r else none
theorem runL_append (s : St) : ∀ a b, runL s (a ++ b) = (runL s a).bind (fun t => runL t b)
  | [], b => rfl
  | x :: r, b => by
    rw [List.cons_append, runL, runL]
    split
    · exact runL_append _ r b
    · rfl
theorem doF_ok {s : St} (h : s.Ok) (x : ByteArray) : (doF s x).2.Ok := by
  unfold doF
  repeat' split
  all_goals first | exact h | exact St.afterOpen_ok h _ _ | exact St.afterPost_ok h _ _ _ _ | exact St.afterRev_ok h _ | exact St.afterLock_ok h _ | exact St.afterClose_ok h _ _
theorem redoF_ok {s : St} (h : s.Ok) (x : ByteArray) : (redoF s x).2.Ok := by
  unfold redoF
  split
  · exact doF_ok h _
  · exact h
theorem runL_ok : ∀ (a : List ByteArray) (s t : St), s.Ok → runL s a = some t → t.Ok
  | [], s, t, h, e => by cases e; exact h
  | x :: r, s, t, h, e => by
    unfold runL at e
    split at e
    · exact runL_ok r _ t (redoF_ok h x) e
    · cases e
theorem lnsL_flat : ∀ l, (lnsL l).flatten = l
  | [] => rfl
  | b :: t => by
    have ih := lnsL_flat t
    rw [lnsL]
    split
    · rw [List.flatten_cons, ih]; rfl
    · split
      · rename_i e; rw [e] at ih; simp at ih; subst ih; rfl
      · rename_i l ls e; rw [e] at ih; rw [List.flatten_cons] at ih ⊢; rw [List.cons_append, ih]
theorem lnsL_len : ∀ l, (lnsL l).length ≤ l.length
  | [] => Nat.le_refl _
  | b :: t => by
    have ih := lnsL_len t
    rw [lnsL]
    split
    · simp; omega
    · split
      · simp
      · rename_i e; rw [e] at ih; simp at ih ⊢; omega
theorem lns_len (x : ByteArray) : (lns x).length ≤ x.size := by
  unfold lns
  rw [List.length_map, Lib.size_eq]
  exact lnsL_len _
theorem lns_mem {x y : ByteArray} (h : y ∈ lns x) : y.size ≤ x.size := by
  obtain ⟨l, hl, rfl⟩ := List.mem_map.1 h
  have h1 := congrArg List.length (lnsL_flat x.data.toList)
  have h2 : l.length ≤ (lnsL x.data.toList).flatten.length := by
    exact (List.sublist_flatten_of_mem hl).length_le
  have h3 : (⟨l.toArray⟩ : ByteArray).size = l.length := by show l.toArray.size = _; simp
  rw [h3, Lib.size_eq]
  omega
end Go.Annal
namespace Go.Proofs.YtjnmoddcodnadaaGreatDoor
open Go.RowKit Go.Annal Go.Sort Go.Shelf
attribute [local go_sem] Oper.semAt_some
theorem progFresh {w : World} {B : Nat} (h : w.heap[B]? = some (.cells #[.slice none 0 0, .slice none 0 0, .slice none 0 0, .int .i64 0] 68 (0, 0))) : ProgIs w B St.new (fun k => k = B) := by
  refine ⟨⟨0, 0, none, 0, 0, none, 0, 0, none, 0, fun _ => 0, fun _ => ⟨#[]⟩, [], fun _ => .nilIface⟩, fun _ => 0, fun _ => 0, fun _ _ => (0, 0, 0), fun _ => False, fun _ => 0, fun _ => 0, fun _ _ => ⟨#[]⟩, fun _ _ => 0, fun _ => .post, ⟨⟨h, ⟨rfl, .inl ⟨rfl, rfl⟩⟩, ⟨rfl, .inl ⟨rfl, rfl⟩⟩, ⟨rfl, .inl ⟨rfl, rfl⟩⟩, fun x a b _ hb => absurd hb (Nat.not_lt_zero _)⟩, ⟨fun _ => none, fun _ => 0, fun _ _ => 0, fun _ _ => 0, fun _ _ => [], fun i hi => absurd hi (Nat.not_lt_zero _), fun i j k hi => absurd hi (Nat.not_lt_zero _), fun k => ⟨fun h => h.elim, fun ⟨i, hi, _⟩ => absurd hi (Nat.not_lt_zero _)⟩⟩, rfl, rfl, rfl, by decide, NamesIs.zero _ _, fun i hi => absurd hi (Nat.not_lt_zero _), fun i hi => absurd hi (Nat.not_lt_zero _), fun i hi => absurd hi (Nat.not_lt_zero _), fun i hi => absurd hi (Nat.not_lt_zero _), fun i hi => absurd hi (Nat.not_lt_zero _), fun i hi => absurd hi (Nat.not_lt_zero _), fun i hi => absurd hi (Nat.not_lt_zero _), fun i hi => absurd hi (Nat.not_lt_zero _), TextIs.new _ _ _ _ _⟩, fun b => ?_⟩
  constructor
  · intro h; exact .inl (.inl h)
  · rintro ((h | h | h | h) | h | ⟨i, hi, _⟩)
    · exact h
    · cases h
    · cases h
    · cases h
    · exact h.elim
    · exact absurd hi (Nat.not_lt_zero _)
/-- What Read's loop keeps: H: the first block that was free. -/
structure ReadI (w : World) (H : Nat) (pre : List ByteArray) (W : World) : Prop where
  bk : ∃ s Fp, runL St.new pre = some s ∧ ProgIs W (H + 3) s Fp ∧ ∀ b, Fp b → b = H + 3 ∨ H + 9 ≤ b
  r0 : Boxed W H 29 (.pointer none)
  r1 : Boxed W (H + 1) 3 (.int .i64 0)
  r2 : Boxed W (H + 2) 33 (.int .i64 0)
  vb : Boxed W (H + 4) 29 (.pointer (some ⟨H + 3, 0, none⟩))
  vn : Boxed W (H + 5) 3 (.int .i64 pre.length)
  bl : Below H w W
structure ReadX (w : World) (H : Nat) (pre : List ByteArray) (W : World) : Prop where
  bk : ∃ p x s, pre = p ++ [x] ∧ runL St.new p = some s ∧ (redoF s x).1 ≠ 0 ∧ Boxed W (H + 1) 3 (.int .i64 pre.length) ∧ Boxed W (H + 2) 33 (.int .i64 (redoF s x).1)
  r0 : Boxed W H 29 (.pointer none)
  bl : Below H w W
theorem below_turn {S : Nat → Prop} {w W W' : World} {H : Nat} (h : Below H w W) (ht : Turn S W W') (hs : ∀ k, S k → H ≤ k) (hH : H ≤ W.heap.size) : Below H w W' :=
  ⟨ht.os.trans h.os, ht.tape.trans h.tape, ht.output.trans h.output, Nat.le_trans h.size ht.size, fun k hk => (ht.block k (by omega) (fun hk' => by have := hs k hk'; omega)).trans (h.block k hk)⟩
theorem ReadI.turn {w : World} {H : Nat} {pre : List ByteArray} {W W' : World} (h : ReadI w H pre W) (ht : Turn (fun k => k = H + 6 ∨ k = H + 7 ∨ k = H + 8) W W') : ReadI w H pre W' := by
  obtain ⟨⟨s, Fp, h1, h2, h3⟩, h4, h5, h6, h7, h8, h9⟩ := h
  exact ⟨⟨s, Fp, h1, h2.turn ht (fun b hb => by have := h3 b hb; omega), h3⟩, ht.blk h4 (by omega), ht.blk h5 (by omega), ht.blk h6 (by omega), ht.blk h7 (by omega), ht.blk h8 (by omega), below_turn h9 ht (fun k hk => by omega) (by have := blk_lt h4; omega)⟩
theorem ReadX.turn {w : World} {H : Nat} {pre : List ByteArray} {W W' : World} (h : ReadX w H pre W) (ht : Turn (fun k => k = H + 6 ∨ k = H + 7 ∨ k = H + 8) W W') : ReadX w H pre W' := by
  obtain ⟨⟨p, x, s, h1, h2, h3, h4, h5⟩, h6, h7⟩ := h
  exact ⟨⟨p, x, s, h1, h2, h3, ht.blk h4 (by omega), ht.blk h5 (by omega)⟩, ht.blk h6 (by omega), below_turn h7 ht (fun k hk => by omega) (by have := blk_lt h6; omega)⟩
theorem allocH (w : World) (o : Obj) : (w.alloc o).heap = w.heap.push o := rfl
theorem boxed_put {W : World} {b l : Nat} {t : TypeId} {v : Value} {o : Obj} (h : Boxed W b t v) (hne : b ≠ l) : (W.putObj l o).heap[b]? = some (.cells #[v] t (0, 0)) := (World.putObj_heap_other hne).trans h
theorem read_results {w : World} {tmps : Array Value} {A B C : Nat} {va vb vc : Value} (h1 : tmps.getD 2 undef = .pointer (some ⟨A, 0, none⟩)) (h2 : tmps.getD 3 undef = .pointer (some ⟨B, 0, none⟩)) (h3 : tmps.getD 4 undef = .pointer (some ⟨C, 0, none⟩))
    (c1 : w.cell? ⟨A, 0, none⟩ = some va) (c2 : w.cell? ⟨B, 0, none⟩ = some vb) (c3 : w.cell? ⟨C, 0, none⟩ = some vc) : (results Tryz.f12 tmps).run Tryz.prog w = .ok (.tuple #[va, vb, vc]) w := by
  rw [Array.getD_eq_getD_getElem?] at h1 h2 h3
  simp [results, h1, h2, h3, c1, c2, c3, go_sem]
def readW (w : World) (text : ByteArray) : World :=
  ((((((w.alloc (.cells #[.pointer none] 29)).alloc (.cells #[.int .i64 0] 3)).alloc (.cells #[.int .i64 0] 33)).alloc (.cells #[.slice none 0 0, .slice none 0 0, .slice none 0 0, .int .i64 0] 68)).alloc (.cells #[.pointer (some ⟨w.heap.size + 3, 0, none⟩)] 29)).alloc (.cells #[.int .i64 0] 3)).alloc (.cells #[.string text] 9)
theorem readW_size (w : World) (text : ByteArray) : (readW w text).heap.size = w.heap.size + 7 := by simp [readW]
theorem readW_box (w : World) (text : ByteArray) : Boxed (readW w text) (w.heap.size + 6) 9 (.string text) := by
  show (readW w text).heap[_]? = _
  unfold readW
  simp only [allocH, Array.getElem?_push, Array.size_push]
  simp
theorem readW_is (w : World) (text : ByteArray) : ReadI w w.heap.size [] (readW w text) := by
  have hg : Grew w (readW w text) := by
    unfold readW
    exact (((((((Grew.refl w).alloc _).alloc _).alloc _).alloc _).alloc _).alloc _).alloc _
  refine ⟨⟨St.new, _, rfl, progFresh ?_, fun b hb => .inl hb⟩, ?_, ?_, ?_, ?_, ?_, hg.below⟩ <;> (try show (readW w text).heap[_]? = _) <;> unfold readW <;> simp only [allocH, Array.getElem?_push, Array.size_push] <;> simp
  repeat rw [if_neg (by omega)]
set_option maxRecDepth 100000 in
set_option maxHeartbeats 2000000 in
theorem read_any (text : ByteArray) (w : World) (ht : Tabs w) (hx : text.size < 1000000000) :
    Calls Tryz.prog 12 #[.string text] w fun r w' => Below w.heap.size w w' ∧
      ((∃ s Fp, runL St.new (lns text) = some s ∧ r = .returned (.tuple #[.pointer (some ⟨w.heap.size + 3, 0, none⟩), .int .i64 0, .int .i64 0]) ∧ ProgIs w' (w.heap.size + 3) s Fp ∧ ∀ b, Fp b → w.heap.size ≤ b) ∨
       ∃ p x s, (p ++ [x]) <+: lns text ∧ runL St.new p = some s ∧ (redoF s x).1 ≠ 0 ∧ r = .returned (.tuple #[.pointer none, .int .i64 (p.length + 1 : Nat), .int .i64 (redoF s x).1])) := by
  have hln := lns_len text
  refine (callsIn_wide (n := 12)).1 ?_
  refine callsIn_of_wp_marks Tryz.func12 rfl trivial ?_ rfl
  simp only [Tryz.ntmps12, List.size_toArray, List.length_cons, List.length_nil, Nat.reduceAdd, Nat.reduceSub, Array.replicate_succ, Array.replicate_zero, List.push_toArray, List.append_toArray, List.nil_append, List.cons_append]
  gi_wp2
  refine ⟨trivial, (callsIn_wide.2 (annalNew_any _)).mono ?_⟩
  rintro e wx ⟨rfl, hw⟩
  rw [hw]
  clear hw wx
  gi_wp2
  refine ⟨trivial, (callsIn_wide.2 (lines_any _ _)).mono ?_⟩
  rintro e wx ⟨rfl, hw⟩
  rw [hw]
  clear hw wx
  gi_wp2
  simp only [Nat.add_assoc, Nat.reduceAdd]
  change Code.wpIn _ _ _ _ _ _ (readW w text)
  have hI0 := readW_is w text
  have hs3 := readW_size w text
  have hb3 := readW_box w text
  generalize readW w text = W3 at *
  generalize hH : w.heap.size = H at *
  refine wpIn_rangeBox rfl (by omega) (gf := 50) (lb := #[.pointer (some ⟨H + 6, 0, none⟩)]) rfl trivial (enters_of Tryz.func50 (by kernel_rfl) rfl) (b := H + 6) (by omega) (lines_box 11 (by omega) (H + 6) text W3 (by omega) hb3) (fun _ => rfl)
    (ReadI w H) (ReadX w H) (fun s W W' h ht => h.turn (by rw [hs3] at ht; exact ht)) (fun s W W' h ht => h.turn (by rw [hs3] at ht; exact ht)) hI0
    (fun x => { tmps := #[.string text, undef, .pointer (some ⟨H, 0, none⟩), .pointer (some ⟨H + 1, 0, none⟩), .pointer (some ⟨H + 2, 0, none⟩), .pointer (some ⟨H + 4, 0, none⟩), .pointer (some ⟨H + 5, 0, none⟩), .string x, undef, .pointer (some ⟨H + 3, 0, none⟩), .string text, .func (.func 50) #[] #[.pointer (some ⟨H + 6, 0, none⟩)], .string x, undef, undef, undef, undef, undef, undef, undef, undef, undef, undef], defers := [] })
    ?assign ?body ?done ?stop
  case assign =>
    intro l x W K hK
    gi_wp2
    exact hK
  case body =>
    intro l pre x W hsz hi hpre
    obtain ⟨⟨s, Fp, h1, h2, h3⟩, h4, h5, h6, h7, h8, h9⟩ := hi
    have hpl : (pre ++ [x]).length ≤ (lns text).length := hpre.length_le
    have hpl' : pre.length + 1 ≤ 1000000000 := by simp at hpl; omega
    have hxs : x.size < 1000000000 := by have := lns_mem (hpre.subset (List.mem_append_right _ (List.mem_singleton_self x))); omega
    have c5 : W.cell? ⟨H + 5, 0, none⟩ = some (.int .i64 pre.length) := blk_cell' h8 rfl
    have f5 := blk_free h8 0
    have hT1 : Turn (fun k => k = H + 5) W (W.setCell ⟨H + 5, 0, none⟩ (.int .i64 (pre.length + 1))) := (Turn.refl (fun k => k = H + 5) W).set ⟨H + 5, 0, none⟩ _ (fun _ => rfl)
    have hP1 := h2.turn hT1 (fun b hb => by have := h3 b hb; omega)
    have hT1' := ht.below (by rw [hH]; exact below_turn h9 hT1 (fun k hk => by omega) (by omega))
    have hR := redo_any (H + 3) s Fp x _ hP1 (runL_ok pre _ _ St.new_ok h1) hT1' hxs
    have c4 : (W.setCell ⟨H + 5, 0, none⟩ (.int .i64 (pre.length + 1))).cell? ⟨H + 4, 0, none⟩ = some (.pointer (some ⟨H + 3, 0, none⟩)) := blk_cell' (blk_set_other h7 (show H + 4 ≠ H + 5 by omega) _) rfl
    have b8 : Boxed (W.setCell ⟨H + 5, 0, none⟩ (.int .i64 (pre.length + 1))) (H + 5) 3 (.int .i64 (pre.length + 1)) := blk_set h8 0 _
    have HT1 : Hid (type_of% hT1) := hT1
    have HB8 : Hid (type_of% b8) := b8
    clear b8 hP1 hT1' hT1
    gi_wp2
    refine ⟨trivial, (CallsIn.inRound l (callsIn_wide.2 hR)).mono ?_⟩
    rintro e w5 ⟨rfl, Fp', g1, g2, g3⟩
    have T2 : Turn (fun k => Fp k ∨ k = H + 5) W w5 := (HT1.out.mono (fun k _ h => .inr h)).trans (g2.mono (fun k _ h => .inl h))
    have nF : ∀ k, k < H + 9 → k ≠ H + 3 → ¬ Fp k := fun k hk hk' hF => by have := h3 k hF; omega
    have k4 := T2.blk h4 (fun h => h.elim (nF _ (by omega) (by omega)) (by omega))
    have k5 := T2.blk h5 (fun h => h.elim (nF _ (by omega) (by omega)) (by omega))
    have k6 := T2.blk h6 (fun h => h.elim (nF _ (by omega) (by omega)) (by omega))
    have k7 := T2.blk h7 (fun h => h.elim (nF _ (by omega) (by omega)) (by omega))
    have k8 : Boxed w5 (H + 5) 3 (.int .i64 (pre.length + 1)) := g2.blk HB8.out (nF _ (by omega) (by omega))
    have k9 := below_turn h9 T2 (fun k hk => by rcases hk with hk | hk; have := h3 k hk; omega; omega) (by omega)
    have kb := T2.block (H + 6) (by omega) (fun h => h.elim (nF _ (by omega) (by omega)) (by omega))
    have kD := T2.block (H + 7) (by omega) (fun h => h.elim (nF _ (by omega) (by omega)) (by omega))
    have kL := T2.block (H + 8) (by omega) (fun h => h.elim (nF _ (by omega) (by omega)) (by omega))
    have g3' : ∀ b, Fp' b → b = H + 3 ∨ H + 9 ≤ b := fun b hb => by
      rcases g3 b hb with hb | hb
      · exact h3 b hb
      · simp only [World.size_setCell] at hb; omega
    have hlen : ((pre ++ [x]).length : Int) = pre.length + 1 := by simp
    by_cases he : (redoF s x).1 = 0
    · have hrun : runL St.new (pre ++ [x]) = some (redoF s x).2 := by rw [runL_append, h1]; show runL s [x] = _; rw [runL, if_pos he]; rfl
      have HRun : Hid (type_of% hrun) := hrun
      rw [he]
      clear hrun HT1 HB8
      gi_wp2
      show (_ ∧ _) ∧ _ ∧ _
      rw [hs3]
      exact ⟨⟨kD, kL⟩, kb, ⟨_, Fp', HRun.out, g1, g3'⟩, k4, k5, k6, k7, by rw [hlen]; exact k8, k9⟩
    · have c5' : w5.cell? ⟨H + 5, 0, none⟩ = some (.int .i64 (pre.length + 1)) := blk_cell' k8 rfl
      have c0 : w5.cell? ⟨H, 0, none⟩ = some (.pointer none) := blk_cell' k4 rfl
      have c1 : w5.cell? ⟨H + 1, 0, none⟩ = some (.int .i64 0) := blk_cell' k5 rfl
      have c2 : w5.cell? ⟨H + 2, 0, none⟩ = some (.int .i64 0) := blk_cell' k6 rfl
      have f0 := blk_free k4 0
      have f1 := blk_free k5 0
      have f2 := blk_free k6 0
      have mixed : Tryz.prog.follows .mixedOrders = true := by kernel_rfl
      clear c5 f5 c4 HT1 HB8
      obtain ⟨en, hen⟩ : ∃ en, (redoF s x).1 = en := ⟨_, rfl⟩
      rw [hen] at he ⊢
      have hX : boxPost (H + 6) W3.heap.size (ReadI w H) (ReadX w H) (pre ++ [x]) W .ret { tmps := #[], defers := [] } (((w5.setCell ⟨H, 0, none⟩ (.pointer none)).setCell ⟨H + 1, 0, none⟩ (.int .i64 (pre.length + 1))).setCell ⟨H + 2, 0, none⟩ (.int .i64 en)).drew := by
        have T3 : Turn (fun k => k = H ∨ k = H + 1 ∨ k = H + 2) w5 (((w5.setCell ⟨H, 0, none⟩ (.pointer none)).setCell ⟨H + 1, 0, none⟩ (.int .i64 (pre.length + 1))).setCell ⟨H + 2, 0, none⟩ (.int .i64 en)).drew :=
          ((((Turn.refl (fun k => k = H ∨ k = H + 1 ∨ k = H + 2) w5).set ⟨H, 0, none⟩ _ (fun _ => .inl rfl)).set ⟨H + 1, 0, none⟩ _ (fun _ => .inr (.inl rfl))).set ⟨H + 2, 0, none⟩ _ (fun _ => .inr (.inr rfl))).drew
        have hs5 : W.heap.size ≤ w5.heap.size := T2.size
        show (_ ∧ _) ∧ _
        rw [hs3]
        refine ⟨⟨(T3.block _ (by omega) (by omega)).trans kD, (T3.block _ (by omega) (by omega)).trans kL⟩, ⟨pre, x, s, rfl, h1, by rw [hen]; exact he, ?_, ?_⟩, ?_, below_turn k9 T3 (fun k hk => by omega) (by omega)⟩
        · rw [hlen]
          exact blk_set_other (blk_set (blk_set_other k5 (show H + 1 ≠ H by omega) _) 0 _) (show H + 1 ≠ H + 2 by omega) _
        · rw [hen]
          exact blk_set (blk_set_other (blk_set_other k6 (show H + 2 ≠ H by omega) _) (show H + 2 ≠ H + 1 by omega) _) 0 _
        · exact blk_set_other (blk_set_other (blk_set k4 0 _) (show H ≠ H + 1 by omega) _) (show H ≠ H + 2 by omega) _
      have HX : Hid (type_of% hX) := hX
      clear hX k4 k5 k6 k7 k8 k9 kb kD kL T2
      gi_wp2
      gi_region_o
      all_goals gi_wp2
      all_goals exact HX.out
  case done =>
    rintro xs W hsz rfl hi hD
    obtain ⟨⟨s, Fp, h1, h2, h3⟩, h4, h5, h6, h7, h8, h9⟩ := hi
    have c4 : W.cell? ⟨H + 4, 0, none⟩ = some (.pointer (some ⟨H + 3, 0, none⟩)) := blk_cell' h7 rfl
    have c0 : W.cell? ⟨H, 0, none⟩ = some (.pointer none) := blk_cell' h4 rfl
    have c1 : W.cell? ⟨H + 1, 0, none⟩ = some (.int .i64 0) := blk_cell' h5 rfl
    have c2 : W.cell? ⟨H + 2, 0, none⟩ = some (.int .i64 0) := blk_cell' h6 rfl
    have f0 := blk_free h4 0
    have f1 := blk_free h5 0
    have f2 := blk_free h6 0
    have T3 : Turn (fun k => k = H ∨ k = H + 1 ∨ k = H + 2) W (((W.setCell ⟨H, 0, none⟩ (.pointer (some ⟨H + 3, 0, none⟩))).setCell ⟨H + 1, 0, none⟩ (.int .i64 0)).setCell ⟨H + 2, 0, none⟩ (.int .i64 0)) :=
      ((((Turn.refl (fun k => k = H ∨ k = H + 1 ∨ k = H + 2) W).set ⟨H, 0, none⟩ _ (fun _ => .inl rfl)).set ⟨H + 1, 0, none⟩ _ (fun _ => .inr (.inl rfl))).set ⟨H + 2, 0, none⟩ _ (fun _ => .inr (.inr rfl)))
    have HD3 : Hid (_) := T3.blk hD (by omega)
    have HB0 : Hid (type_of% h4) := h4
    clear h4
    gi_wp2
    refine ⟨by simp, .inl ⟨_, _, rfl, run_takeDeferred HD3.out, ?_⟩⟩
    have T4 := (T3.mono (S' := fun k => k = H ∨ k = H + 1 ∨ k = H + 2 ∨ k = W3.heap.size) (fun k _ h => by omega)).trans (turn_put (fun k => k = H ∨ k = H + 1 ∨ k = H + 2 ∨ k = W3.heap.size) _ W3.heap.size (.deferred none) (.inr (.inr (.inr rfl))))
    have b0 : Boxed (((W.setCell ⟨H, 0, none⟩ (.pointer (some ⟨H + 3, 0, none⟩))).setCell ⟨H + 1, 0, none⟩ (.int .i64 0)).setCell ⟨H + 2, 0, none⟩ (.int .i64 0)) H 29 (.pointer (some ⟨H + 3, 0, none⟩)) := blk_set_other (blk_set_other (blk_set HB0.out 0 _) (show H ≠ H + 1 by omega) _) (show H ≠ H + 2 by omega) _
    have b1 : Boxed (((W.setCell ⟨H, 0, none⟩ (.pointer (some ⟨H + 3, 0, none⟩))).setCell ⟨H + 1, 0, none⟩ (.int .i64 0)).setCell ⟨H + 2, 0, none⟩ (.int .i64 0)) (H + 1) 3 (.int .i64 0) := blk_set_other (blk_set (blk_set_other h5 (show H + 1 ≠ H by omega) _) 0 _) (show H + 1 ≠ H + 2 by omega) _
    have b2 : Boxed (((W.setCell ⟨H, 0, none⟩ (.pointer (some ⟨H + 3, 0, none⟩))).setCell ⟨H + 1, 0, none⟩ (.int .i64 0)).setCell ⟨H + 2, 0, none⟩ (.int .i64 0)) (H + 2) 33 (.int .i64 0) := blk_set (blk_set_other (blk_set_other h6 (show H + 2 ≠ H by omega) _) (show H + 2 ≠ H + 1 by omega) _) 0 _
    refine ⟨_, read_results rfl rfl rfl (blk_cell' (boxed_put b0 (by omega)) rfl) (blk_cell' (boxed_put b1 (by omega)) rfl) (blk_cell' (boxed_put b2 (by omega)) rfl), ?_, .inl ⟨s, Fp, h1, ?_, by rw [hH]; exact h2.turn T4 (fun b hb => by have := h3 b hb; omega), fun b hb => by have := h3 b hb; omega⟩⟩
    · rw [hH]; exact below_turn h9 T4 (fun k hk => by omega) (by omega)
    · rw [hH]; rfl
  case stop =>
    rintro pre W hsz hpre hi hD
    obtain ⟨⟨p, x, s, h1, h2, h3, h4, h5⟩, h6, h7⟩ := hi
    gi_wp2
    refine ⟨by simp, .inl ⟨_, _, rfl, run_takeDeferred hD, ?_⟩⟩
    refine ⟨_, read_results rfl rfl rfl (blk_cell' (boxed_put h6 (by omega)) rfl) (blk_cell' (boxed_put h4 (by omega)) rfl) (blk_cell' (boxed_put h5 (by omega)) rfl), ?_, .inr ⟨p, x, s, by rw [← h1]; exact hpre, h2, h3, ?_⟩⟩
    · rw [hH]; exact below_turn h7 (turn_put (fun k => k = W3.heap.size) W W3.heap.size (.deferred none) rfl) (fun k hk => by omega) (by omega)
    · rw [h1]; simp
end Go.Proofs.YtjnmoddcodnadaaGreatDoor
