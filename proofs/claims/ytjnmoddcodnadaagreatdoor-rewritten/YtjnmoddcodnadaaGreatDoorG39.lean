import Derived.Test.YtjnmoddcodnadaaGreatDoorG38
import Derived.Test.YtjnmoddcodnadaaGreatDoorG05
set_option linter.unusedVariables false
set_option linter.unusedSimpArgs false
namespace Go.Proofs.YtjnmoddcodnadaaGreatDoor
open Go.RowKit Go.Annal Go.Sort
theorem lv_of_owns {w : World} {base : Nat} {v : Value} {L : List Ln} (h : w.ownsRow base 58 2 v L.length (cells2 L)) (hf : L.length ≤ 1000000000) (hs : ∀ y ∈ L, y.1.size ≤ 1000000000) : ∃ lad cap, v = .slice lad L.length cap ∧ LinesV w lad L.length cap (lnA L) (lnM L) := by
  rcases h.2 with ⟨rfl, h0⟩ | ⟨g, cap, cur, rfl, hg, hc, hnc, hr⟩
  · refine ⟨none, 0, by rw [h0], by omega, hf, fun k hk => by omega, fun hn => by omega⟩
  · refine ⟨_, cap, rfl, hnc, hf, fun k hk => ?_, fun _ => ⟨g, 0, rfl, fun k hk => ?_, fun k hk => ?_⟩⟩
    · rw [(lnA_at L k hk).1]; exact hs _ (List.getElem_mem hk)
    · rw [Nat.zero_add, h.cellAt (k * 2) (by omega), (lnA_at L k hk).1]; exact (cells2_at L k hk).1
    · rw [Nat.zero_add, h.cellAt (k * 2 + 1) (by omega), (lnA_at L k hk).2]; exact (cells2_at L k hk).2
set_option maxHeartbeats 1000000 in
set_option maxRecDepth 100000 in
theorem redo_post (B : Nat) (s : St) (Fp : Nat → Prop) (x text : ByteArray) (w : World) (h : ProgIs w B s Fp) (ho : s.Ok) (ht : Tabs w) (hx : x.size < 1000000000) (hc : ∀ W, Calls Tryz.prog 52 #[.string text, .string ⟨#[10]⟩] W fun r w' => r = .returned (.tuple #[.string x, .bool true]) ∧ w' = W) (hw : wd x = ⟨#[112]⟩) :
    Calls Tryz.prog 27 #[.pointer (some ⟨B, 0, none⟩), .string text] w fun r w' => r = .returned (.int .i64 (doF s x).1) ∧ Redone w w' B (doF s x).2 Fp := by
  have hrx := rs_size x
  have hrx2 := rs_size (rs x)
  have CW : Hid (type_of% (redo_word (x := x) ht (by omega))) := redo_word (x := x) ht (by omega)
  rw [hw] at CW
  have CC : Hid (type_of% hc) := hc
  have C1 : Hid (∀ W, LineIs W w.heap.size (rs x) (fd x) (false || !true) → Below w.heap.size w W → _) := fun W h1 h2 => rNumber ht (Nat.le_refl _) W (rs x) (fd x) (false || !true) h1 h2 (by omega)
  have C2 : Hid (∀ W, LineIs W w.heap.size (rs (rs x)) (fd (rs x)) (((false || !true) || !(fd x)) || !(numB (wd (rs x))).isSome) → Below w.heap.size w W → Calls Tryz.prog 58 #[.pointer (some ⟨w.heap.size, 0, none⟩)] W fun r w' => ∃ lad cap L rest' more' wrong', r = .returned (.slice lad L.length cap) ∧ Hid (LinesV w' lad L.length cap (lnA L) (lnM L) ∧ LineIs w' w.heap.size rest' more' wrong' ∧ Below w.heap.size w w' ∧ (if !more' && !wrong' then pairsF ((rs (rs x)).size + 1) (rs (rs x)) (fd (rs x)) (!fd x || !(numB (wd (rs x))).isSome) = some L else pairsF ((rs (rs x)).size + 1) (rs (rs x)) (fd (rs x)) (!fd x || !(numB (wd (rs x))).isSome) = none))) := fun W h1 h2 => by
    refine (rPairs ht (Nat.le_refl _) W (rs (rs x)) (fd (rs x)) _ h1 h2 (by omega)).mono ?_
    rintro r w' ⟨v, L, rest', more', wrong', rfl, q1, q2, q3, q4, q5, q6⟩
    obtain ⟨lad, cap, rfl, hlv⟩ := lv_of_owns q1 (by omega) (fun y hy => by have := q5 y hy; omega)
    have e : (((false || !true) || !(fd x)) || !(numB (wd (rs x))).isSome) = (!fd x || !(numB (wd (rs x))).isSome) := by cases fd x <;> cases (numB (wd (rs x))).isSome <;> rfl
    rw [e] at q6
    exact ⟨lad, cap, L, rest', more', wrong', rfl, hlv, q2, q3, q6⟩
  have CP : Hid (∀ W n lad m cap ya ym, Below w.heap.size w W → LinesV W lad m cap ya ym → _) := fun W n lad m cap ya ym hW hL => progPost B s Fp n lad m cap ya ym W (h.turn (S := fun _ => False) (Turn.of_below hW) (fun _ _ h => h)) ho hL
  have HN : Hid (¬ wd x = ⟨#[111]⟩) := by show ¬ wd x = _; rw [hw]; decide
  have HH : Hid (type_of% h) := h
  have HW : Hid (type_of% hw) := hw
  have hD : ∀ n L, NumOf (wd (rs x)) n → pairsF ((rs (rs x)).size + 1) (rs (rs x)) (fd (rs x)) (!fd x || !(numB (wd (rs x))).isSome) = some L → doF s x = (s.postE n (lnA L) (lnM L) L.length, s.afterPost n (lnA L) (lnM L) L.length) := fun n L hn hp => by
    have hs : (numB (wd (rs x))).isSome = true := by
      cases hi : (numB (wd (rs x))).isSome
      · rw [hi] at hp
        have : (!fd x || !false) = true := by cases fd x <;> rfl
        rw [this, pairsF] at hp
        simp at hp
      · rfl
    unfold doF
    rw [if_neg HN.out, if_pos HW.out, hp, getD_num hn hs]
  have hE : pairsF ((rs (rs x)).size + 1) (rs (rs x)) (fd (rs x)) (!fd x || !(numB (wd (rs x))).isSome) = none → doF s x = (14, s) := fun hp => by
    unfold doF
    rw [if_neg HN.out, if_pos HW.out, hp]
  have HD : Hid (type_of% hD) := hD
  have HE : Hid (type_of% hE) := hE
  clear hD hE hw hc h ht
  go_enter Tryz.func27, Tryz.ntmps27
  go_wp2_with (first
    | (go_at_call 52; with_reducible refine Calls.mono (CC.out _) ?_; rintro e wx ⟨rfl, hw⟩; rw [hw]; clear hw wx)
    | (go_at_call 53; with_reducible refine Calls.mono (of_any _ _) ?_; rintro e wx ⟨rfl, hw⟩; rw [hw]; clear hw wx)
    | (go_at_call 54; with_reducible refine Calls.mono CW.out ?_; rintro e w2 ⟨rfl, k0⟩; have a0 := k0.out.1; have b0 := k0.out.2)
    | (go_at_call 56; with_reducible refine Calls.mono (C1.out _ a0 b0) ?_; rintro e v1 ⟨n, rfl, k1⟩; have m1 := k1.out.1; have a1 := k1.out.2.1; have b1 := k1.out.2.2)
    | (go_at_call 58; with_reducible refine Calls.mono (C2.out _ a1 b1) ?_; rintro e v2 ⟨lad, cap, L, rest', more', wrong', rfl, k2⟩))
  obtain ⟨ok, hok⟩ : ∃ ok, (!more' && !wrong') = ok := ⟨_, rfl⟩
  have CR : Hid (Calls Tryz.prog 57 #[.pointer (some ⟨w.heap.size, 0, none⟩)] v2 fun r w' => r = .returned (.bool ok) ∧ Hid (Below v2.heap.size v2 w' ∧ Below w.heap.size w w')) := by
    have := rRight v2 _ _ _ k2.out.2.1 k2.out.2.2.1
    rw [hok] at this
    exact this
  with_reducible refine Calls.mono CR.out ?_
  rintro e w4 ⟨rfl, h4⟩
  have hif := k2.out.2.2.2
  rw [hok] at hif
  have HI : Hid (type_of% hif) := hif
  clear hif hok CR
  cases ok with
  | true =>
    have hp : pairsF ((rs (rs x)).size + 1) (rs (rs x)) (fd (rs x)) (!fd x || !(numB (wd (rs x))).isSome) = some L := by have := HI.out; simpa using this
    have HP : Hid (type_of% hp) := hp
    clear hp
    go_wp2_with (go_at_call 28; with_reducible refine Calls.mono (CP.out _ n lad L.length cap (lnA L) (lnM L) h4.out.2 (k2.out.1.mv h4.out.1)) ?_; rintro e w5 ⟨rfl, h5⟩)
    go_ret
    rw [HD.out n L m1 HP.out]
    exact ⟨rfl, redone_by h4.out.2 h5⟩
  | false =>
    have hp : pairsF ((rs (rs x)).size + 1) (rs (rs x)) (fd (rs x)) (!fd x || !(numB (wd (rs x))).isSome) = none := by have := HI.out; simpa using this
    have HP : Hid (type_of% hp) := hp
    clear hp
    go_wp2
    go_ret
    rw [HE.out HP.out]
    exact ⟨rfl, redone_same HH.out h4.out.2⟩
set_option maxHeartbeats 1000000 in
set_option maxRecDepth 100000 in
theorem redo_none (B : Nat) (s : St) (Fp : Nat → Prop) (x text : ByteArray) (w : World) (h : ProgIs w B s Fp) (ht : Tabs w) (hx : x.size ≤ 1000000000) (hc : ∀ W, Calls Tryz.prog 52 #[.string text, .string ⟨#[10]⟩] W fun r w' => r = .returned (.tuple #[.string x, .bool true]) ∧ w' = W) (h1 : ¬ wd x = ⟨#[111]⟩) (h2 : ¬ wd x = ⟨#[112]⟩) (h3 : ¬ wd x = ⟨#[114]⟩) (h4 : ¬ wd x = ⟨#[108]⟩) (h5 : ¬ wd x = ⟨#[99]⟩) :
    Calls Tryz.prog 27 #[.pointer (some ⟨B, 0, none⟩), .string text] w fun r w' => r = .returned (.int .i64 (doF s x).1) ∧ Redone w w' B (doF s x).2 Fp := by
  have CW : Hid (type_of% (redo_word (x := x) ht hx)) := redo_word (x := x) ht hx
  have CC : Hid (type_of% hc) := hc
  have hD : doF s x = (14, s) := by unfold doF; rw [if_neg h1, if_neg h2, if_neg h3, if_neg h4, if_neg h5]
  rw [hD]
  obtain ⟨y, hy⟩ : ∃ y, wd x = y := ⟨_, rfl⟩
  rw [hy] at CW h1 h2 h3 h4 h5
  have g1 : (y.toList == [111]) = false := by rw [show ([111] : List UInt8) = (⟨#[111]⟩ : ByteArray).toList from by rw [ByteArray.toList_eq], beq_bytes]; exact decide_eq_false h1
  have g2 : (y.toList == [112]) = false := by rw [show ([112] : List UInt8) = (⟨#[112]⟩ : ByteArray).toList from by rw [ByteArray.toList_eq], beq_bytes]; exact decide_eq_false h2
  have g3 : (y.toList == [114]) = false := by rw [show ([114] : List UInt8) = (⟨#[114]⟩ : ByteArray).toList from by rw [ByteArray.toList_eq], beq_bytes]; exact decide_eq_false h3
  have g4 : (y.toList == [108]) = false := by rw [show ([108] : List UInt8) = (⟨#[108]⟩ : ByteArray).toList from by rw [ByteArray.toList_eq], beq_bytes]; exact decide_eq_false h4
  have g5 : (y.toList == [99]) = false := by rw [show ([99] : List UInt8) = (⟨#[99]⟩ : ByteArray).toList from by rw [ByteArray.toList_eq], beq_bytes]; exact decide_eq_false h5
  have HH : Hid (type_of% h) := h
  clear hc h ht hD hy h1 h2 h3 h4 h5
  go_enter Tryz.func27, Tryz.ntmps27
  go_wp2_with (first
    | (go_at_call 52; with_reducible refine Calls.mono (CC.out _) ?_; rintro e wx ⟨rfl, hw⟩; rw [hw]; clear hw wx)
    | (go_at_call 53; with_reducible refine Calls.mono (of_any _ _) ?_; rintro e wx ⟨rfl, hw⟩; rw [hw]; clear hw wx)
    | (go_at_call 54; with_reducible refine Calls.mono CW.out ?_; rintro e w2 ⟨rfl, k0⟩))
  go_ret
  exact ⟨rfl, redone_same HH.out k0.out.2⟩
set_option maxHeartbeats 1000000 in
set_option maxRecDepth 100000 in
theorem redo_open_end (B : Nat) (s : St) (Fp : Nat → Prop) (x text : ByteArray) (w : World) (h : ProgIs w B s Fp) (hc : ∀ W, Calls Tryz.prog 52 #[.string text, .string ⟨#[10]⟩] W fun r w' => r = .returned (.tuple #[.string x, .bool false]) ∧ w' = W) :
    Calls Tryz.prog 27 #[.pointer (some ⟨B, 0, none⟩), .string text] w fun r w' => r = .returned (.int .i64 14) ∧ Redone w w' B s Fp := by
  have CC : Hid (type_of% hc) := hc
  have HH : Hid (type_of% h) := h
  clear hc h
  go_enter Tryz.func27, Tryz.ntmps27
  go_wp2_with (go_at_call 52; with_reducible refine Calls.mono (CC.out _) ?_; rintro e wx ⟨rfl, hw⟩; rw [hw]; clear hw wx)
  go_ret
  exact ⟨rfl, redone_same HH.out (Below.refl _ _)⟩
end Go.Proofs.YtjnmoddcodnadaaGreatDoor
namespace Go.Annal
open Go.Proofs.YtjnmoddcodnadaaGreatDoor
/-- What a line does, which has its byte 10 if it is whole. -/
def redoF (s : St) (text : ByteArray) : Int × St := if Lib.hasSuffix text.data.toList [10] then doF s ⟨(Lib.trimSuffix text.data.toList [10]).toArray⟩ else (14, s)
end Go.Annal
namespace Go.Proofs.YtjnmoddcodnadaaGreatDoor
open Go.RowKit Go.Annal Go.Sort
/-- redo. -/
theorem redo_any (B : Nat) (s : St) (Fp : Nat → Prop) (text : ByteArray) (w : World) (h : ProgIs w B s Fp) (ho : s.Ok) (ht : Tabs w) (hx : text.size < 1000000000) :
    Calls Tryz.prog 27 #[.pointer (some ⟨B, 0, none⟩), .string text] w fun r w' => r = .returned (.int .i64 (redoF s text).1) ∧ Redone w w' B (redoF s text).2 Fp := by
  obtain ⟨x, hxx⟩ : ∃ x : ByteArray, (⟨(Lib.trimSuffix text.data.toList [10]).toArray⟩ : ByteArray) = x := ⟨_, rfl⟩
  have hxs : x.size ≤ text.size := by
    rw [← hxx]
    show (Lib.trimSuffix text.data.toList [10]).toArray.size ≤ text.data.size
    rw [List.size_toArray, ← Array.length_toList]
    unfold Lib.trimSuffix
    split
    · rw [List.length_take]; omega
    · exact Nat.le_refl _
  have hc : ∀ W, Calls Tryz.prog 52 #[.string text, .string ⟨#[10]⟩] W fun r w' => r = .returned (.tuple #[.string x, .bool (Lib.hasSuffix text.data.toList [10])]) ∧ w' = W := fun W => by
    rw [← hxx]
    exact Any.strings_CutSuffix Tryz.cutsufL text ⟨#[10]⟩ W (by omega)
  unfold redoF
  cases he : Lib.hasSuffix text.data.toList [10] with
  | false =>
    rw [he] at hc
    exact redo_open_end B s Fp x text w h hc
  | true =>
    rw [he] at hc
    simp only [if_true]
    rw [hxx]
    by_cases h1 : wd x = ⟨#[111]⟩
    · exact redo_open B s Fp x text w h ho ht (by omega) hc h1
    · by_cases h2 : wd x = ⟨#[112]⟩
      · exact redo_post B s Fp x text w h ho ht (by omega) hc h2
      · by_cases h3 : wd x = ⟨#[114]⟩
        · exact redo_rev B s Fp x text w h ho ht (by omega) hc h3
        · by_cases h4 : wd x = ⟨#[108]⟩
          · exact redo_lock B s Fp x text w h ho ht (by omega) hc h4
          · by_cases h5 : wd x = ⟨#[99]⟩
            · exact redo_close B s Fp x text w h ho ht (by omega) hc h5
            · exact redo_none B s Fp x text w h ht (by omega) hc h1 h2 h3 h4 h5
end Go.Proofs.YtjnmoddcodnadaaGreatDoor
namespace Go.Annal
open Go.RowKit
/-- Abides whatever turns one block, and new ones. -/
def AbB {α : Type} (b : Nat) (J : List α → World → Prop) : Prop := ∀ s W W', J s W → Turn (fun k => k = b) W W' → J s W'
/-- An iterator that keeps its place in the box b. -/
def SeqBox {α : Type} (F : Fence) (n : Nat) (P : Program) (g : Nat) (lb : Array Value) (encs : α → Array Value) (b : Nat) (S Sp : List α → Prop) (w : World) : Prop :=
  ∀ (l : Nat) (J Jx : List α → World → Prop) (W : World), W.heap[b]? = w.heap[b]? → AbB b J → AbB b Jx →
    (∀ pre x W1, J pre W1 → Sp (pre ++ [x]) → YieldAt F (n - 1) P l (encs x) W1 fun e W' => (e = .returned (.bool true) ∧ J (pre ++ [x]) W' ∧ W'.heap[b]? = W1.heap[b]?) ∨ (e = .returned (.bool false) ∧ Jx (pre ++ [x]) W')) →
    J [] W → CallsIn F n P g (#[.func (.yield l) #[] #[]] ++ lb) W fun e W' => (∃ v, e = .returned v) ∧ ((∃ xs, S xs ∧ J xs W') ∨ ∃ pre, Sp pre ∧ Jx pre W')
/-- How a round may end: its loop's two blocks lie as they lay. -/
def boxPost {α : Type} (b k : Nat) (I Ix : List α → World → Prop) (xs : List α) (W : World) : Exit → Act → World → Prop
  | .normal, _, W' => (W'.heap[k]? = W.heap[k]? ∧ W'.heap[k + 1]? = W.heap[k + 1]?) ∧ W'.heap[b]? = W.heap[b]? ∧ I xs W'
  | .ret, _, W' => (W'.heap[k]? = W.heap[k]? ∧ W'.heap[k + 1]? = W.heap[k + 1]?) ∧ Ix xs W'
  | _, _, _ => False
theorem turn_put (S : Nat → Prop) (W : World) (l : Nat) (o : Obj) (h : S l) : Turn S W (W.putObj l o) := (Turn.refl S W).of_grown (grownBy_putObj' W l o) (fun k e _ => by cases e; exact h)
variable {F : Fence} {n : Nat} {P : Program}
theorem wpIn_rangeBox {α : Type} {g : Operand} {ps : Array Tmp} {assign body : Code} {Q : Exit → Act → World → Prop} {a : Act} {w : World}
    (hro : F.round = none) (h1 : 1 ≤ n) {gf : Nat} {lb : Array Value} (hg : a.eval g = .func (.func gf) #[] lb) (hFg : F.fn gf) (eg : ∀ args w, (callFunc gf args).run P w = .ok (.enter gf args) w)
    {encs : α → Array Value} {b : Nat} {S Sp : List α → Prop} (hb : b < w.heap.size) (hseq : SeqBox F (n - 1) P gf lb encs b S Sp w) (hps : ∀ x, (encs x).size = ps.size)
    (I Ix : List α → World → Prop) (hI : ∀ s W W', I s W → Turn (fun k => k = b ∨ k = w.heap.size ∨ k = w.heap.size + 1) W W' → I s W') (hIx : ∀ s W W', Ix s W → Turn (fun k => k = b ∨ k = w.heap.size ∨ k = w.heap.size + 1) W W' → Ix s W') (h0 : I [] w) (a₁ : α → Act)
    (hassign : ∀ (l : Nat) (x : α) (W : World) (K : Act → World → Prop), K (a₁ x) W → assign.wpIn (F.inRound l) (n - 1 - 1) P (Exit.then K (fun _ _ _ => False)) { tmps := (ps.zip (encs x)).foldl (fun t (p, v) => t.setIfInBounds p v) a.tmps, defers := [] } W)
    (hbody : ∀ (l : Nat) (pre : List α) (x : α) (W : World), w.heap.size + 2 ≤ W.heap.size → I pre W → Sp (pre ++ [x]) → body.wpIn (F.inRound l) (n - 1 - 1) P (boxPost b w.heap.size I Ix (pre ++ [x]) W) (a₁ x) W)
    (hdone : ∀ (xs : List α) (W : World), w.heap.size + 2 ≤ W.heap.size → S xs → I xs W → W.heap[w.heap.size]? = some (.deferred (some [])) → Q .normal { a with defers := { target := .collected w.heap.size, args := #[] } :: a.defers } W)
    (hstop : ∀ (pre : List α) (W : World), w.heap.size + 2 ≤ W.heap.size → Sp pre → Ix pre W → W.heap[w.heap.size]? = some (.deferred (some [])) → Code.ret.wpIn F n P Q { a with defers := { target := .collected w.heap.size, args := #[] } :: a.defers } W) :
    (Code.rangeFunc g ps assign body).wpIn F n P Q a w := by
  refine wpIn_rangeFunc fun fn hfn => ?_
  rw [hro]
  let R : LoopState → Option Code → Loop := fun st pe => { state := st, pending := pe, fn, tmps := a.tmps, params := ps, assign, body, defers := w.heap.size }
  obtain ⟨W1, hW1⟩ : ∃ W1, (w.alloc (.deferred (some []))).alloc (.loop (R .ready none)) = W1 := ⟨_, rfl⟩
  have T1 : ∀ S, Turn S w W1 := fun S => by rw [← hW1]; exact ((Turn.refl S w).alloc _).alloc _
  have hl1 : W1.heap[w.heap.size + 1]? = some (.loop (R .ready none)) := by
    rw [← hW1]; have := World.alloc_heap_new (w.alloc (.deferred (some []))) (.loop (R .ready none)); rwa [World.size_alloc] at this
  have hd1 : W1.heap[w.heap.size]? = some (.deferred (some [])) := by
    rw [← hW1]; exact (Below.heap_alloc _ _ _ (by simp)).trans (World.alloc_heap_new w _)
  refine ⟨w.heap.size + 1, [{ target := .collected w.heap.size, args := #[] }], W1, { target := .fn (.func gf) lb, args := #[.func (.yield (w.heap.size + 1)) #[] #[]] }, W1, gf, #[.func (.yield (w.heap.size + 1)) #[] #[]] ++ lb, W1, ?_, ?_, ?_, ?_, fun _ => h1, ?_⟩
  · rw [← hW1]; exact run_enterLoop_outer _ _ _ _ _
  · simp only [resolve, hg]
    simp [go_sem]
  · intro f' hf'; simp [Target.leads] at hf'; subst hf'; exact hFg
  · simp [invoke, go_sem, eg]
  have keep : ∀ {W W' : World} {o : Obj} {k : Nat}, W.heap[k]? = some o → w.heap.size ≤ k → Turn (fun k => k = b) W W' → W'.heap[k]? = some o := fun {W W' o k} h hk ht => ht.blk h (by omega)
  have wide : ∀ {W W' : World}, Turn (fun k => k = b) W W' → Turn (fun k => k = b ∨ k = w.heap.size ∨ k = w.heap.size + 1) W W' := fun ht => ht.mono (fun _ _ e => .inl e)
  refine (hseq (w.heap.size + 1)
    (fun pre W => I pre W ∧ W.heap[w.heap.size + 1]? = some (.loop (R .ready none)) ∧ W.heap[w.heap.size]? = some (.deferred (some [])))
    (fun pre W => Ix pre W ∧ W.heap[w.heap.size + 1]? = some (.loop (R .done (some .ret))) ∧ W.heap[w.heap.size]? = some (.deferred (some [])))
    W1 ((T1 (fun _ => False)).block b hb (fun h => h))
    (fun s A B hs ht => ⟨hI s A B hs.1 (wide ht), keep hs.2.1 (by omega) ht, keep hs.2.2 (by omega) ht⟩)
    (fun s A B hs ht => ⟨hIx s A B hs.1 (wide ht), keep hs.2.1 (by omega) ht, keep hs.2.2 (by omega) ht⟩)
    ?_ ⟨hI _ _ _ h0 (T1 _), hl1, hd1⟩).mono ?_
  · rintro pre x W ⟨hi, hl, hk⟩ hlen
    have hlt : w.heap.size + 1 < W.heap.size := blk_lt hl
    refine ⟨fn, _, assign, body, run_yield (P := P) (args := encs x) hl (hps x), roundIn_of_wpIn hfn (hassign _ x W _ ⟨_, run_beginRound hl rfl, ?_⟩)⟩
    have hl2 : (W.putObj (w.heap.size + 1) (.loop (R .busy none))).heap[w.heap.size + 1]? = some (.loop (R .busy none)) := World.putObj_heap_same hlt
    have hk2 : (W.putObj (w.heap.size + 1) (.loop (R .busy none))).heap[w.heap.size]? = some (.deferred (some [])) := (World.putObj_heap_other (by omega)).trans hk
    have hb2 : (W.putObj (w.heap.size + 1) (.loop (R .busy none))).heap[b]? = W.heap[b]? := World.putObj_heap_other (by omega)
    refine wpIn_mono (hbody _ pre x _ (by rw [World.putObj_size]; omega) (hI _ _ _ hi (turn_put _ _ _ _ (.inr (.inr rfl)))) hlen) ?_
    rintro e a3 W3 hp
    cases e with
    | normal =>
      obtain ⟨⟨q1, q2⟩, q3, q4⟩ := hp
      have hl3 := q2.trans hl2
      refine ⟨_, _, run_endRound (P := P) none hl3, .inl ⟨rfl, ⟨hI _ _ _ q4 (turn_put _ _ _ _ (.inr (.inr rfl))), World.putObj_heap_same (blk_lt hl3), (World.putObj_heap_other (by omega)).trans (q1.trans hk2)⟩, (World.putObj_heap_other (by omega)).trans (q3.trans hb2)⟩⟩
    | ret =>
      obtain ⟨⟨q1, q2⟩, q3⟩ := hp
      have hl3 := q2.trans hl2
      exact ⟨_, _, run_endRound (P := P) (some .ret) hl3, .inr ⟨rfl, hIx _ _ _ q3 (turn_put _ _ _ _ (.inr (.inr rfl))), World.putObj_heap_same (blk_lt hl3), (World.putObj_heap_other (by omega)).trans (q1.trans hk2)⟩⟩
    | exit id => exact hp.elim
    | goto t => exact hp.elim
    | panic ch => exact hp.elim
    | outgrown => exact hp.elim
  · rintro e W2 ⟨⟨v, rfl⟩, (⟨xs, hS, hi, hl, hk⟩ | ⟨pre, hSp, hi, hl, hk⟩)⟩
    · have hlt := blk_lt hl
      exact ⟨none, _, run_endLoop (P := P) hl (by simp [R]), hdone xs _ (by rw [World.putObj_size]; omega) hS (hI _ _ _ hi (turn_put _ _ _ _ (.inr (.inr rfl)))) ((World.putObj_heap_other (by omega)).trans hk)⟩
    · have hlt := blk_lt hl
      exact ⟨some .ret, _, run_endLoop (P := P) hl (by simp [R]), hstop pre _ (by rw [World.putObj_size]; omega) hSp (hIx _ _ _ hi (turn_put _ _ _ _ (.inr (.inr rfl)))) ((World.putObj_heap_other (by omega)).trans hk)⟩
end Go.Annal
namespace Go.Annal
open Go.RowKit
/-- The lines of a text, each with its byte 10. -/
def lnsL : List UInt8 → List (List UInt8)
  | [] => []
  | b :: t => if b = 10 then [b] :: lnsL t else match lnsL t with
    | [] => [[b]]
    | l :: ls => (b :: l) :: ls
def lns (x : ByteArray) : List ByteArray := (lnsL x.data.toList).map (fun l => ⟨l.toArray⟩)
theorem indexByte_low (c : UInt8) : ∀ l, -1 ≤ Lib.indexByte l c
  | [] => by simp [Lib.indexByte]
  | b :: t => by
    have := indexByte_low c t
    unfold Lib.indexByte
    split
    · decide
    · split
      · decide
      · omega
theorem lnsL_none : ∀ l, Lib.indexByte l 10 = -1 → l ≠ [] → lnsL l = [l]
  | [], _, h => absurd rfl h
  | b :: t, h, _ => by
    unfold Lib.indexByte at h
    by_cases hb : b = 10
    · subst hb; simp at h
    · rw [if_neg (by simpa using hb)] at h
      by_cases ht : Lib.indexByte t 10 = -1
      · unfold lnsL
        rw [if_neg hb]
        cases t with
        | nil => rfl
        | cons c u => rw [lnsL_none (c :: u) ht (by simp)]
      · rw [if_neg (by simpa using ht)] at h
        have := indexByte_low 10 t
        omega
theorem lnsL_some : ∀ l i, Lib.indexByte l 10 = (i : Int) → 0 ≤ i → i.toNat + 1 ≤ l.length ∧ lnsL l = l.take (i.toNat + 1) :: lnsL (l.drop (i.toNat + 1))
  | [], i, h, h0 => by simp [Lib.indexByte] at h; omega
  | b :: t, i, h, h0 => by
    unfold Lib.indexByte at h
    by_cases hb : b = 10
    · subst hb
      simp at h
      subst h
      exact ⟨by simp, by simp [lnsL]⟩
    · rw [if_neg (by simpa using hb)] at h
      by_cases ht : Lib.indexByte t 10 = -1
      · rw [if_pos (by simpa using ht)] at h; omega
      · rw [if_neg (by simpa using ht)] at h
        have hl := indexByte_low 10 t
        obtain ⟨h1, h2⟩ := lnsL_some t (i - 1) (by omega) (by omega)
        have e : i.toNat = (i - 1).toNat + 1 := by omega
        refine ⟨by simp; omega, ?_⟩
        rw [lnsL, if_neg hb, h2, e]
        simp
theorem extract_list (x : ByteArray) (a b : Nat) : (x.extract a b).data.toList = (x.data.toList.drop a).take (b - a) := by
  rw [ByteArray.data_extract]
  simp [Array.toList_extract]
theorem lns_none (x : ByteArray) (h : Lib.indexByte x.data.toList 10 = -1) (hx : 0 < x.size) : lns x = [x] := by
  unfold lns
  rw [lnsL_none _ h (fun e => by have : x.data.toList.length = 0 := by rw [e]; rfl
                                 have h2 : x.data.size = 0 := by simpa using this
                                 have : x.size = x.data.size := rfl
                                 omega)]
  rfl
theorem lns_some (x : ByteArray) (i : Int) (h : Lib.indexByte x.data.toList 10 = i) (h0 : 0 ≤ i) : i.toNat + 1 ≤ x.size ∧ lns x = x.extract 0 (i.toNat + 1) :: lns (x.extract (i.toNat + 1) x.size) := by
  obtain ⟨h1, h2⟩ := lnsL_some _ i h h0
  refine ⟨by simpa using h1, ?_⟩
  unfold lns
  rw [h2, List.map_cons, extract_list]
  congr 1
  · have := extract_list x 0 (i.toNat + 1)
    simp only [List.drop_zero, Nat.sub_zero] at this
    rw [← this]
  · rw [List.take_of_length_le]
    simp
theorem lns_nil (x : ByteArray) (h : x.size = 0) : lns x = [] := by
  have : x.data.toList = [] := List.length_eq_zero_iff.1 (by simpa using h)
  unfold lns; rw [this]; rfl
def boxSize (w : World) (b : Nat) : Nat := match w.cell? ⟨b, 0, none⟩ with
  | some (.string s) => s.size
  | _ => 0
end Go.Annal
namespace Go.Proofs.YtjnmoddcodnadaaGreatDoor
open Go.RowKit Go.Annal Go.Sort Go.Shelf
attribute [local go_sem] Oper.semAt_some
set_option maxRecDepth 100000 in
set_option maxHeartbeats 1000000 in
theorem lines1_in (n : Nat) (hn : 3 ≤ n) (l b : Nat) (text : ByteArray) (hsz : text.size ≤ 1000000000000)
    (J Jx : List ByteArray → World → Prop) (hJ : AbB b J)
    (hY : ∀ pre x W, J pre W → (pre ++ [x]) <+: lns text → YieldAt Fence.wide (n - 1) Tryz.prog l #[.string x] W fun e W' => (e = .returned (.bool true) ∧ J (pre ++ [x]) W' ∧ W'.heap[b]? = W.heap[b]?) ∨ (e = .returned (.bool false) ∧ Jx (pre ++ [x]) W'))
    (W : World) (hb : Boxed W b 9 (.string text)) (h0 : J [] W) :
    CallsIn Fence.wide n Tryz.prog 50 #[.func (.yield l) #[] #[], .pointer (some ⟨b, 0, none⟩)] W fun e W' => (∃ v, e = .returned v) ∧ ((∃ xs, xs = lns text ∧ J xs W') ∨ ∃ pre, pre <+: lns text ∧ Jx pre W') := by
  refine callsIn_of_wp Tryz.func50 rfl trivial ?_ rfl
  simp only [Tryz.ntmps50, List.size_toArray, List.length_cons, List.length_nil, Nat.reduceAdd, Nat.reduceSub, Array.replicate_succ, Array.replicate_zero, List.push_toArray, List.append_toArray, List.nil_append, List.cons_append]
  gi_wp2
  gi_loopw [3, 4] (fun _ _ wr => ∃ (pre : List ByteArray) (rest : ByteArray), rest.size ≤ text.size ∧ pre ++ lns rest = lns text ∧ Boxed wr b 9 (.string rest) ∧ J pre wr)
    (fun _ _ wr => boxSize wr b)
  case atStart => exact ⟨[], text, Nat.le_refl _, rfl, hb, h0⟩
  case round =>
    obtain ⟨pre, rest, hr, hl, hB, hj⟩ := hrel
    have cb : wr.cell? ⟨b, 0, none⟩ = some (.string rest) := blk_cell' hB (o := 0) rfl
    have fb := blk_free hB 0
    by_cases h0' : rest.size = 0
    · have hz : ¬ (0 : Int) < (rest.size : Int) := by omega
      have HL : Hid (pre = lns text) := by rw [lns_nil rest h0', List.append_nil] at hl; exact hl
      clear hl hY hb
      gi_wp2
      go_end0
      exact ⟨⟨_, rfl⟩, .inl (HL.out ▸ hj)⟩
    · have hz : (0 : Int) < (rest.size : Int) := by omega
      have mixed : Tryz.prog.follows .mixedOrders = true := by kernel_rfl
      have hi := Any.strings_IndexByte Tryz.indexbL rest 10 wr
      obtain ⟨i, hie⟩ : ∃ i, Lib.indexByte rest.data.toList (10 : Int).toNat.toUInt8 = i := ⟨_, rfl⟩
      have hlow : -1 ≤ i := by rw [← hie]; exact indexByte_low _ _
      rw [hie] at hi
      by_cases hi0 : 0 ≤ i
      · obtain ⟨hsz1, hsp⟩ := lns_some rest i hie hi0
        have hlt : i + 1 ≤ (rest.size : Int) := by omega
        have hlt0 : 0 ≤ i + 1 := by omega
        have ei : i.toNat + 1 = (i + 1).toNat := by omega
        rw [ei] at hsp
        have HS : Hid (type_of% hsp) := hsp
        have HL : Hid (type_of% hl) := hl
        have HZ : Hid (((rest.extract (i + 1).toNat rest.size) : ByteArray).size < rest.size) := by show (ByteArray.extract _ _ _).size < _; rw [ByteArray.size_extract]; omega
        clear hsp hl hb ei
        have hT : Turn (fun k => k = b) wr (wr.setCell ⟨b, 0, none⟩ (.string (rest.extract (i + 1).toNat rest.size))).drew := ((Turn.refl (fun k => k = b) wr).set ⟨b, 0, none⟩ _ (fun _ => rfl)).drew
        have hJ2 := hJ pre _ _ hj hT
        have hB2 : Boxed (wr.setCell ⟨b, 0, none⟩ (.string (rest.extract (i + 1).toNat rest.size))).drew b 9 (.string (rest.extract (i + 1).toNat rest.size)) := blk_set hB 0 (.string (rest.extract (i + 1).toNat rest.size))
        obtain ⟨fn, tmps, assign, body, hy, hR⟩ := hY pre (rest.extract 0 (i + 1).toNat) _ hJ2 ⟨lns (rest.extract (i + 1).toNat rest.size), by rw [← HL.out, HS.out]; simp⟩
        have hY2 : ((rest.extract (i + 1).toNat rest.size) : ByteArray).size ≤ text.size ∧ ((rest.extract (i + 1).toNat rest.size) : ByteArray).size < rest.size := ⟨by have := HZ.out; omega, HZ.out⟩
        have HB2 : Hid (type_of% hB2) := hB2
        clear hY hB2 hJ2 hT
        gi_wp2
        refine ⟨trivial, fun _ => by omega, (callsIn_wide.2 hi).mono ?_⟩
        rintro e wx ⟨rfl, hw⟩
        rw [hw]
        clear hw wx
        gi_wp2
        gi_region_o
        all_goals gi_wp2
        refine ⟨fun _ => by omega, ?_⟩
        refine hR.mono ?_
        rintro e W3 (⟨rfl, hJ3, hk3⟩ | ⟨rfl, hJx3⟩)
        · clear hR hy
          have hB3 : Boxed W3 b 9 (.string (rest.extract (i + 1).toNat rest.size)) := hk3.trans HB2.out
          gi_wp2
          go_roundw
          case rel => exact ⟨pre ++ [(rest.extract 0 (i + 1).toNat)], (rest.extract (i + 1).toNat rest.size), hY2.1, by rw [← HL.out, HS.out]; simp, hB3, hJ3⟩
          case measure =>
            have e1 : boxSize W3 b = ((rest.extract (i + 1).toNat rest.size) : ByteArray).size := by unfold boxSize; rw [show W3.cell? ⟨b, 0, none⟩ = some (.string (rest.extract (i + 1).toNat rest.size)) from blk_cell' hB3 rfl]
            have e2 : boxSize wr b = rest.size := by unfold boxSize; rw [cb]
            rw [e1, e2]; exact hY2.2
        · clear hR hy
          gi_wp2
          refine bodyPost_ret (results_none rfl _ _ _) rfl ?_
          exact ⟨⟨_, rfl⟩, .inr ⟨_, ⟨lns (rest.extract (i + 1).toNat rest.size), by rw [← HL.out, HS.out]; simp⟩, hJx3⟩⟩
      · have hi1 : i = -1 := by omega
        subst hi1
        have hsp := lns_none rest hie (by omega)
        have HS : Hid (lns rest = rest :: lns ⟨#[]⟩) := by show lns rest = _; rw [hsp]; rfl
        have HL : Hid (type_of% hl) := hl
        have HZ : Hid ((⟨#[]⟩ : ByteArray).size < rest.size) := by show 0 < rest.size; omega
        clear hsp hl hb
        have hT : Turn (fun k => k = b) wr (wr.setCell ⟨b, 0, none⟩ (.string ⟨#[]⟩)) := (Turn.refl (fun k => k = b) wr).set ⟨b, 0, none⟩ _ (fun _ => rfl)
        have hJ2 := hJ pre _ _ hj hT
        have hB2 : Boxed (wr.setCell ⟨b, 0, none⟩ (.string ⟨#[]⟩)) b 9 (.string ⟨#[]⟩) := blk_set hB 0 (.string ⟨#[]⟩)
        obtain ⟨fn, tmps, assign, body, hy, hR⟩ := hY pre rest _ hJ2 ⟨lns ⟨#[]⟩, by rw [← HL.out, HS.out]; simp⟩
        have hY2 : (⟨#[]⟩ : ByteArray).size ≤ text.size ∧ (⟨#[]⟩ : ByteArray).size < rest.size := ⟨by have := HZ.out; omega, HZ.out⟩
        have HB2 : Hid (type_of% hB2) := hB2
        clear hY hB2 hJ2 hT
        gi_wp2
        refine ⟨trivial, fun _ => by omega, (callsIn_wide.2 hi).mono ?_⟩
        rintro e wx ⟨rfl, hw⟩
        rw [hw]
        clear hw wx
        gi_wp2
        refine ⟨fun _ => by omega, ?_⟩
        refine hR.mono ?_
        rintro e W3 (⟨rfl, hJ3, hk3⟩ | ⟨rfl, hJx3⟩)
        · clear hR hy
          have hB3 : Boxed W3 b 9 (.string ⟨#[]⟩) := hk3.trans HB2.out
          gi_wp2
          go_roundw
          case rel => exact ⟨pre ++ [rest], ⟨#[]⟩, hY2.1, by rw [← HL.out, HS.out]; simp, hB3, hJ3⟩
          case measure =>
            have e1 : boxSize W3 b = (⟨#[]⟩ : ByteArray).size := by unfold boxSize; rw [show W3.cell? ⟨b, 0, none⟩ = some (.string ⟨#[]⟩) from blk_cell' hB3 rfl]
            have e2 : boxSize wr b = rest.size := by unfold boxSize; rw [cb]
            rw [e1, e2]; exact hY2.2
        · clear hR hy
          gi_wp2
          refine bodyPost_ret (results_none rfl _ _ _) rfl ?_
          exact ⟨⟨_, rfl⟩, .inr ⟨_, ⟨lns ⟨#[]⟩, by rw [← HL.out, HS.out]; simp⟩, hJx3⟩⟩
set_option maxHeartbeats 400000 in
theorem lines_any (text : ByteArray) (w : World) :
    Calls Tryz.prog 26 #[.string text] w fun e w' => e = .returned (.func (.func 50) #[] #[.pointer (some ⟨w.heap.size, 0, none⟩)]) ∧ w' = w.alloc (.cells #[.string text] 9) := by
  go_enter Tryz.func26, Tryz.ntmps26
  go_wp2
  go_ret
  exact ⟨rfl, rfl⟩
theorem lines_box (n : Nat) (hn : 3 ≤ n) (b : Nat) (text : ByteArray) (w : World) (hsz : text.size ≤ 1000000000000) (hb : Boxed w b 9 (.string text)) :
    SeqBox Fence.wide n Tryz.prog 50 #[.pointer (some ⟨b, 0, none⟩)] (fun x : ByteArray => #[.string x]) b (fun xs => xs = lns text) (fun pre => pre <+: lns text) w := fun l J Jx W hW hJ _ hY h0 =>
  lines1_in n hn l b text hsz J Jx hJ hY W (hW.trans hb) h0
end Go.Proofs.YtjnmoddcodnadaaGreatDoor
