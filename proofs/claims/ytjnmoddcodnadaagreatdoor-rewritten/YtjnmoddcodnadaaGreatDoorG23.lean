import Derived.Test.YtjnmoddcodnadaaGreatDoorG22
import Derived.Test.YtjnmoddcodnadaaGreatDoorG02
set_option linter.unusedVariables false
set_option linter.unusedSimpArgs false
namespace Go.Proofs.YtjnmoddcodnadaaGreatDoor
open Go.RowKit Go.Annal
attribute [local go_sem ↓] Go.wp_at_zero Go.wp_at_succ
/-- What a document's book notes of an entry: its line, up to the n-th of its lines. -/
def postT (day : Int) (xa : Nat → ByteArray) (xm : Nat → Int) : Nat → ByteArray
  | 0 => ⟨#[112, 32]⟩ ++ ⟨(digZ day).toArray⟩
  | k + 1 => postT day xa xm k ++ ⟨#[32]⟩ ++ xa k ++ ⟨#[32]⟩ ++ ⟨(digZ (xm k)).toArray⟩

set_option maxRecDepth 100000 in
set_option maxHeartbeats 2000000 in
theorem PostR_ok (R n cap ne ce lg lo : Nat) (av : Value) (ade : Option Addr) (xs : List Value) (xa : Nat → ByteArray) (xm : Nat → Int) (day lk : Int) (t : ByteArray) (w : World) (h : dayB day = true)
    (CW : Calls Tryz.prog 124 #[.pointer (some ⟨R, 0, none⟩), .slice (some ⟨lg, lo, none⟩) n cap] w fun r w' => r = .returned (.int .i64 0) ∧ ∃ q, w' = w.drewN q)
    (hR : w.heap[R]? = some (.cells #[av, .slice ade ne ce, .int .i64 lk, .string t] 103 (0, 0))) (hown : w.ownsRow 0 158 3 (.slice ade ne ce) ne xs)
    (hL : LinesAt w lg lo n xa xm) (hn : 2 ≤ n) (hn6 : n ≤ 6) (hxa : ∀ k, k < n → (xa k).size ≤ 1000000000) (hxm : ∀ k, k < n → -1000000000 ≤ xm k ∧ xm k ≤ 1000000000) (ht : t.size ≤ 900000000000)
    (hlk : ¬ day ≤ lk) (hne : ne < 60) :
    Calls Tryz.prog 80 #[.pointer (some ⟨R, 0, none⟩), .int .i64 day, .slice (some ⟨lg, lo, none⟩) n cap] w fun r w' => r = .returned (.tuple #[.int .i64 ((ne + 1 : Nat) : Int), .int .i64 0]) ∧ ∃ g cap' gl cl t', (t'.size ≤ t.size + 7000000000 ∧ t' = t ++ postT day xa xm n ++ ⟨#[10]⟩) ∧
      w'.heap[R]? = some (.cells #[av, .slice (some ⟨g, 0, none⟩) (ne + 1) cap', .int .i64 lk, .string t'] 103 (0, 0)) ∧
      w'.ownsRow 0 158 3 (.slice (some ⟨g, 0, none⟩) (ne + 1) cap') (ne + 1) (xs ++ [.int .i64 day, .slice (some ⟨gl, 0, none⟩) n cl, .bool false]) ∧
      w'.ownsRow w.heap.size 58 2 (.slice (some ⟨gl, 0, none⟩) n cl) n (lineCells xa xm n) ∧
      Turn (fun k => k = R ∨ (Value.slice ade ne ce).ownBlock = some k) w w' ∧ ((Value.slice ade ne ce).ownBlock = some g ∨ w.heap.size ≤ g) := by
  obtain ⟨i0, hi, hz0, hz1, hz2⟩ := info_parts Tryz.infoLine
  have C1 : Hid _ := isDayR_any day w
  rw [h] at C1
  have C2 : Hid _ := CW
  clear CW
  have hdb := dayB_yes h
  obtain ⟨hd0, hd1⟩ := hdb
  have CD := fun W => digits_any day W (by omega) (by omega)
  have HD : Hid _ := CD
  have hdl := digZ_len day
  clear CD
  have cE := blk_cell' hR (o := 1) rfl
  have cL := blk_cell' hR (o := 2) rfl
  have hne' : ¬ (60 : Int) ≤ (ne : Int) := by omega
  have hsrc : ∀ W, Below w.heap.size w W → SrcAt W 2 (.slice (some ⟨lg, lo, none⟩) n cap) n (lineCells xa xm n) := fun W hW => .inr ⟨_, _, rfl, lineCells_len _ _ _, fun j u hj => by
    have hjl : j < n * 2 := by have := (List.getElem?_eq_some_iff.1 hj).1; rwa [lineCells_len] at this
    refine cell_later hW ?_
    rw [addr_add]
    rcases Nat.mod_two_eq_zero_or_one j with hm | hm
    · obtain ⟨k, rfl⟩ : ∃ k, j = k * 2 := ⟨j / 2, by omega⟩
      rw [lineCells_a _ _ _ _ (by omega)] at hj
      cases hj
      exact hL.ca k (by omega)
    · obtain ⟨k, rfl⟩ : ∃ k, j = k * 2 + 1 := ⟨j / 2, by omega⟩
      rw [lineCells_m _ _ _ _ (by omega)] at hj
      cases hj
      rw [← Nat.add_assoc]
      exact hL.cm k (by omega)⟩
  have hBq : ∀ q, Below w.heap.size w (w.drewN q) := fun q => ⟨rfl, rfl, rfl, Nat.le_refl _, fun _ _ => rfl⟩
  have hone : ∀ u ∈ lineCells xa xm n, u.oneCell' = true := cells2_one _
  clear hL
  have HPT : Hid (∀ k, postT day xa xm (k + 1) = postT day xa xm k ++ ⟨#[32]⟩ ++ xa k ++ ⟨#[32]⟩ ++ ⟨(digZ (xm k)).toArray⟩) := fun k => rfl
  have hp0 : postT day xa xm 0 = ⟨#[112, 32]⟩ ++ ⟨(digZ day).toArray⟩ := rfl
  generalize digZ day = dl at HD hdl hp0
  have HP0 : Hid (type_of% hp0) := hp0
  clear hp0
  generalize hpt : postT day xa xm = pt at HPT HP0 ⊢
  clear hpt
  go_enter Tryz.func80, Tryz.ntmps80
  go_wp2_with (first
    | (go_at_call 82; refine Calls.mono C1.out ?_; rintro e wx ⟨rfl, hw⟩; rw [hw]; clear hw wx)
    | (go_at_call 124; refine Calls.mono C2.out ?_; rintro e wx ⟨rfl, q, hw⟩; rw [hw]; clear hw wx)
    | (at_builtin; refine wpList_append_src rfl (.tmp 39) (.tmp 40) 54 rfl w.heap.size 58 i0 _ 2 24 Tryz.underlying54 hi hz0 hz1 hz2 rfl (by decide) (.slice none 0 0) 0 [] rfl (World.ownsRow_nil _ _ _ _) _ n (lineCells xa xm n) rfl (hsrc _ (hBq _)) hone (by unfold maxLen; omega) (by omega) (Nat.le_refl _) ?_; intro v1 w1 hown1 hg1; have hB1 := (hBq q).grown hg1 (Nat.le_refl _) (fun k hk => by cases hk)))
  rw [Nat.zero_add, List.nil_append] at hown1
  rcases hown1.2 with ⟨_, h0⟩ | ⟨gl, cl, cur, rfl, hgl, hglh, _⟩
  · omega
  have hcl : ∀ j, j < n * 2 → w1.cell? ⟨gl, j, none⟩ = (lineCells xa xm n)[j]? := fun j hj => hown1.cellAt j hj
  refine Calls.mono (HD.out _) ?_
  rintro e w2 ⟨rfl, hg2⟩
  have hB2 := hB1.trans (hg2.below.mono hB1.size)
  have own2 := owns_mv hown1 hg2.below
  have hB12 := hg2.below
  clear C1 C2 HD hsrc hg1 hglh hg2
  go_wp2
  go_loopw [11, 12] (fun sv iv wr => ∃ (k : Nat) (sx : ByteArray), k ≤ n ∧ iv = .int .i64 k ∧ sv = .string sx ∧ sx.size ≤ 100 + k * 1000000100 ∧ Hid (sx = pt k) ∧ Below w1.heap.size w1 wr) (fun _ iv _ => n - (intOf iv).toNat)
  case atStart => exact ⟨0, _, Nat.zero_le _, rfl, rfl, by simp only [ByteArray.size_append, sz_arr, List.size_toArray, List.length_cons, List.length_nil]; omega, show Hid _ from HP0.out.symm, hB12⟩
  case round =>
    obtain ⟨k, sx, hk, rfl, rfl, hsx, hpk, hB⟩ := hrel
    by_cases hlt : k < n
    · have hlt' : (k : Int) < (n : Int) := by omega
      have hk0 : (0 : Int) ≤ (k : Int) := by omega
      have ca := (cell_later hB ((hcl (k * 2) (by omega)).trans (lineCells_a xa xm n k hlt)))
      have cm := (cell_later hB ((hcl (k * 2 + 1) (by omega)).trans (lineCells_m xa xm n k hlt)))
      have hxs := hxa k hlt
      have hxb := hxm k hlt
      have CD0 := fun W => digits_any (xm k) W (by omega) (by omega)
      have HD : Hid _ := CD0
      have hdl2 := digZ_len (xm k)
      have hps := HPT.out k
      generalize digZ (xm k) = d2 at HD hdl2 hps
      rw [← hpk.out] at hps
      clear CD0 hcl
      have HPS : Hid (type_of% hps) := hps
      clear hps
      generalize xa k = nm at *
      generalize xm k = am at *
      have p1 : ∀ W : World, (Op.stringOp .add sx ⟨#[32]⟩).run Tryz.prog W = .ok (.string (sx ++ ⟨#[32]⟩)) W := fun W => run_string_add_sum W _ _ (by simp only [sz_arr, List.size_toArray, List.length_cons, List.length_nil]; omega)
      have p2 : ∀ W : World, (Op.stringOp .add (sx ++ ⟨#[32]⟩) nm).run Tryz.prog W = .ok (.string (sx ++ ⟨#[32]⟩ ++ nm)) W := fun W => run_string_add_sum W _ _ (by simp only [ByteArray.size_append, sz_arr, List.size_toArray, List.length_cons, List.length_nil]; omega)
      have p3 : ∀ W : World, (Op.stringOp .add (sx ++ ⟨#[32]⟩ ++ nm) ⟨#[32]⟩).run Tryz.prog W = .ok (.string (sx ++ ⟨#[32]⟩ ++ nm ++ ⟨#[32]⟩)) W := fun W => run_string_add_sum W _ _ (by simp only [ByteArray.size_append, sz_arr, List.size_toArray, List.length_cons, List.length_nil]; omega)
      have p4 : ∀ W : World, (Op.stringOp .add (sx ++ ⟨#[32]⟩ ++ nm ++ ⟨#[32]⟩) ⟨d2.toArray⟩).run Tryz.prog W = .ok (.string (sx ++ ⟨#[32]⟩ ++ nm ++ ⟨#[32]⟩ ++ ⟨d2.toArray⟩)) W := fun W => run_string_add_sum W _ _ (by simp only [ByteArray.size_append, sz_arr, List.size_toArray, List.length_cons, List.length_nil]; omega)
      go_wp2
      go_region_held3 (fun w' => w'.cell? ⟨gl, k * 2, none⟩ = some (.string nm) ∧ w'.cell? ⟨gl, k * 2 + 1, none⟩ = some (.int .i64 am))
        (first | go_keep | (exact ⟨cell_later (below_drew hg3.below) ca, cell_later (below_drew hg3.below) cm⟩))
        (first | (go_at_call 79; refine Calls.mono (HD.out _) ?_; rintro e w3 ⟨rfl, hg3⟩))
      all_goals go_wp2
      all_goals
        refine ⟨⟨k + 1, _, by omega, by go_num, rfl, ?_, show Hid _ from HPS.out.symm, hB.trans ((below_drew hg3.below).mono hB.size)⟩, by simp [intOf]; omega⟩
        simp only [ByteArray.size_append, sz_arr, List.size_toArray, List.length_cons, List.length_nil]; omega
    · have hlt' : ¬ (k : Int) < (n : Int) := by omega
      have hke : k = n := by omega
      subst hke
      have hBw : Below w.heap.size w wr := hB1.trans (hB.mono hB1.size)
      have Rr := (hBw.block R (blk_lt hR)).trans hR
      have hRlt := blk_lt hR
      have hge : (Value.slice ade ne ce).ownBlock ≠ some R := fun h => by
        obtain ⟨c, fz, hc⟩ := owns_kind hown R h
        rw [hR] at hc; simp at hc
      have ownE := owns_mv hown hBw
      have ownL := owns_mv hown1 hB
      have hEl : ∀ g, (Value.slice ade ne ce).ownBlock = some g → g < w.heap.size := fun g h => (hown.lt g h).2
      clear hcl hown hown1 own2 hB2 hB12 hB cE cL
      go_wp2_with fail
      refine Calls.mono (note_any R _ _ _ t sx wr Rr (by omega)) ?_
      rintro e w4 ⟨rfl, rfl⟩
      have R4 := blk_set Rr 3 (.string (t ++ sx ++ ⟨#[10]⟩))
      have ownE4 := ownsRow_setCell_other ownE (a := ⟨R, 3, none⟩) hge (.string (t ++ sx ++ ⟨#[10]⟩))
      have ownL4 := ownsRow_setCell_other ownL (a := ⟨R, 3, none⟩) (fun h => by simp only [Value.ownBlock, Option.some.injEq] at h; omega) (.string (t ++ sx ++ ⟨#[10]⟩))
      have T4 : Turn (fun k => k = R ∨ (Value.slice ade ne ce).ownBlock = some k) w (wr.setCell ⟨R, 3, none⟩ (.string (t ++ sx ++ ⟨#[10]⟩))) := Turn.set (Turn.of_below hBw) ⟨R, 3, none⟩ _ (fun _ => Or.inl rfl)
      have hsz4 : w.heap.size ≤ (wr.setCell ⟨R, 3, none⟩ (.string (t ++ sx ++ ⟨#[10]⟩))).heap.size := T4.size
      have hsize : Hid ((t ++ sx ++ ⟨#[10]⟩ : ByteArray).size ≤ t.size + 7000000000 ∧ (t ++ sx ++ ⟨#[10]⟩ : ByteArray) = t ++ pt k ++ ⟨#[10]⟩) := by
        refine ⟨?_, by rw [hpk.out]⟩
        simp only [ByteArray.size_append, sz_arr, List.size_toArray, List.length_cons, List.length_nil]; omega
      clear Rr ownE ownL hBw
      generalize (t ++ sx ++ ⟨#[10]⟩ : ByteArray) = tx at *
      go_wp2_with fail
      refine Calls.mono (enterR_any R ne av (.slice ade ne ce) (.int .i64 lk) (.string tx) (.slice (some ⟨gl, 0, none⟩) k cl) xs day false _ R4 ownE4 (by omega) rfl) ?_
      rintro e w5 ⟨rfl, g, cap', hR5, own5, T5, hat⟩
      have T6 := T4.trans T5
      have ownL6 := owns_turn ownL4 T5 (fun g' h' => by
        simp only [Value.ownBlock, Option.some.injEq] at h'
        subst h'
        rintro (h | h)
        · omega
        · have := hEl _ h; omega)
      clear R4 ownE4 ownL4 T4 T5
      go_wp2
      refine bodyPost_ret (results_tmp2 rfl _ _ _) rfl ?_
      refine ⟨rfl, g, cap', gl, cl, tx, hsize.out, hR5, own5, ownL6, T6, ?_⟩
      rcases hat with h | h
      · exact .inl h
      · exact .inr (by omega)
end Go.Proofs.YtjnmoddcodnadaaGreatDoor
namespace Go.Annal
def revE (inr gone late full : Bool) : Int := if !inr then 7 else if gone then 12 else if late then 11 else if full then 4 else 0
def revDay (d lk : Int) : Int := if d ≤ lk then lk + 1 else d
end Go.Annal
namespace Go.Proofs.YtjnmoddcodnadaaGreatDoor
open Go.RowKit Go.Annal
set_option maxRecDepth 100000 in
set_option maxHeartbeats 1000000 in
theorem ReverseR_none (R ne ce : Nat) (ade : Option Addr) (c0 c2 c3 : Value) (entry : Int) (w : World) (hR : w.heap[R]? = some (.cells #[c0, .slice ade ne ce, c2, c3] 103 (0, 0))) (hn : entry < 1 ∨ (ne : Int) < entry) :
    Calls Tryz.prog 42 #[.pointer (some ⟨R, 0, none⟩), .int .i64 entry] w fun r w' => r = .returned (.tuple #[.int .i64 0, .int .i64 7]) ∧ Below w.heap.size w w' := by
  have cE := blk_cell' hR (o := 1) rfl
  by_cases h1 : entry < 1
  · go_enter Tryz.func42, Tryz.ntmps42
    go_wp2
    all_goals go_ret2
    all_goals exact ⟨rfl, Below.refl _ _⟩
  · have h2 : (ne : Int) < entry := by omega
    have h1' : decide (entry < 1) = false := by simpa using h1
    go_enter Tryz.func42, Tryz.ntmps42
    go_wp2
    all_goals go_ret2
    all_goals exact ⟨rfl, Below.refl _ _⟩
set_option maxRecDepth 100000 in
set_option maxHeartbeats 1000000 in
theorem ReverseR_err (R ne ce e ge gl n cl : Nat) (c0 c3 : Value) (lk dy : Int) (gn : Bool) (w : World) (hR : w.heap[R]? = some (.cells #[c0, .slice (some ⟨ge, 0, none⟩) ne ce, .int .i64 lk, c3] 103 (0, 0))) (he : e < ne) (hne : ne ≤ 1000)
    (cd : w.cell? ⟨ge, e * 3, none⟩ = some (.int .i64 dy)) (cl' : w.cell? ⟨ge, e * 3 + 1, none⟩ = some (.slice (some ⟨gl, 0, none⟩) n cl)) (cg : w.cell? ⟨ge, e * 3 + 2, none⟩ = some (.bool gn)) (hlk : -1 ≤ lk ∧ lk ≤ 9999)
    (hE : revE true gn (decide (9999 < revDay dy lk)) (decide (60 ≤ ne)) ≠ 0) :
    Calls Tryz.prog 42 #[.pointer (some ⟨R, 0, none⟩), .int .i64 ((e : Int) + 1)] w fun r w' => r = .returned (.tuple #[.int .i64 0, .int .i64 (revE true gn (decide (9999 < revDay dy lk)) (decide (60 ≤ ne)))]) ∧ Below w.heap.size w w' := by
  have cE := blk_cell' hR (o := 1) rfl
  have cL := blk_cell' hR (o := 2) rfl
  obtain ⟨hl1, hl2⟩ := hlk
  have h1 : ¬ (e : Int) + 1 < 1 := by omega
  have h1' : decide ((e : Int) + 1 < 1) = false := by simpa using h1
  have h2 : ¬ (ne : Int) < (e : Int) + 1 := by omega
  have h2' : decide ((ne : Int) < (e : Int) + 1) = false := by simpa using h2
  have h3 : (0 : Int) ≤ (e : Int) := by omega
  have h4 : (e : Int) < (ne : Int) := by omega
  have hfin : Below w.heap.size w (w.alloc (.cells #[.int .i64 dy, .slice (some ⟨gl, 0, none⟩) n cl, .bool gn] 158)) := ((Grew.refl w).alloc _).below
  have cE' := Grew.cell' ((Grew.refl w).alloc (.cells #[.int .i64 dy, .slice (some ⟨gl, 0, none⟩) n cl, .bool gn] 158)) cE
  have cL' := Grew.cell' ((Grew.refl w).alloc (.cells #[.int .i64 dy, .slice (some ⟨gl, 0, none⟩) n cl, .bool gn] 158)) cL
  clear h1 h2
  by_cases hd : dy ≤ lk
  · have rd : revDay dy lk = lk + 1 := by unfold revDay; rw [if_pos hd]
    rw [rd] at hE ⊢
    clear rd
    cases gn
    · by_cases hl : 9999 < lk + 1
      · have hE2 : decide (9999 < lk + 1) = true := by simpa using hl
        rw [hE2]
        clear hE hE2
        go_enter Tryz.func42, Tryz.ntmps42
        go_wp2
        all_goals go_ret2
        all_goals exact ⟨rfl, hfin⟩
      · have hE2 : decide (9999 < lk + 1) = false := by simpa using hl
        rw [hE2] at hE ⊢
        have hf : 60 ≤ ne := by
          cases h : decide (60 ≤ ne)
          · rw [h] at hE; exact absurd rfl hE
          · simpa using h
        have hf' : (60 : Int) ≤ (ne : Int) := by omega
        have hE3 : decide (60 ≤ ne) = true := by simpa using hf
        rw [hE3]
        clear hE hE2 hE3 hf
        go_enter Tryz.func42, Tryz.ntmps42
        go_wp2
        all_goals go_ret2
        all_goals exact ⟨rfl, hfin⟩
    · clear hE
      go_enter Tryz.func42, Tryz.ntmps42
      go_wp2
      all_goals go_ret2
      all_goals exact ⟨rfl, hfin⟩
  · have rd : revDay dy lk = dy := by unfold revDay; rw [if_neg hd]
    rw [rd] at hE ⊢
    clear rd
    cases gn
    · by_cases hl : 9999 < dy
      · have hE2 : decide (9999 < dy) = true := by simpa using hl
        rw [hE2]
        clear hE hE2
        go_enter Tryz.func42, Tryz.ntmps42
        go_wp2
        all_goals go_ret2
        all_goals exact ⟨rfl, hfin⟩
      · have hE2 : decide (9999 < dy) = false := by simpa using hl
        rw [hE2] at hE ⊢
        have hf : 60 ≤ ne := by
          cases h : decide (60 ≤ ne)
          · rw [h] at hE; exact absurd rfl hE
          · simpa using h
        have hf' : (60 : Int) ≤ (ne : Int) := by omega
        have hE3 : decide (60 ≤ ne) = true := by simpa using hf
        rw [hE3]
        clear hE hE2 hE3 hf
        go_enter Tryz.func42, Tryz.ntmps42
        go_wp2
        all_goals go_ret2
        all_goals exact ⟨rfl, hfin⟩
    · clear hE
      go_enter Tryz.func42, Tryz.ntmps42
      go_wp2
      all_goals go_ret2
      all_goals exact ⟨rfl, hfin⟩
end Go.Proofs.YtjnmoddcodnadaaGreatDoor
