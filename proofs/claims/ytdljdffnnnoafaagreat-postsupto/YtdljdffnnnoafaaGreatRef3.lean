import Derived.Test.YtdljdffnnnoafaaGreatRef2
set_option linter.unusedVariables false
set_option linter.unusedSimpArgs false
namespace Go.Annal
/-- 'a < b', byte by byte. -/
def sLt (a b : ByteArray) : Bool := Op.bytesLess a.toList b.toList
def insS (l : List ByteArray) (x : ByteArray) : List ByteArray := l.takeWhile (fun y => sLt y x) ++ x :: l.dropWhile (fun y => sLt y x)
theorem insS_len (l : List ByteArray) (x : ByteArray) : (insS l x).length = l.length + 1 := by
  unfold insS
  have := congrArg List.length (List.takeWhile_append_dropWhile (p := fun y => sLt y x) (l := l))
  simp only [List.length_append, List.length_cons] at *
  omega
theorem insS_eq (l : List ByteArray) (x : ByteArray) (k : Nat) (hk : k ≤ l.length) (h1 : ∀ y ∈ l.take k, sLt y x = true) (h2 : ∀ (h : k < l.length), sLt (l[k]'h) x = false) : insS l x = l.take k ++ x :: l.drop k := by
  have ht : (l.drop k).takeWhile (fun y => sLt y x) = [] ∧ (l.drop k).dropWhile (fun y => sLt y x) = l.drop k := by
    by_cases h : k < l.length
    · rw [List.drop_eq_getElem_cons h]
      constructor
      · rw [List.takeWhile_cons_of_neg (by simp [h2 h])]
      · rw [List.dropWhile_cons_of_neg (by simp [h2 h])]
    · rw [List.drop_of_length_le (by omega)]; simp
  unfold insS
  conv => lhs; rw [← List.take_append_drop k l]
  rw [List.dropWhile_append_of_pos h1, List.takeWhile_append_of_pos h1, ht.1, ht.2]
  simp
def nmS (fn : Nat → ByteArray) : Nat → List ByteArray
  | 0 => []
  | i + 1 => insS (nmS fn i) (fn i)
theorem nmS_len (fn : Nat → ByteArray) : ∀ i, (nmS fn i).length = i
  | 0 => rfl
  | i + 1 => by simp [nmS, insS_len, nmS_len fn i]
end Go.Annal
namespace Go.Proofs.YtdljdffnnnoafaaGreat
open Go.RowKit Go.Annal
theorem Tryz.infoStr : (Tryz.prog.info? 9).map (fun i => (i.zero, i.size, i.bytes)) = some (some (.string ⟨#[]⟩), 1, 16) := by kernel_rfl
theorem src_new1 (w : World) (a : Value) (t : TypeId) : SrcAt (w.alloc (.cells #[a] t)) 1 (.slice (some ⟨w.heap.size, 0, none⟩) 1 1) 1 [a] :=
  .inr ⟨_, _, rfl, rfl, fun j u hj => by rw [addr_add, Nat.zero_add, World.cell?_alloc_at (w := w) _ _ _ _ rfl]; simpa using hj⟩

theorem strs_one (l : List ByteArray) : ∀ u ∈ l.map Value.string, u.oneCell' = true := by
  intro u hu
  obtain ⟨_, _, rfl⟩ := List.mem_map.1 hu
  rfl

set_option maxRecDepth 100000 in
set_option maxHeartbeats 2000000 in
theorem namesR_any (R ga ca na : Nat) (ada : Option Addr) (fn : Nat → ByteArray) (w : World) (hA : AccsAt w R ga ca na ada fn) :
    Calls Tryz.prog 65 #[.pointer (some ⟨R, 0, none⟩)] w fun r w' => ∃ v,
      r = .returned v ∧ w'.ownsRow w.heap.size 9 1 v na ((nmS fn na).map .string) ∧ Below w.heap.size w w' := by
  obtain ⟨i0, hi, hz0, hz1, hz2⟩ := info_parts Tryz.infoStr
  have hfew := hA.few
  go_enter Tryz.func65, Tryz.ntmps65
  go_wp2
  go_loopw [3, 4, 5, 6] (fun ov iv _ _ wr => ∃ i : Nat, i ≤ na ∧ iv = .int .i64 i ∧ wr.ownsRow w.heap.size 9 1 ov i ((nmS fn i).map .string) ∧ Below w.heap.size w wr) (fun _ iv _ _ _ => na - (intOf iv).toNat)
  case atStart => exact ⟨0, Nat.zero_le _, rfl, World.ownsRow_nil _ _ _ _, Below.refl _ _⟩
  case round =>
    obtain ⟨i, hin, rfl, hown, hB⟩ := hrel
    have cA := cell_later hB hA.cA
    by_cases hlt : i < na
    · obtain rfl := hA.hA (by omega)
      have hlt' : (i : Int) < (na : Int) := by omega
      have hi0 : (0 : Int) ≤ (i : Int) := by omega
      have cn := cell_later hB (hA.cn i hlt)
      have hst : Hid (nmS fn (i + 1) = insS (nmS fn i) (fn i)) := rfl
      have hln := nmS_len fn i
      generalize nmS fn i = L at *
      generalize fn i = x at *
      rcases hown.2 with ⟨rfl, rfl⟩ | ⟨g, cap, cur, rfl, hg, hh, hc1, hc2, _⟩
      · have hL : L = [] := List.length_eq_zero_iff.1 hln
        subst hL
        clear hA
        obtain ⟨W0, hW0⟩ : ∃ W0, W0 = wr := ⟨_, rfl⟩
        subst hW0
        have hBq : ∀ q, Below W0.heap.size W0 (W0.drewN q) := fun q => ⟨rfl, rfl, rfl, Nat.le_refl _, fun _ _ => rfl⟩
        rw [Nat.zero_mul] at cn
        go_wp2
        refine wp_loop_rounds 2 ?_; rw [rounds_succ]; go_wp2
        go_quiet (fail)
        go_wp2_with (first
          | (at_builtin; refine wpList_append_src rfl (.tmp 37) (.tmp 40) 118 rfl W0.heap.size 9 i0 _ 1 16 Tryz.underlying118 hi hz0 hz1 hz2 rfl (by decide) (.slice none 0 0) 0 [] rfl (World.ownsRow_nil _ _ _ _) _ 0 [] rfl (.inl ⟨rfl, rfl, rfl⟩) (by simp) (by unfold maxLen; omega) (by omega) (hBq _).size ?_; intro v1 w1 hown1 hg1; have hB3 := (hBq _).grown hg1 (hBq _).size (fun k hk => by cases hk); have cA1 := cell_later hB3 cA; have cn1 := cell_later hB3 cn)
          | (at_builtin; refine wpList_append_src rfl (.tmp 42) (.tmp 51) 118 rfl W0.heap.size 9 i0 _ 1 16 Tryz.underlying118 hi hz0 hz1 hz2 rfl (by decide) v1 _ _ rfl (hown1.alloc _) _ 1 [.string x] rfl (src_new1 _ _ _) (by simp [Value.oneCell']) (by unfold maxLen; omega) (by omega) (by have := hB3.size; simp; omega) ?_; intro v2 w2 hown2 hg2; have hB4 := (hB3.alloc hB3.size _).grown hg2 (by have := hB3.size; simp; omega) (fun k hk => (hown1.lt k hk).1))
          | (at_builtin; refine wpList_append_src rfl (.tmp 53) (.tmp 56) 118 rfl W0.heap.size 9 i0 _ 1 16 Tryz.underlying118 hi hz0 hz1 hz2 rfl (by decide) v2 _ _ rfl hown2 _ 0 [] rfl (.inl ⟨rfl, rfl, rfl⟩) (by simp) (by unfold maxLen; omega) (by omega) hB4.size ?_; intro v3 w3 hown3 hg3; have hB5 := hB4.grown hg3 hB4.size (fun k hk => (hown2.lt k hk).1)))
        go_roundw
        case rel => exact ⟨1, by omega, by go_num, by rw [hst.out]; exact owns_le (by simpa [insS] using hown3) hB.size, hB.trans (hB5.mono hB.size)⟩
        case measure => simp [intOf]; omega
      · obtain ⟨W0, hW0⟩ : ∃ W0, W0 = wr := ⟨_, rfl⟩
        subst hW0
        have hBq : ∀ q, Below W0.heap.size W0 (W0.drewN q) := fun q => ⟨rfl, rfl, rfl, Nat.le_refl _, fun _ _ => rfl⟩
        have hcell : ∀ j (hj : j < L.length), W0.cell? ⟨g, j, none⟩ = some (.string L[j]) := fun j hj => by
          rw [hown.cellAt j (by omega)]; simp [hj]
        unfold maxLen at hc2
        clear hA
        go_wp2
        go_loopw [5] (fun av w2 => ∃ ak q : Nat, ak ≤ i ∧ av = .int .i64 ak ∧ (∀ y ∈ L.take ak, sLt y x = true) ∧ w2 = W0.drewN q) (fun av _ => i - (intOf av).toNat)
        case atStart => exact ⟨0, 0, Nat.zero_le _, rfl, by simp, rfl⟩
        case round =>
          obtain ⟨ak, q, hat, rfl, hless, rfl⟩ := hrel
          have HL : Hid (∀ y ∈ L.take ak, sLt y x = true) := hless
          clear hless
          have hat' : (ak : Int) ≤ (i : Int) := by omega
          have hsrc1 : ∀ W, Below W0.heap.size W0 W → SrcAt W 1 (.slice (some ⟨g, 0, none⟩) ak cap) ak ((L.take ak).map .string) := fun W hW => .inr ⟨_, _, rfl, by simp; omega, fun j u hj => by
            have hj' : j < ak := by have := (List.getElem?_eq_some_iff.1 hj).1; simp at this; omega
            refine cell_later hW ?_
            rw [addr_add, Nat.zero_add, hcell j (by omega), ← hj]
            simp [List.getElem?_take_of_lt hj', show j < L.length by omega]⟩
          have hsrc3 : ∀ W, Below W0.heap.size W0 W → SrcAt W 1 (.slice (some ⟨g, ak, none⟩) (i - ak) (cap - ak)) (i - ak) ((L.drop ak).map .string) := fun W hW => .inr ⟨_, _, rfl, by simp; omega, fun j u hj => by
            have hj' : ak + j < i := by have := (List.getElem?_eq_some_iff.1 hj).1; simp at this; omega
            refine cell_later hW ?_
            rw [addr_add, hcell (ak + j) (by omega), ← hj]
            simp [show ak + j < L.length by omega]⟩
          have hsrc4 : ∀ W, SrcAt W 1 (.slice (some ⟨g, 0, none⟩) 0 0) 0 [] := fun W => .inr ⟨_, _, rfl, rfl, by simp⟩
          have h1t : ∀ u ∈ (L.take ak).map Value.string, u.oneCell' = true := strs_one _
          have h1d : ∀ u ∈ (L.drop ak).map Value.string, u.oneCell' = true := strs_one _
          by_cases hai : ak < i
          · have hai' : (ak : Int) < (i : Int) := by omega
            have hai0 : (0 : Int) ≤ (ak : Int) := by omega
            have hc := hcell ak (by omega)
            have hstep : Hid (sLt (L[ak]'(by omega)) x = true → ∀ y ∈ L.take (ak + 1), sLt y x = true) := fun h y hy => by
              rw [List.take_succ_eq_append_getElem (by omega)] at hy
              rcases List.mem_append.1 hy with hy | hy
              · exact HL.out y hy
              · simp at hy; subst hy; exact h
            have hstop : Hid (sLt (L[ak]'(by omega)) x = false → insS L x = L.take ak ++ x :: L.drop ak) := fun h => insS_eq L x ak (by omega) HL.out (fun _ => h)
            generalize L[ak]'(by omega) = y at *
            cases he : Op.bytesLess y.toList x.toList
            · have HI : Hid (insS L x = L.take ak ++ x :: L.drop ak) := hstop.out he
              clear hstop hstep hcell
              by_cases hce : cap = ak
              · exfalso; omega
              · go_wp2
                go_quiet (fail)
                go_wp2_with (first
                  | (at_builtin; refine wpList_append_src rfl (.tmp 37) (.tmp 40) 118 rfl W0.heap.size 9 i0 _ 1 16 Tryz.underlying118 hi hz0 hz1 hz2 rfl (by decide) (.slice none 0 0) 0 [] rfl (World.ownsRow_nil _ _ _ _) _ ak ((L.take ak).map .string) rfl (hsrc1 _ (hBq _)) h1t (by unfold maxLen; omega) (by omega) (hBq _).size ?_; intro v1 w1 hown1 hg1; have hB3 := (hBq _).grown hg1 (hBq _).size (fun k hk => by cases hk); have cA1 := cell_later hB3 cA; have cn1 := cell_later hB3 cn)
                  | (at_builtin; refine wpList_append_src rfl (.tmp 42) (.tmp 51) 118 rfl W0.heap.size 9 i0 _ 1 16 Tryz.underlying118 hi hz0 hz1 hz2 rfl (by decide) v1 _ _ rfl (hown1.alloc _) _ 1 [.string x] rfl (src_new1 _ _ _) (by simp [Value.oneCell']) (by unfold maxLen; omega) (by omega) (by have := hB3.size; simp; omega) ?_; intro v2 w2 hown2 hg2; have hB4 := (hB3.alloc hB3.size _).grown hg2 (by have := hB3.size; simp; omega) (fun k hk => (hown1.lt k hk).1))
                  | (at_builtin; refine wpList_append_src rfl (.tmp 53) (.tmp 56) 118 rfl W0.heap.size 9 i0 _ 1 16 Tryz.underlying118 hi hz0 hz1 hz2 rfl (by decide) v2 _ _ rfl hown2 _ (i - ak) ((L.drop ak).map .string) rfl (hsrc3 _ hB4) h1d (by unfold maxLen; omega) (by omega) hB4.size ?_; intro v3 w3 hown3 hg3; have hB5 := hB4.grown hg3 hB4.size (fun k hk => (hown2.lt k hk).1)))
                go_roundw
                case rel =>
                  refine ⟨i + 1, by omega, by go_num, ?_, hB.trans (hB5.mono hB.size)⟩
                  rw [hst.out, HI.out]
                  rw [show 0 + ak + 1 + (i - ak) = i + 1 by omega] at hown3
                  exact owns_le (by simpa using hown3) hB.size
                case measure => simp [intOf]; omega
            · have HN : Hid (∀ y ∈ L.take (ak + 1), sLt y x = true) := hstep.out he
              clear hstop hstep hcell hsrc1 hsrc3 hsrc4 h1t h1d
              go_wp2
              go_quiet (fail)
              go_wp2
              refine ⟨⟨ak + 1, q + nq, by omega, by go_num, HN.out, rfl⟩, by simp [intOf]; omega⟩
          · have hai' : decide ((ak : Int) < (i : Int)) = false := by simp; omega
            have HI : Hid (insS L x = L.take ak ++ x :: L.drop ak) := insS_eq L x ak (by omega) HL.out (fun h => by omega)
            clear hcell
            by_cases hce : cap = ak
            · have hna : Hid (i = ak) := (by omega : i = ak)
              have hce' := hce.symm
              subst hce'
              go_wp2
              go_quiet (fail)
              go_wp2_with (first
                | (at_builtin; refine wpList_append_src rfl (.tmp 37) (.tmp 40) 118 rfl W0.heap.size 9 i0 _ 1 16 Tryz.underlying118 hi hz0 hz1 hz2 rfl (by decide) (.slice none 0 0) 0 [] rfl (World.ownsRow_nil _ _ _ _) _ ak ((L.take ak).map .string) rfl (hsrc1 _ (hBq _)) h1t (by unfold maxLen; omega) (by omega) (hBq _).size ?_; intro v1 w1 hown1 hg1; have hB3 := (hBq _).grown hg1 (hBq _).size (fun k hk => by cases hk); have cA1 := cell_later hB3 cA; have cn1 := cell_later hB3 cn)
                | (at_builtin; refine wpList_append_src rfl (.tmp 42) (.tmp 51) 118 rfl W0.heap.size 9 i0 _ 1 16 Tryz.underlying118 hi hz0 hz1 hz2 rfl (by decide) v1 _ _ rfl (hown1.alloc _) _ 1 [.string x] rfl (src_new1 _ _ _) (by simp [Value.oneCell']) (by unfold maxLen; omega) (by omega) (by have := hB3.size; simp; omega) ?_; intro v2 w2 hown2 hg2; have hB4 := (hB3.alloc hB3.size _).grown hg2 (by have := hB3.size; simp; omega) (fun k hk => (hown1.lt k hk).1))
                | (at_builtin; refine wpList_append_src rfl (.tmp 53) (.tmp 56) 118 rfl W0.heap.size 9 i0 _ 1 16 Tryz.underlying118 hi hz0 hz1 hz2 rfl (by decide) v2 _ _ rfl hown2 _ 0 [] rfl (hsrc4 _) (by simp) (by unfold maxLen; omega) (by omega) hB4.size ?_; intro v3 w3 hown3 hg3; have hB5 := hB4.grown hg3 hB4.size (fun k hk => (hown2.lt k hk).1)))
              go_roundw
              case rel =>
                have hna2 := hna.out
                refine ⟨i + 1, by omega, by go_num, ?_, hB.trans (hB5.mono hB.size)⟩
                rw [hst.out, HI.out, List.drop_of_length_le (by omega)]
                rw [show 0 + ak + 1 + 0 = i + 1 by omega] at hown3
                exact owns_le (by simpa using hown3) hB.size
              case measure => simp [intOf]; omega
            · go_wp2
              go_quiet (fail)
              go_wp2_with (first
                | (at_builtin; refine wpList_append_src rfl (.tmp 37) (.tmp 40) 118 rfl W0.heap.size 9 i0 _ 1 16 Tryz.underlying118 hi hz0 hz1 hz2 rfl (by decide) (.slice none 0 0) 0 [] rfl (World.ownsRow_nil _ _ _ _) _ ak ((L.take ak).map .string) rfl (hsrc1 _ (hBq _)) h1t (by unfold maxLen; omega) (by omega) (hBq _).size ?_; intro v1 w1 hown1 hg1; have hB3 := (hBq _).grown hg1 (hBq _).size (fun k hk => by cases hk); have cA1 := cell_later hB3 cA; have cn1 := cell_later hB3 cn)
                | (at_builtin; refine wpList_append_src rfl (.tmp 42) (.tmp 51) 118 rfl W0.heap.size 9 i0 _ 1 16 Tryz.underlying118 hi hz0 hz1 hz2 rfl (by decide) v1 _ _ rfl (hown1.alloc _) _ 1 [.string x] rfl (src_new1 _ _ _) (by simp [Value.oneCell']) (by unfold maxLen; omega) (by omega) (by have := hB3.size; simp; omega) ?_; intro v2 w2 hown2 hg2; have hB4 := (hB3.alloc hB3.size _).grown hg2 (by have := hB3.size; simp; omega) (fun k hk => (hown1.lt k hk).1))
                | (at_builtin; refine wpList_append_src rfl (.tmp 53) (.tmp 56) 118 rfl W0.heap.size 9 i0 _ 1 16 Tryz.underlying118 hi hz0 hz1 hz2 rfl (by decide) v2 _ _ rfl hown2 _ (i - ak) ((L.drop ak).map .string) rfl (hsrc3 _ hB4) h1d (by unfold maxLen; omega) (by omega) hB4.size ?_; intro v3 w3 hown3 hg3; have hB5 := hB4.grown hg3 hB4.size (fun k hk => (hown2.lt k hk).1)))
              go_roundw
              case rel =>
                refine ⟨i + 1, by omega, by go_num, ?_, hB.trans (hB5.mono hB.size)⟩
                rw [hst.out, HI.out]
                rw [show 0 + ak + 1 + (i - ak) = i + 1 by omega] at hown3
                exact owns_le (by simpa using hown3) hB.size
              case measure => simp [intOf]; omega
    · have hlt' : ¬ (i : Int) < (na : Int) := by omega
      have hie : i = na := by omega
      subst hie
      clear hA
      go_wp2
      refine bodyPost_ret (results_tmp rfl _ _ _) rfl ?_
      exact ⟨_, rfl, hown, hB⟩
end Go.Proofs.YtdljdffnnnoafaaGreat
namespace Go.Annal
/-- A line: an account's name, an amount. -/
abbrev Ln := ByteArray × Int
def enc2 (x : Ln) : List Value := [.string x.1, .int .i64 x.2]
def cells2 (l : List Ln) : List Value := l.flatMap enc2
theorem cells2_append (a b : List Ln) : cells2 (a ++ b) = cells2 a ++ cells2 b := by simp [cells2]
theorem cells2_len (l : List Ln) : (cells2 l).length = l.length * 2 := by
  induction l with
  | nil => rfl
  | cons x r ih => simp only [cells2, List.flatMap_cons, List.length_append, List.length_cons] at *; rw [ih]; simp [enc2]; omega
theorem cells2_one (l : List Ln) : ∀ u ∈ cells2 l, u.oneCell' = true := by
  intro u hu
  simp only [cells2, List.mem_flatMap, enc2] at hu
  obtain ⟨x, _, hx⟩ := hu
  simp at hx
  rcases hx with rfl | rfl <;> rfl
/-- All that have a balance. -/
def trL (bal : ByteArray → Int) (l : List ByteArray) : List Ln := (l.map (fun x => (x, bal x))).filter (fun p => !decide (p.2 = 0))
theorem trL_snoc (bal : ByteArray → Int) (l : List ByteArray) (x : ByteArray) : trL bal (l ++ [x]) = trL bal l ++ (if bal x = 0 then [] else [(x, bal x)]) := by
  simp only [trL, List.map_append, List.filter_append, List.map_cons, List.map_nil]
  by_cases h : bal x = 0 <;> simp [h]
theorem trL_len (bal : ByteArray → Int) (l : List ByteArray) : (trL bal l).length ≤ l.length := by
  unfold trL
  exact Nat.le_trans (List.length_filter_le _ _) (by simp)
end Go.Annal
namespace Go.Proofs.YtdljdffnnnoafaaGreat
open Go.RowKit Go.Annal
theorem Tryz.infoLine : (Tryz.prog.info? 38).map (fun i => (i.zero, i.size, i.bytes)) = some (some (.agg #[.string ⟨#[]⟩, .int .i64 0]), 2, 24) := by kernel_rfl
theorem src_new2 (w : World) (a b : Value) (t : TypeId) : SrcAt (w.alloc (.cells #[a, b] t)) 2 (.slice (some ⟨w.heap.size, 0, none⟩) 1 1) 1 [a, b] :=
  .inr ⟨_, _, rfl, rfl, fun j u hj => by rw [addr_add, Nat.zero_add, World.cell?_alloc_at (w := w) _ _ _ _ rfl]; simpa using hj⟩

set_option maxRecDepth 100000 in
set_option maxHeartbeats 2000000 in
theorem TrialR_ok (R ga ca na ge ce ne : Nat) (ada ade : Option Addr) (fn : Nat → ByteArray) (dy : Nat → Int) (gl ln cl : Nat → Nat) (la : Nat → Nat → ByteArray) (lm : Nat → Nat → Int) (day : Int) (known : Nat) (w : World)
    (hA : AccsAt w R ga ca na ada fn) (hE : EntsAt w R ge ce ne ade dy gl ln cl la lm) (h2 : dayB day = true) (hk : known ≤ ne) :
    Calls Tryz.prog 41 #[.pointer (some ⟨R, 0, none⟩), .int .i64 day, .int .i64 known] w fun r w' => ∃ v,
      r = .returned (.tuple #[v, .int .i64 0]) ∧ w'.ownsRow w.heap.size 38 2 v (trL (fun x => enS dy la lm x day ln known) (nmS fn na)).length (cells2 (trL (fun x => enS dy la lm x day ln known) (nmS fn na))) ∧ Below w.heap.size w w' := by
  obtain ⟨i0, hi, hz0, hz1, hz2⟩ := info_parts Tryz.infoLine
  have C2 : Hid _ := isDayR_any day w
  have C3 : Hid _ := isKnown_b R ne ce ade known w hE.cE
  have C4 : Hid _ := namesR_any R ga ca na ada fn w hA
  rw [h2] at C2
  rw [show knownB (known : Int) ne = true by simp [knownB]; omega] at C3
  have hfew := hA.few
  have hln := nmS_len fn na
  generalize nmS fn na = N at *
  clear hA h2
  go_enter Tryz.func41, Tryz.ntmps41
  go_wp2_with fail
  refine Calls.mono C2.out ?_
  rintro e wx ⟨rfl, hw⟩; rw [hw]; clear hw wx
  go_wp2_with fail
  refine Calls.mono C3.out ?_
  rintro e wx ⟨rfl, hw⟩; rw [hw]; clear hw wx
  go_wp2_with fail
  refine Calls.mono C4.out ?_
  rintro e W1 ⟨nv, rfl, hnv, hB1⟩
  clear C2 C3 C4
  have hE1 := hE.mv hB1
  clear hE
  generalize hbal : (fun x => enS dy la lm x day ln known) = bal
  have CB : Hid (∀ x W, Below W1.heap.size W1 W → Calls Tryz.prog 37 #[.pointer (some ⟨R, 0, none⟩), .string x, .int .i64 day, .int .i64 known] W fun r w' => r = .returned (.int .i64 (bal x)) ∧ w' = W) := fun x W hW => by
    rw [← hbal]; exact balanceR_any R ge ce ne ade dy gl ln cl la lm x day known W (hE1.mv hW) hk
  have HB : Hid ((fun x => enS dy la lm x day ln known) = bal) := hbal
  clear hbal hE1
  rcases hnv.2 with ⟨rfl, rfl⟩ | ⟨g, cap, cur, rfl, hg, hh, hc1, hc2, _⟩
  · have hN : N = [] := List.length_eq_zero_iff.1 hln
    subst hN
    go_wp2
    refine wp_loop_rounds 2 ?_; rw [rounds_succ]; go_wp2
    refine bodyPost_ret (results_tmp2 rfl _ _ _) rfl ?_
    exact ⟨_, rfl, World.ownsRow_nil _ _ _ _, hB1⟩
  · have hcell : ∀ j (hj : j < N.length), W1.cell? ⟨g, j, none⟩ = some (.string N[j]) := fun j hj => by
      rw [hnv.cellAt j (by omega)]; simp [hj]
    go_wp2
    go_loopw [10, 12, 13] (fun ov iv _ wr => ∃ k : Nat, k ≤ na ∧ iv = .int .i64 k ∧ wr.ownsRow W1.heap.size 38 2 ov (trL bal (N.take k)).length (cells2 (trL bal (N.take k))) ∧ Below W1.heap.size W1 wr) (fun _ iv _ _ => na - (intOf iv).toNat)
    case atStart => exact ⟨0, Nat.zero_le _, rfl, by simpa [trL, cells2] using World.ownsRow_nil W1 W1.heap.size 38 2, Below.refl _ _⟩
    case round =>
      obtain ⟨k, hkn, rfl, hown, hB⟩ := hrel
      by_cases hlt : k < na
      · have hlt' : (k : Int) < (na : Int) := by omega
        have hk0 : (0 : Int) ≤ (k : Int) := by omega
        have hkl : k < N.length := by omega
        have hc := cell_later hB (hcell k hkl)
        have htk : Hid (N.take (k + 1) = N.take k ++ [N[k]]) := List.take_succ_eq_append_getElem hkl
        have hll := trL_len bal (N.take k)
        have hll2 : (N.take k).length ≤ k := List.length_take_le _ _
        generalize N[k] = x at *
        have hst : Hid (trL bal (N.take (k + 1)) = trL bal (N.take k) ++ (if bal x = 0 then [] else [(x, bal x)])) := by
          show trL bal _ = _
          rw [htk.out, trL_snoc]
        have CX : Hid _ := CB.out x wr hB
        generalize trL bal (N.take k) = M at *
        by_cases h0 : bal x = 0
        · rw [h0] at CX
          clear hcell
          go_wp2_with (go_at_call 37; refine Calls.mono CX.out ?_; rintro e wx ⟨rfl, hw⟩; rw [hw]; clear hw wx)
          go_roundw
          case rel => exact ⟨k + 1, by omega, by go_num, by rw [hst.out, if_pos h0]; simpa using hown, hB⟩
          case measure => simp [intOf]; omega
        · have h0' : (bal x != 0) = true := by simpa using h0
          have hst2 : Hid (trL bal (N.take (k + 1)) = M ++ [(x, bal x)]) := by
            show trL bal _ = _
            rw [hst.out, if_neg h0]
          generalize bal x = z at *
          clear hcell
          go_wp2_with (first
            | (go_at_call 37; refine Calls.mono CX.out ?_; rintro e wx ⟨rfl, hw⟩; rw [hw]; clear hw wx)
            | (at_builtin; refine wpList_append_src rfl (.tmp 43) (.tmp 50) 34 rfl W1.heap.size 38 i0 _ 2 24 Tryz.underlying34 hi hz0 hz1 hz2 rfl (by decide) _ _ _ rfl (hown.alloc _) _ 1 [.string x, .int .i64 z] rfl (src_new2 _ _ _ _) (by simp [Value.oneCell']) (by unfold maxLen; omega) (by omega) (by have := hB.size; simp; omega) ?_; intro v2 w2 hown2 hg2; have hB4 := (hB.alloc hB.size _).grown hg2 (by have := hB.size; simp; omega) (fun k hk => (hown.lt k hk).1)))
          go_roundw
          case rel => exact ⟨k + 1, by omega, by go_num, by rw [hst2.out, cells2_append]; simpa [cells2, enc2] using hown2, hB4⟩
          case measure => simp [intOf]; omega
      · have hlt' : ¬ (k : Int) < (na : Int) := by omega
        rw [List.take_of_length_le (by omega)] at hown
        go_wp2
        refine bodyPost_ret (results_tmp2 rfl _ _ _) rfl ?_
        exact ⟨_, rfl, by rw [HB.out]; exact owns_le hown hB1.size, hB1.trans (hB.mono hB1.size)⟩
end Go.Proofs.YtdljdffnnnoafaaGreat
