import Derived.Test.YtjnmoddcodnadaaGreatDoorG03
import Derived.Test.YtjnmoddcodnadaaGreatDoorG02
import Derived.Deep.RegionLaw
set_option linter.unusedVariables false
set_option linter.unusedSimpArgs false
namespace Go.Annal
/-- 'a < b', byte by byte. -/
def sLt (a b : ByteArray) : Bool := Op.bytesLess a.toList b.toList
def insS (l : List ByteArray) (x : ByteArray) : List ByteArray := l.takeWhile (fun y => sLt y x) ++ x :: l.dropWhile (fun y => sLt y x)
theorem insS_len (l : List ByteArray) (x : ByteArray) : (insS l x).length = l.length + 1 := by
  unfold insS
  have := congrArg List.length (List.takeWhile_append_dropWhile (p := fun y => sLt y x) (l := l))
  simp only [List.length_append, List.length_cons] at *
  omega
theorem insS_eq (l : List ByteArray) (x : ByteArray) (k : Nat) (hk : k ≤ l.length) (h1 : ∀ y ∈ l.take k, sLt y x = true) (h2 : ∀ (h : k < l.length), sLt (l[k]'h) x = false) : insS l x = l.take k ++ x :: l.drop k := by
  have ht : (l.drop k).takeWhile (fun y => sLt y x) = [] ∧ (l.drop k).dropWhile (fun y => sLt y x) = l.drop k := by
    by_cases h : k < l.length
    · rw [List.drop_eq_getElem_cons h]
      constructor
      · rw [List.takeWhile_cons_of_neg (by simp [h2 h])]
      · rw [List.dropWhile_cons_of_neg (by simp [h2 h])]
    · rw [List.drop_of_length_le (by omega)]; simp
  unfold insS
  conv => lhs; rw [← List.take_append_drop k l]
  rw [List.dropWhile_append_of_pos h1, List.takeWhile_append_of_pos h1, ht.1, ht.2]
  simp
def nmS (fn : Nat → ByteArray) : Nat → List ByteArray
  | 0 => []
  | i + 1 => insS (nmS fn i) (fn i)
theorem nmS_len (fn : Nat → ByteArray) : ∀ i, (nmS fn i).length = i
  | 0 => rfl
  | i + 1 => by simp [nmS, insS_len, nmS_len fn i]
end Go.Annal
namespace Go.Proofs.YtjnmoddcodnadaaGreatDoor
open Go.RowKit Go.Annal
theorem Tryz.infoStr : (Tryz.prog.info? 9).map (fun i => (i.zero, i.size, i.bytes)) = some (some (.string ⟨#[]⟩), 1, 16) := by kernel_rfl
theorem src_new1 (w : World) (a : Value) (t : TypeId) : SrcAt (w.alloc (.cells #[a] t)) 1 (.slice (some ⟨w.heap.size, 0, none⟩) 1 1) 1 [a] :=
  .inr ⟨_, _, rfl, rfl, fun j u hj => by rw [addr_add, Nat.zero_add, World.cell?_alloc_at (w := w) _ _ _ _ rfl]; simpa using hj⟩

theorem strs_one (l : List ByteArray) : ∀ u ∈ l.map Value.string, u.oneCell' = true := by
  intro u hu
  obtain ⟨_, _, rfl⟩ := List.mem_map.1 hu
  rfl

set_option maxRecDepth 100000 in
set_option maxHeartbeats 2000000 in
theorem namesR_any (R ga ca na : Nat) (ada : Option Addr) (fn : Nat → ByteArray) (w : World) (hA : AccsAt w R ga ca na ada fn) :
    Calls Tryz.prog 126 #[.pointer (some ⟨R, 0, none⟩)] w fun r w' => ∃ v,
      r = .returned v ∧ w'.ownsRow w.heap.size 9 1 v na ((nmS fn na).map .string) ∧ Below w.heap.size w w' := by
  obtain ⟨i0, hi, hz0, hz1, hz2⟩ := info_parts Tryz.infoStr
  have hfew := hA.few
  go_enter Tryz.func126, Tryz.ntmps126
  go_wp2
  go_loopw [3, 4, 5, 6] (fun ov iv _ _ wr => ∃ i : Nat, i ≤ na ∧ iv = .int .i64 i ∧ wr.ownsRow w.heap.size 9 1 ov i ((nmS fn i).map .string) ∧ Below w.heap.size w wr) (fun _ iv _ _ _ => na - (intOf iv).toNat)
  case atStart => exact ⟨0, Nat.zero_le _, rfl, World.ownsRow_nil _ _ _ _, Below.refl _ _⟩
  case round =>
    obtain ⟨i, hin, rfl, hown, hB⟩ := hrel
    have cA := cell_later hB hA.cA
    by_cases hlt : i < na
    · obtain rfl := hA.hA (by omega)
      have hlt' : (i : Int) < (na : Int) := by omega
      have hi0 : (0 : Int) ≤ (i : Int) := by omega
      have cn := cell_later hB (hA.cn i hlt)
      have hst : Hid (nmS fn (i + 1) = insS (nmS fn i) (fn i)) := rfl
      have hln := nmS_len fn i
      generalize nmS fn i = L at *
      generalize fn i = x at *
      rcases hown.2 with ⟨rfl, rfl⟩ | ⟨g, cap, cur, rfl, hg, hh, hc1, hc2, _⟩
      · have hL : L = [] := List.length_eq_zero_iff.1 hln
        subst hL
        clear hA
        obtain ⟨W0, hW0⟩ : ∃ W0, W0 = wr := ⟨_, rfl⟩
        subst hW0
        have hBq : ∀ q, Below W0.heap.size W0 (W0.drewN q) := fun q => ⟨rfl, rfl, rfl, Nat.le_refl _, fun _ _ => rfl⟩
        rw [Nat.zero_mul] at cn
        go_wp2
        refine wp_loop_rounds 2 ?_; rw [rounds_succ]; go_wp2
        go_quiet (fail)
        go_wp2_with (first
          | (at_builtin; refine wpList_append_src rfl (.tmp 37) (.tmp 40) 76 rfl W0.heap.size 9 i0 _ 1 16 Tryz.underlying76 hi hz0 hz1 hz2 rfl (by decide) (.slice none 0 0) 0 [] rfl (World.ownsRow_nil _ _ _ _) _ 0 [] rfl (.inl ⟨rfl, rfl, rfl⟩) (by simp) (by unfold maxLen; omega) (by omega) (hBq _).size ?_; intro v1 w1 hown1 hg1; have hB3 := (hBq _).grown hg1 (hBq _).size (fun k hk => by cases hk); have cA1 := cell_later hB3 cA; have cn1 := cell_later hB3 cn)
          | (at_builtin; refine wpList_append_src rfl (.tmp 42) (.tmp 51) 76 rfl W0.heap.size 9 i0 _ 1 16 Tryz.underlying76 hi hz0 hz1 hz2 rfl (by decide) v1 _ _ rfl (hown1.alloc _) _ 1 [.string x] rfl (src_new1 _ _ _) (by simp [Value.oneCell']) (by unfold maxLen; omega) (by omega) (by have := hB3.size; simp; omega) ?_; intro v2 w2 hown2 hg2; have hB4 := (hB3.alloc hB3.size _).grown hg2 (by have := hB3.size; simp; omega) (fun k hk => (hown1.lt k hk).1))
          | (at_builtin; refine wpList_append_src rfl (.tmp 53) (.tmp 56) 76 rfl W0.heap.size 9 i0 _ 1 16 Tryz.underlying76 hi hz0 hz1 hz2 rfl (by decide) v2 _ _ rfl hown2 _ 0 [] rfl (.inl ⟨rfl, rfl, rfl⟩) (by simp) (by unfold maxLen; omega) (by omega) hB4.size ?_; intro v3 w3 hown3 hg3; have hB5 := hB4.grown hg3 hB4.size (fun k hk => (hown2.lt k hk).1)))
        go_roundw
        case rel => exact ⟨1, by omega, by go_num, by rw [hst.out]; exact owns_le (by simpa [insS] using hown3) hB.size, hB.trans (hB5.mono hB.size)⟩
        case measure => simp [intOf]; omega
      · obtain ⟨W0, hW0⟩ : ∃ W0, W0 = wr := ⟨_, rfl⟩
        subst hW0
        have hBq : ∀ q, Below W0.heap.size W0 (W0.drewN q) := fun q => ⟨rfl, rfl, rfl, Nat.le_refl _, fun _ _ => rfl⟩
        have hcell : ∀ j (hj : j < L.length), W0.cell? ⟨g, j, none⟩ = some (.string L[j]) := fun j hj => by
          rw [hown.cellAt j (by omega)]; simp [hj]
        unfold maxLen at hc2
        clear hA
        go_wp2
        go_loopw [5] (fun av w2 => ∃ ak q : Nat, ak ≤ i ∧ av = .int .i64 ak ∧ (∀ y ∈ L.take ak, sLt y x = true) ∧ w2 = W0.drewN q) (fun av _ => i - (intOf av).toNat)
        case atStart => exact ⟨0, 0, Nat.zero_le _, rfl, by simp, rfl⟩
        case round =>
          obtain ⟨ak, q, hat, rfl, hless, rfl⟩ := hrel
          have HL : Hid (∀ y ∈ L.take ak, sLt y x = true) := hless
          clear hless
          have hat' : (ak : Int) ≤ (i : Int) := by omega
          have hsrc1 : ∀ W, Below W0.heap.size W0 W → SrcAt W 1 (.slice (some ⟨g, 0, none⟩) ak cap) ak ((L.take ak).map .string) := fun W hW => .inr ⟨_, _, rfl, by simp; omega, fun j u hj => by
            have hj' : j < ak := by have := (List.getElem?_eq_some_iff.1 hj).1; simp at this; omega
            refine cell_later hW ?_
            rw [addr_add, Nat.zero_add, hcell j (by omega), ← hj]
            simp [List.getElem?_take_of_lt hj', show j < L.length by omega]⟩
          have hsrc3 : ∀ W, Below W0.heap.size W0 W → SrcAt W 1 (.slice (some ⟨g, ak, none⟩) (i - ak) (cap - ak)) (i - ak) ((L.drop ak).map .string) := fun W hW => .inr ⟨_, _, rfl, by simp; omega, fun j u hj => by
            have hj' : ak + j < i := by have := (List.getElem?_eq_some_iff.1 hj).1; simp at this; omega
            refine cell_later hW ?_
            rw [addr_add, hcell (ak + j) (by omega), ← hj]
            simp [show ak + j < L.length by omega]⟩
          have hsrc4 : ∀ W, SrcAt W 1 (.slice (some ⟨g, 0, none⟩) 0 0) 0 [] := fun W => .inr ⟨_, _, rfl, rfl, by simp⟩
          have h1t : ∀ u ∈ (L.take ak).map Value.string, u.oneCell' = true := strs_one _
          have h1d : ∀ u ∈ (L.drop ak).map Value.string, u.oneCell' = true := strs_one _
          by_cases hai : ak < i
          · have hai' : (ak : Int) < (i : Int) := by omega
            have hai0 : (0 : Int) ≤ (ak : Int) := by omega
            have hc := hcell ak (by omega)
            have hstep : Hid (sLt (L[ak]'(by omega)) x = true → ∀ y ∈ L.take (ak + 1), sLt y x = true) := fun h y hy => by
              rw [List.take_succ_eq_append_getElem (by omega)] at hy
              rcases List.mem_append.1 hy with hy | hy
              · exact HL.out y hy
              · simp at hy; subst hy; exact h
            have hstop : Hid (sLt (L[ak]'(by omega)) x = false → insS L x = L.take ak ++ x :: L.drop ak) := fun h => insS_eq L x ak (by omega) HL.out (fun _ => h)
            generalize L[ak]'(by omega) = y at *
            cases he : Op.bytesLess y.toList x.toList
            · have HI : Hid (insS L x = L.take ak ++ x :: L.drop ak) := hstop.out he
              clear hstop hstep hcell
              by_cases hce : cap = ak
              · exfalso; omega
              · go_wp2
                go_quiet (fail)
                go_wp2_with (first
                  | (at_builtin; refine wpList_append_src rfl (.tmp 37) (.tmp 40) 76 rfl W0.heap.size 9 i0 _ 1 16 Tryz.underlying76 hi hz0 hz1 hz2 rfl (by decide) (.slice none 0 0) 0 [] rfl (World.ownsRow_nil _ _ _ _) _ ak ((L.take ak).map .string) rfl (hsrc1 _ (hBq _)) h1t (by unfold maxLen; omega) (by omega) (hBq _).size ?_; intro v1 w1 hown1 hg1; have hB3 := (hBq _).grown hg1 (hBq _).size (fun k hk => by cases hk); have cA1 := cell_later hB3 cA; have cn1 := cell_later hB3 cn)
                  | (at_builtin; refine wpList_append_src rfl (.tmp 42) (.tmp 51) 76 rfl W0.heap.size 9 i0 _ 1 16 Tryz.underlying76 hi hz0 hz1 hz2 rfl (by decide) v1 _ _ rfl (hown1.alloc _) _ 1 [.string x] rfl (src_new1 _ _ _) (by simp [Value.oneCell']) (by unfold maxLen; omega) (by omega) (by have := hB3.size; simp; omega) ?_; intro v2 w2 hown2 hg2; have hB4 := (hB3.alloc hB3.size _).grown hg2 (by have := hB3.size; simp; omega) (fun k hk => (hown1.lt k hk).1))
                  | (at_builtin; refine wpList_append_src rfl (.tmp 53) (.tmp 56) 76 rfl W0.heap.size 9 i0 _ 1 16 Tryz.underlying76 hi hz0 hz1 hz2 rfl (by decide) v2 _ _ rfl hown2 _ (i - ak) ((L.drop ak).map .string) rfl (hsrc3 _ hB4) h1d (by unfold maxLen; omega) (by omega) hB4.size ?_; intro v3 w3 hown3 hg3; have hB5 := hB4.grown hg3 hB4.size (fun k hk => (hown2.lt k hk).1)))
                go_roundw
                case rel =>
                  refine ⟨i + 1, by omega, by go_num, ?_, hB.trans (hB5.mono hB.size)⟩
                  rw [hst.out, HI.out]
                  rw [show 0 + ak + 1 + (i - ak) = i + 1 by omega] at hown3
                  exact owns_le (by simpa using hown3) hB.size
                case measure => simp [intOf]; omega
            · have HN : Hid (∀ y ∈ L.take (ak + 1), sLt y x = true) := hstep.out he
              clear hstop hstep hcell hsrc1 hsrc3 hsrc4 h1t h1d
              go_wp2
              go_quiet (fail)
              go_wp2
              refine ⟨⟨ak + 1, q + nq, by omega, by go_num, HN.out, rfl⟩, by simp [intOf]; omega⟩
          · have hai' : decide ((ak : Int) < (i : Int)) = false := by simp; omega
            have HI : Hid (insS L x = L.take ak ++ x :: L.drop ak) := insS_eq L x ak (by omega) HL.out (fun h => by omega)
            clear hcell
            by_cases hce : cap = ak
            · have hna : Hid (i = ak) := (by omega : i = ak)
              have hce' := hce.symm
              subst hce'
              go_wp2
              go_quiet (fail)
              go_wp2_with (first
                | (at_builtin; refine wpList_append_src rfl (.tmp 37) (.tmp 40) 76 rfl W0.heap.size 9 i0 _ 1 16 Tryz.underlying76 hi hz0 hz1 hz2 rfl (by decide) (.slice none 0 0) 0 [] rfl (World.ownsRow_nil _ _ _ _) _ ak ((L.take ak).map .string) rfl (hsrc1 _ (hBq _)) h1t (by unfold maxLen; omega) (by omega) (hBq _).size ?_; intro v1 w1 hown1 hg1; have hB3 := (hBq _).grown hg1 (hBq _).size (fun k hk => by cases hk); have cA1 := cell_later hB3 cA; have cn1 := cell_later hB3 cn)
                | (at_builtin; refine wpList_append_src rfl (.tmp 42) (.tmp 51) 76 rfl W0.heap.size 9 i0 _ 1 16 Tryz.underlying76 hi hz0 hz1 hz2 rfl (by decide) v1 _ _ rfl (hown1.alloc _) _ 1 [.string x] rfl (src_new1 _ _ _) (by simp [Value.oneCell']) (by unfold maxLen; omega) (by omega) (by have := hB3.size; simp; omega) ?_; intro v2 w2 hown2 hg2; have hB4 := (hB3.alloc hB3.size _).grown hg2 (by have := hB3.size; simp; omega) (fun k hk => (hown1.lt k hk).1))
                | (at_builtin; refine wpList_append_src rfl (.tmp 53) (.tmp 56) 76 rfl W0.heap.size 9 i0 _ 1 16 Tryz.underlying76 hi hz0 hz1 hz2 rfl (by decide) v2 _ _ rfl hown2 _ 0 [] rfl (hsrc4 _) (by simp) (by unfold maxLen; omega) (by omega) hB4.size ?_; intro v3 w3 hown3 hg3; have hB5 := hB4.grown hg3 hB4.size (fun k hk => (hown2.lt k hk).1)))
              go_roundw
              case rel =>
                have hna2 := hna.out
                refine ⟨i + 1, by omega, by go_num, ?_, hB.trans (hB5.mono hB.size)⟩
                rw [hst.out, HI.out, List.drop_of_length_le (by omega)]
                rw [show 0 + ak + 1 + 0 = i + 1 by omega] at hown3
                exact owns_le (by simpa using hown3) hB.size
              case measure => simp [intOf]; omega
            · go_wp2
              go_quiet (fail)
              go_wp2_with (first
                | (at_builtin; refine wpList_append_src rfl (.tmp 37) (.tmp 40) 76 rfl W0.heap.size 9 i0 _ 1 16 Tryz.underlying76 hi hz0 hz1 hz2 rfl (by decide) (.slice none 0 0) 0 [] rfl (World.ownsRow_nil _ _ _ _) _ ak ((L.take ak).map .string) rfl (hsrc1 _ (hBq _)) h1t (by unfold maxLen; omega) (by omega) (hBq _).size ?_; intro v1 w1 hown1 hg1; have hB3 := (hBq _).grown hg1 (hBq _).size (fun k hk => by cases hk); have cA1 := cell_later hB3 cA; have cn1 := cell_later hB3 cn)
                | (at_builtin; refine wpList_append_src rfl (.tmp 42) (.tmp 51) 76 rfl W0.heap.size 9 i0 _ 1 16 Tryz.underlying76 hi hz0 hz1 hz2 rfl (by decide) v1 _ _ rfl (hown1.alloc _) _ 1 [.string x] rfl (src_new1 _ _ _) (by simp [Value.oneCell']) (by unfold maxLen; omega) (by omega) (by have := hB3.size; simp; omega) ?_; intro v2 w2 hown2 hg2; have hB4 := (hB3.alloc hB3.size _).grown hg2 (by have := hB3.size; simp; omega) (fun k hk => (hown1.lt k hk).1))
                | (at_builtin; refine wpList_append_src rfl (.tmp 53) (.tmp 56) 76 rfl W0.heap.size 9 i0 _ 1 16 Tryz.underlying76 hi hz0 hz1 hz2 rfl (by decide) v2 _ _ rfl hown2 _ (i - ak) ((L.drop ak).map .string) rfl (hsrc3 _ hB4) h1d (by unfold maxLen; omega) (by omega) hB4.size ?_; intro v3 w3 hown3 hg3; have hB5 := hB4.grown hg3 hB4.size (fun k hk => (hown2.lt k hk).1)))
              go_roundw
              case rel =>
                refine ⟨i + 1, by omega, by go_num, ?_, hB.trans (hB5.mono hB.size)⟩
                rw [hst.out, HI.out]
                rw [show 0 + ak + 1 + (i - ak) = i + 1 by omega] at hown3
                exact owns_le (by simpa using hown3) hB.size
              case measure => simp [intOf]; omega
    · have hlt' : ¬ (i : Int) < (na : Int) := by omega
      have hie : i = na := by omega
      subst hie
      clear hA
      go_wp2
      refine bodyPost_ret (results_tmp rfl _ _ _) rfl ?_
      exact ⟨_, rfl, hown, hB⟩
end Go.Proofs.YtjnmoddcodnadaaGreatDoor
namespace Go.Annal
/-- A line: an account's name, an amount. -/
abbrev Ln := ByteArray × Int
def enc2 (x : Ln) : List Value := [.string x.1, .int .i64 x.2]
def cells2 (l : List Ln) : List Value := l.flatMap enc2
theorem cells2_append (a b : List Ln) : cells2 (a ++ b) = cells2 a ++ cells2 b := by simp [cells2]
theorem cells2_len (l : List Ln) : (cells2 l).length = l.length * 2 := by
  induction l with
  | nil => rfl
  | cons x r ih => simp only [cells2, List.flatMap_cons, List.length_append, List.length_cons] at *; rw [ih]; simp [enc2]; omega
theorem cells2_one (l : List Ln) : ∀ u ∈ cells2 l, u.oneCell' = true := by
  intro u hu
  simp only [cells2, List.mem_flatMap, enc2] at hu
  obtain ⟨x, _, hx⟩ := hu
  simp at hx
  rcases hx with rfl | rfl <;> rfl
/-- All that have a balance. -/
def trL (bal : ByteArray → Int) (l : List ByteArray) : List Ln := (l.map (fun x => (x, bal x))).filter (fun p => !decide (p.2 = 0))
theorem trL_snoc (bal : ByteArray → Int) (l : List ByteArray) (x : ByteArray) : trL bal (l ++ [x]) = trL bal l ++ (if bal x = 0 then [] else [(x, bal x)]) := by
  simp only [trL, List.map_append, List.filter_append, List.map_cons, List.map_nil]
  by_cases h : bal x = 0 <;> simp [h]
theorem trL_len (bal : ByteArray → Int) (l : List ByteArray) : (trL bal l).length ≤ l.length := by
  unfold trL
  exact Nat.le_trans (List.length_filter_le _ _) (by simp)
end Go.Annal
namespace Go.Proofs.YtjnmoddcodnadaaGreatDoor
open Go.RowKit Go.Annal
theorem Tryz.infoLine : (Tryz.prog.info? 58).map (fun i => (i.zero, i.size, i.bytes)) = some (some (.agg #[.string ⟨#[]⟩, .int .i64 0]), 2, 24) := by kernel_rfl
theorem src_new2 (w : World) (a b : Value) (t : TypeId) : SrcAt (w.alloc (.cells #[a, b] t)) 2 (.slice (some ⟨w.heap.size, 0, none⟩) 1 1) 1 [a, b] :=
  .inr ⟨_, _, rfl, rfl, fun j u hj => by rw [addr_add, Nat.zero_add, World.cell?_alloc_at (w := w) _ _ _ _ rfl]; simpa using hj⟩

set_option maxRecDepth 100000 in
set_option maxHeartbeats 2000000 in
theorem TrialR_ok (R ga ca na ge ce ne : Nat) (ada ade : Option Addr) (fn : Nat → ByteArray) (dy : Nat → Int) (gl ln cl : Nat → Nat) (la : Nat → Nat → ByteArray) (lm : Nat → Nat → Int) (day : Int) (known : Nat) (w : World)
    (hA : AccsAt w R ga ca na ada fn) (hE : EntsAt w R ge ce ne ade dy gl ln cl la lm) (h2 : dayB day = true) (hk : known ≤ ne) :
    Calls Tryz.prog 86 #[.pointer (some ⟨R, 0, none⟩), .int .i64 day, .int .i64 known] w fun r w' => ∃ v,
      r = .returned (.tuple #[v, .int .i64 0]) ∧ w'.ownsRow w.heap.size 58 2 v (trL (fun x => enS dy la lm x day ln known) (nmS fn na)).length (cells2 (trL (fun x => enS dy la lm x day ln known) (nmS fn na))) ∧ Below w.heap.size w w' := by
  obtain ⟨i0, hi, hz0, hz1, hz2⟩ := info_parts Tryz.infoLine
  have C2 : Hid _ := isDayR_any day w
  have C3 : Hid _ := isKnown_b R ne ce ade known w hE.cE
  have C4 : Hid _ := namesR_any R ga ca na ada fn w hA
  rw [h2] at C2
  rw [show knownB (known : Int) ne = true by simp [knownB]; omega] at C3
  have hfew := hA.few
  have hln := nmS_len fn na
  generalize nmS fn na = N at *
  clear hA h2
  go_enter Tryz.func86, Tryz.ntmps86
  go_wp2_with fail
  refine Calls.mono C2.out ?_
  rintro e wx ⟨rfl, hw⟩; rw [hw]; clear hw wx
  go_wp2_with fail
  refine Calls.mono C3.out ?_
  rintro e wx ⟨rfl, hw⟩; rw [hw]; clear hw wx
  go_wp2_with fail
  refine Calls.mono C4.out ?_
  rintro e W1 ⟨nv, rfl, hnv, hB1⟩
  clear C2 C3 C4
  have hE1 := hE.mv hB1
  clear hE
  generalize hbal : (fun x => enS dy la lm x day ln known) = bal
  have CB : Hid (∀ x W, Below W1.heap.size W1 W → Calls Tryz.prog 83 #[.pointer (some ⟨R, 0, none⟩), .string x, .int .i64 day, .int .i64 known] W fun r w' => r = .returned (.int .i64 (bal x)) ∧ w' = W) := fun x W hW => by
    rw [← hbal]; exact balanceR_any R ge ce ne ade dy gl ln cl la lm x day known W (hE1.mv hW) hk
  have HB : Hid ((fun x => enS dy la lm x day ln known) = bal) := hbal
  clear hbal hE1
  rcases hnv.2 with ⟨rfl, rfl⟩ | ⟨g, cap, cur, rfl, hg, hh, hc1, hc2, _⟩
  · have hN : N = [] := List.length_eq_zero_iff.1 hln
    subst hN
    go_wp2
    refine wp_loop_rounds 2 ?_; rw [rounds_succ]; go_wp2
    refine bodyPost_ret (results_tmp2 rfl _ _ _) rfl ?_
    exact ⟨_, rfl, World.ownsRow_nil _ _ _ _, hB1⟩
  · have hcell : ∀ j (hj : j < N.length), W1.cell? ⟨g, j, none⟩ = some (.string N[j]) := fun j hj => by
      rw [hnv.cellAt j (by omega)]; simp [hj]
    go_wp2
    go_loopw [10, 12, 13] (fun ov iv _ wr => ∃ k : Nat, k ≤ na ∧ iv = .int .i64 k ∧ wr.ownsRow W1.heap.size 58 2 ov (trL bal (N.take k)).length (cells2 (trL bal (N.take k))) ∧ Below W1.heap.size W1 wr) (fun _ iv _ _ => na - (intOf iv).toNat)
    case atStart => exact ⟨0, Nat.zero_le _, rfl, by simpa [trL, cells2] using World.ownsRow_nil W1 W1.heap.size 58 2, Below.refl _ _⟩
    case round =>
      obtain ⟨k, hkn, rfl, hown, hB⟩ := hrel
      by_cases hlt : k < na
      · have hlt' : (k : Int) < (na : Int) := by omega
        have hk0 : (0 : Int) ≤ (k : Int) := by omega
        have hkl : k < N.length := by omega
        have hc := cell_later hB (hcell k hkl)
        have htk : Hid (N.take (k + 1) = N.take k ++ [N[k]]) := List.take_succ_eq_append_getElem hkl
        have hll := trL_len bal (N.take k)
        have hll2 : (N.take k).length ≤ k := List.length_take_le _ _
        generalize N[k] = x at *
        have hst : Hid (trL bal (N.take (k + 1)) = trL bal (N.take k) ++ (if bal x = 0 then [] else [(x, bal x)])) := by
          show trL bal _ = _
          rw [htk.out, trL_snoc]
        have CX : Hid _ := CB.out x wr hB
        generalize trL bal (N.take k) = M at *
        by_cases h0 : bal x = 0
        · rw [h0] at CX
          clear hcell
          go_wp2_with (go_at_call 83; refine Calls.mono CX.out ?_; rintro e wx ⟨rfl, hw⟩; rw [hw]; clear hw wx)
          go_roundw
          case rel => exact ⟨k + 1, by omega, by go_num, by rw [hst.out, if_pos h0]; simpa using hown, hB⟩
          case measure => simp [intOf]; omega
        · have h0' : (bal x != 0) = true := by simpa using h0
          have hst2 : Hid (trL bal (N.take (k + 1)) = M ++ [(x, bal x)]) := by
            show trL bal _ = _
            rw [hst.out, if_neg h0]
          generalize bal x = z at *
          clear hcell
          go_wp2_with (first
            | (go_at_call 83; refine Calls.mono CX.out ?_; rintro e wx ⟨rfl, hw⟩; rw [hw]; clear hw wx)
            | (at_builtin; refine wpList_append_src rfl (.tmp 43) (.tmp 50) 54 rfl W1.heap.size 58 i0 _ 2 24 Tryz.underlying54 hi hz0 hz1 hz2 rfl (by decide) _ _ _ rfl (hown.alloc _) _ 1 [.string x, .int .i64 z] rfl (src_new2 _ _ _ _) (by simp [Value.oneCell']) (by unfold maxLen; omega) (by omega) (by have := hB.size; simp; omega) ?_; intro v2 w2 hown2 hg2; have hB4 := (hB.alloc hB.size _).grown hg2 (by have := hB.size; simp; omega) (fun k hk => (hown.lt k hk).1)))
          go_roundw
          case rel => exact ⟨k + 1, by omega, by go_num, by rw [hst2.out, cells2_append]; simpa [cells2, enc2] using hown2, hB4⟩
          case measure => simp [intOf]; omega
      · have hlt' : ¬ (k : Int) < (na : Int) := by omega
        rw [List.take_of_length_le (by omega)] at hown
        go_wp2
        refine bodyPost_ret (results_tmp2 rfl _ _ _) rfl ?_
        exact ⟨_, rfl, by rw [HB.out]; exact owns_le hown hB1.size, hB1.trans (hB.mono hB1.size)⟩
end Go.Proofs.YtjnmoddcodnadaaGreatDoor
namespace Go.Annal
def anyN (n : Nat) (p : Nat → Bool) : Bool := (List.range n).any p
theorem anyN_true {n : Nat} {p : Nat → Bool} {k : Nat} (hk : k < n) (h : p k = true) : anyN n p = true := List.any_eq_true.2 ⟨k, by simpa using hk, h⟩
theorem anyN_false {n : Nat} {p : Nat → Bool} (h : ∀ k, k < n → p k = false) : anyN n p = false := by
  rw [Bool.eq_false_iff]; intro hc
  obtain ⟨k, hk, hp⟩ := List.any_eq_true.1 hc
  rw [h k (by simpa using hk)] at hp; cases hp
def badAmt (m : Int) : Bool := decide (m = 0) || decide (m < -1000000000) || decide (1000000000 < m)
def sumN (xm : Nat → Int) : Nat → Int
  | 0 => 0
  | k + 1 => sumN xm k + xm k
theorem sumN_bd (xm : Nat → Int) : ∀ k, (∀ j, j < k → badAmt (xm j) = false) → -(1000000000 * (k : Int)) ≤ sumN xm k ∧ sumN xm k ≤ 1000000000 * (k : Int)
  | 0, _ => by simp [sumN]
  | k + 1, h => by
    have := sumN_bd xm k (fun j hj => h j (by omega))
    have h2 := h k (by omega)
    simp only [badAmt, Bool.or_eq_false_iff, decide_eq_false_iff_not] at h2
    simp only [sumN]; omega
/-- What is wrong with n lines. -/
def wrongE (there : ByteArray → Bool) (xa : Nat → ByteArray) (xm : Nat → Int) (n : Nat) : Int :=
  if n < 2 ∨ 6 < n then 6 else if anyN n (fun i => !there (xa i)) then 7 else if anyN n (fun i => anyN i (fun k => (xa i).toList == (xa k).toList)) then 8
  else if anyN n (fun i => badAmt (xm i)) then 9 else if sumN xm n = 0 then 0 else 10
end Go.Annal
namespace Go.Proofs.YtjnmoddcodnadaaGreatDoor
open Go.RowKit Go.Annal
/-- Lines that are handed in: n of them, at an address. -/
structure LinesAt (w : World) (lg lo n : Nat) (xa : Nat → ByteArray) (xm : Nat → Int) : Prop where
  ca : ∀ k, k < n → w.cell? ⟨lg, lo + k * 2, none⟩ = some (.string (xa k))
  cm : ∀ k, k < n → w.cell? ⟨lg, lo + k * 2 + 1, none⟩ = some (.int .i64 (xm k))
theorem LinesAt.mv {w w' : World} {lg lo n : Nat} {xa : Nat → ByteArray} {xm : Nat → Int} (h : LinesAt w lg lo n xa xm) (hb : Below w.heap.size w w') : LinesAt w' lg lo n xa xm :=
  ⟨fun k hk => cell_later hb (h.ca k hk), fun k hk => cell_later hb (h.cm k hk)⟩

theorem drewN_add (w : World) (a b : Nat) : (w.drewN a).drewN b = w.drewN (a + b) := by
  simp only [drewN_eq]; rw [Nat.add_assoc]

set_option maxRecDepth 100000 in
set_option maxHeartbeats 1000000 in
theorem wrong_len (R n cap : Nat) (lad : Option Addr) (w : World) (hn : n < 2 ∨ 6 < n) (hn2 : n ≤ 1000000000000) :
    Calls Tryz.prog 124 #[.pointer (some ⟨R, 0, none⟩), .slice lad n cap] w fun r w' => r = .returned (.int .i64 6) ∧ w' = w := by
  rcases hn with hn | hn
  · have h1 : (n : Int) < 2 := by omega
    go_enter Tryz.func124, Tryz.ntmps124
    go_wp2
    go_ret
    exact ⟨rfl, rfl⟩
  · have h1 : ¬ (n : Int) < 2 := by omega
    have h2 : (6 : Int) < (n : Int) := by omega
    go_enter Tryz.func124, Tryz.ntmps124
    go_wp2
    go_ret
    exact ⟨rfl, rfl⟩

set_option maxRecDepth 100000 in
set_option maxHeartbeats 2000000 in
theorem wrong_any (R ga ca na n cap lg lo : Nat) (ada : Option Addr) (fn : Nat → ByteArray) (xa : Nat → ByteArray) (xm : Nat → Int) (w : World) (hA : AccsAt w R ga ca na ada fn) (hL : LinesAt w lg lo n xa xm) (hn : 2 ≤ n) (hn6 : n ≤ 6) :
    Calls Tryz.prog 124 #[.pointer (some ⟨R, 0, none⟩), .slice (some ⟨lg, lo, none⟩) n cap] w fun r w' => r = .returned (.int .i64 (wrongE (fun x => decide (0 ≤ atI fn na x)) xa xm n)) ∧ ∃ q, w' = w.drewN q := by
  have h1 : ¬ (n : Int) < 2 := by omega
  have h2 : ¬ (6 : Int) < (n : Int) := by omega
  have e7 : Hid (anyN n (fun i => !decide (0 ≤ atI fn na (xa i))) = true → wrongE (fun x => decide (0 ≤ atI fn na x)) xa xm n = 7) := fun h => by unfold wrongE; rw [if_neg (by omega), if_pos h]
  have e8 : Hid (anyN n (fun i => !decide (0 ≤ atI fn na (xa i))) = false → anyN n (fun i => anyN i (fun k => (xa i).toList == (xa k).toList)) = true → wrongE (fun x => decide (0 ≤ atI fn na x)) xa xm n = 8) := fun h h' => by unfold wrongE; rw [if_neg (by omega), if_neg (by simp [h]), if_pos h']
  have e9 : Hid (anyN n (fun i => !decide (0 ≤ atI fn na (xa i))) = false → anyN n (fun i => anyN i (fun k => (xa i).toList == (xa k).toList)) = false → anyN n (fun i => badAmt (xm i)) = true → wrongE (fun x => decide (0 ≤ atI fn na x)) xa xm n = 9) := fun h h' h'' => by unfold wrongE; rw [if_neg (by omega), if_neg (by simp [h]), if_neg (by simp [h']), if_pos h'']
  have e0 : Hid (anyN n (fun i => !decide (0 ≤ atI fn na (xa i))) = false → anyN n (fun i => anyN i (fun k => (xa i).toList == (xa k).toList)) = false → anyN n (fun i => badAmt (xm i)) = false → wrongE (fun x => decide (0 ≤ atI fn na x)) xa xm n = if sumN xm n = 0 then 0 else 10) := fun h h' h'' => by unfold wrongE; rw [if_neg (by omega), if_neg (by simp [h]), if_neg (by simp [h']), if_neg (by simp [h''])]
  have CA : Hid _ := fun x => hA.at x
  generalize wrongE (fun x => decide (0 ≤ atI fn na x)) xa xm n = E at *
  clear hA
  go_enter Tryz.func124, Tryz.ntmps124
  go_wp2
  go_loop [5, 6] (fun iv _ => ∃ i : Nat, i ≤ n ∧ iv = .int .i64 i ∧ ∀ j, j < i → decide (0 ≤ atI fn na (xa j)) = true) (fun iv _ => n - (intOf iv).toNat)
  case atStart => exact ⟨0, Nat.zero_le _, rfl, fun _ h => by omega⟩
  case round =>
    obtain ⟨i, hi, rfl, hb⟩ := hrel
    have HB : Hid _ := hb
    clear hb
    by_cases hlt : i < n
    · have hlt' : (i : Int) < (n : Int) := by omega
      have hi0 : (0 : Int) ≤ (i : Int) := by omega
      have ca := hL.ca i hlt
      have CX : Hid _ := CA.out (xa i)
      by_cases ht : atI fn na (xa i) < 0
      · have fin : Hid (E = 7) := e7.out (anyN_true hlt (by simp; omega))
        clear e7 e8 e9 e0 CA hL
        go_wp2_with (go_at_call 77; refine Calls.mono CX.out ?_; rintro e wx ⟨rfl, hw⟩; rw [hw]; clear hw wx)
        go_ret
        exact ⟨ret_int fin.out.symm, 0, rfl⟩
      · have ht' : ¬ atI fn na (xa i) < 0 := ht
        have HN : Hid (∀ j, j < i + 1 → decide (0 ≤ atI fn na (xa j)) = true) := fun j hj => by
          by_cases h : j = i
          · subst h; simp; omega
          · exact HB.out j (by omega)
        clear e7 e8 e9 e0 CA hL
        go_wp2_with (go_at_call 77; refine Calls.mono CX.out ?_; rintro e wx ⟨rfl, hw⟩; rw [hw]; clear hw wx)
        go_round
        case rel => exact ⟨i + 1, by omega, by go_num, HN.out⟩
        case measure => simp [intOf]; omega
    · have hlt' : ¬ (i : Int) < (n : Int) := by omega
      have F7 : Hid (anyN n (fun i => !decide (0 ≤ atI fn na (xa i))) = false) := anyN_false (fun k hk => by rw [HB.out k (by omega)]; rfl)
      clear HB CA e7
      go_wp2
      go_loopw [7, 8] (fun iv _ wr => ∃ i q : Nat, i ≤ n ∧ iv = .int .i64 i ∧ (∀ j, j < i → anyN j (fun k => (xa j).toList == (xa k).toList) = false) ∧ wr = w.drewN q) (fun iv _ _ => n - (intOf iv).toNat)
      case atStart => exact ⟨0, 0, Nat.zero_le _, rfl, fun _ h => by omega, rfl⟩
      case round =>
        obtain ⟨i2, q, hi2, rfl, hb, rfl⟩ := hrel
        have HB : Hid _ := hb
        clear hb
        by_cases hlt2 : i2 < n
        · have hlt2' : (i2 : Int) < (n : Int) := by omega
          have hi20 : (0 : Int) ≤ (i2 : Int) := by omega
          have ci := hL.ca i2 hlt2
          go_wp2
          go_loopw [8] (fun kv wr => ∃ k q : Nat, k ≤ i2 ∧ kv = .int .i64 k ∧ (∀ j, j < k → ((xa i2).toList == (xa j).toList) = false) ∧ wr = w.drewN q) (fun kv _ => i2 - (intOf kv).toNat)
          case atStart => exact ⟨0, q, Nat.zero_le _, rfl, fun _ h => by omega, rfl⟩
          case round =>
            obtain ⟨k, q2, hk, rfl, hb2, rfl⟩ := hrel
            have HB2 : Hid _ := hb2
            clear hb2
            by_cases hkl : k < i2
            · have hkl' : (k : Int) < (i2 : Int) := by omega
              have hkn' : (k : Int) < (n : Int) := by omega
              have hk0 : (0 : Int) ≤ (k : Int) := by omega
              have ck := hL.ca k (by omega)
              cases he : (xa i2).toList == (xa k).toList
              · have HN : Hid (∀ j, j < k + 1 → ((xa i2).toList == (xa j).toList) = false) := fun j hj => by
                  by_cases h : j = k
                  · subst h; exact he
                  · exact HB2.out j (by omega)
                clear e8 e9 e0 hL
                go_wp2
                go_quiet (fail)
                go_wp2
                refine ⟨⟨k + 1, q2 + nq, by omega, by go_num, HN.out, rfl⟩, by simp [intOf]; omega⟩
              · have fin : Hid (E = 8) := e8.out F7.out (anyN_true hlt2 (anyN_true hkl he))
                clear e8 e9 e0 hL
                go_wp2
                go_quiet (fail)
                go_wp2
                go_ret
                exact ⟨ret_int fin.out.symm, q2 + nq, drewN_add _ _ _⟩
            · have hkl' : ¬ (k : Int) < (i2 : Int) := by omega
              have HN : Hid (∀ j, j < i2 + 1 → anyN j (fun k => (xa j).toList == (xa k).toList) = false) := fun j hj => by
                by_cases h : j = i2
                · subst h; exact anyN_false (fun t ht => HB2.out t (by omega))
                · exact HB.out j (by omega)
              clear e8 e9 e0 hL
              go_wp2
              go_roundw
              case rel => exact ⟨i2 + 1, q2, by omega, by go_num, HN.out, rfl⟩
              case measure => simp [intOf]; omega
        · have hlt2' : ¬ (i2 : Int) < (n : Int) := by omega
          have F8 : Hid (anyN n (fun i => anyN i (fun k => (xa i).toList == (xa k).toList)) = false) := anyN_false (fun k hk => HB.out k (by omega))
          clear HB e8
          go_wp2
          go_loopw [9, 10] (fun sv iv wr => ∃ i : Nat, i ≤ n ∧ iv = .int .i64 i ∧ sv = .int .i64 (sumN xm i) ∧ (∀ j, j < i → badAmt (xm j) = false) ∧ wr = w.drewN q) (fun _ iv _ => n - (intOf iv).toNat)
          case atStart => exact ⟨0, Nat.zero_le _, rfl, rfl, fun _ h => by omega, rfl⟩
          case round =>
            obtain ⟨i3, hi3, rfl, rfl, hb, rfl⟩ := hrel
            have hsb := sumN_bd xm i3 hb
            obtain ⟨hsb1, hsb2⟩ := hsb
            have HB : Hid _ := hb
            clear hb
            by_cases hlt3 : i3 < n
            · have hlt3' : (i3 : Int) < (n : Int) := by omega
              have hi30 : (0 : Int) ≤ (i3 : Int) := by omega
              have cm := hL.cm i3 hlt3
              have hst : Hid (sumN xm (i3 + 1) = sumN xm i3 + xm i3) := rfl
              have H9 : Hid (badAmt (xm i3) = true → E = 9) := fun h => e9.out F7.out F8.out (anyN_true hlt3 h)
              have HN : Hid (badAmt (xm i3) = false → ∀ j, j < i3 + 1 → badAmt (xm j) = false) := fun h0 j hj => by
                by_cases h : j = i3
                · subst h; exact h0
                · exact HB.out j (by omega)
              generalize hm : xm i3 = m at *
              clear hm
              generalize sumN xm i3 = S at *
              clear e9 e0 hL
              rcases (show m = 0 ∨ m < -1000000000 ∨ 1000000000 < m ∨ (m ≠ 0 ∧ -1000000000 ≤ m ∧ m ≤ 1000000000) by omega) with hz | hz | hz | ⟨hz0, hz1, hz2⟩
              · have fin : Hid (E = 9) := H9.out (by simp [badAmt, hz])
                have t1 : (m == 0) = true := by simp [hz]
                clear hz
                go_wp2
                go_ret
                exact ⟨ret_int fin.out.symm, _, rfl⟩
              · have fin : Hid (E = 9) := H9.out (by simp [badAmt, hz])
                have t1 : (m == 0) = false := by rw [beq_eq_false_iff_ne]; omega
                go_wp2
                go_ret
                exact ⟨ret_int fin.out.symm, _, rfl⟩
              · have fin : Hid (E = 9) := H9.out (by simp [badAmt, hz])
                have t1 : (m == 0) = false := by rw [beq_eq_false_iff_ne]; omega
                have t2 : ¬ m < -1000000000 := by omega
                go_wp2
                go_ret
                exact ⟨ret_int fin.out.symm, _, rfl⟩
              · have hok := HN.out (by simp [badAmt]; omega)
                have HO : Hid _ := hok
                clear hok
                have t1 : (m == 0) = false := by rw [beq_eq_false_iff_ne]; omega
                have t2 : ¬ m < -1000000000 := by omega
                have t3 : ¬ 1000000000 < m := by omega
                go_wp2
                go_roundw
                case rel => exact ⟨i3 + 1, by omega, by go_num, by rw [hst.out], HO.out, by first | rfl | trivial⟩
                case measure => simp [intOf]; omega
            · have hlt3' : ¬ (i3 : Int) < (n : Int) := by omega
              have hie : i3 = n := by omega
              subst hie
              have fin : Hid (E = if sumN xm i3 = 0 then 0 else 10) := e0.out F7.out F8.out (anyN_false HB.out)
              clear e9 e0 hL
              by_cases h0 : sumN xm i3 = 0
              · have fin' : Hid (E = 0) := by show E = 0; rw [fin.out, if_pos h0]
                go_wp2
                go_ret
                exact ⟨ret_int fin'.out.symm, _, rfl⟩
              · have fin' : Hid (E = 10) := by show E = 10; rw [fin.out, if_neg h0]
                have t0 : (sumN xm i3 != 0) = true := by simpa using h0
                go_wp2
                go_ret
                exact ⟨ret_int fin'.out.symm, _, rfl⟩
end Go.Proofs.YtjnmoddcodnadaaGreatDoor
namespace Go.Annal
open Go.RowKit
/-- Of what was there nothing but the blocks of S has turned. -/
structure Turn (S : Nat → Prop) (w w' : World) : Prop where
  os : w'.os = w.os
  tape : w'.tape = w.tape
  output : w'.output = w.output
  size : w.heap.size ≤ w'.heap.size
  block : ∀ k, k < w.heap.size → ¬ S k → w'.heap[k]? = w.heap[k]?
theorem Turn.refl (S : Nat → Prop) (w : World) : Turn S w w := ⟨rfl, rfl, rfl, Nat.le_refl _, fun _ _ _ => rfl⟩
theorem Turn.trans {S : Nat → Prop} {a b c : World} (h : Turn S a b) (k : Turn S b c) : Turn S a c :=
  ⟨k.os.trans h.os, k.tape.trans h.tape, k.output.trans h.output, Nat.le_trans h.size k.size, fun i hi hs => (k.block i (Nat.lt_of_lt_of_le hi h.size) hs).trans (h.block i hi hs)⟩
theorem Turn.mono {S S' : Nat → Prop} {w w' : World} (h : Turn S w w') (hS : ∀ k, k < w.heap.size → S k → S' k) : Turn S' w w' := ⟨h.os, h.tape, h.output, h.size, fun k hk hs => h.block k hk (fun h' => hs (hS k hk h'))⟩
theorem Turn.of_below {S : Nat → Prop} {w w' : World} (h : Below w.heap.size w w') : Turn S w w' := ⟨h.os, h.tape, h.output, h.size, fun k hk _ => h.block k hk⟩
theorem Turn.below {S : Nat → Prop} {a w w' : World} (h : Turn S a w) (hb : Below w.heap.size w w') : Turn S a w' := h.trans (Turn.of_below hb)
/-- A step that turns blocks of S, or new ones, alone. -/
theorem Turn.of_grown {S : Nat → Prop} {a w w' : World} {row : Option Nat} (h : Turn S a w) (hg : w.grownBy w' row) (hr : ∀ k, row = some k → k < a.heap.size → S k) : Turn S a w' :=
  ⟨hg.os.trans h.os, hg.tape.trans h.tape, hg.output.trans h.output, Nat.le_trans h.size hg.size, fun k hk hs => (hg.block k (Nat.lt_of_lt_of_le hk h.size) (fun e => hs (hr k e.symm hk))).trans (h.block k hk hs)⟩
theorem Turn.alloc {S : Nat → Prop} {a w : World} (h : Turn S a w) (o : Obj) : Turn S a (w.alloc o) := h.of_grown (World.grownBy_alloc w o none) (fun _ e => by cases e)
theorem Turn.drew {S : Nat → Prop} {a w : World} (h : Turn S a w) : Turn S a w.drew := ⟨h.os, h.tape, h.output, h.size, h.block⟩
theorem Turn.set {S : Nat → Prop} {a w : World} (h : Turn S a w) (p : Addr) (v : Value) (hp : p.block < a.heap.size → S p.block) : Turn S a (w.setCell p v) :=
  ⟨h.os, h.tape, h.output, by simpa [World.setCell] using h.size, fun k hk hs => by
    by_cases e : k = p.block
    · subst e; exact absurd (hp hk) hs
    · exact (Below.heap_setCell w p v k e).trans (h.block k hk hs)⟩
theorem owns_turn {S : Nat → Prop} {w w' : World} {B : Nat} {e : TypeId} {size n : Nat} {v : Value} {xs : List Value} (h : w.ownsRow B e size v n xs) (ht : Turn S w w') (hs : ∀ g, v.ownBlock = some g → ¬ S g) : w'.ownsRow B e size v n xs :=
  ⟨h.1, h.2.elim .inl (fun ⟨g, cap, cur, hv, hg, hh, r⟩ => .inr ⟨g, cap, cur, hv, hg, (ht.block g (Array.getElem?_eq_some_iff.1 hh).1 (hs g (by rw [hv]; rfl))).trans hh, r⟩)⟩
theorem Turn.blk {S : Nat → Prop} {w w' : World} (h : Turn S w w') {b : Nat} {o : Obj} (hb : w.heap[b]? = some o) (hs : ¬ S b) : w'.heap[b]? = some o := (h.block b (blk_lt hb) hs).trans hb
end Go.Annal
namespace Go.Proofs.YtjnmoddcodnadaaGreatDoor
open Go.RowKit Go.Annal
attribute [local go_sem ↓] Go.wp_at_zero Go.wp_at_succ
theorem Tryz.infoEntry : (Tryz.prog.info? 158).map (fun i => (i.zero, i.size, i.bytes)) = some (some (.agg #[.int .i64 0, .slice none 0 0, .bool false]), 3, 40) := by kernel_rfl

theorem owns_kind {w : World} {B : Nat} {e : TypeId} {size : Nat} {v : Value} {n : Nat} {xs : List Value} (h : w.ownsRow B e size v n xs) : ∀ g, v.ownBlock = some g → ∃ c fz, w.heap[g]? = some (.cells c e fz) := by
  intro g hg
  rcases h.2 with ⟨rfl, _⟩ | ⟨g', cap, cur, rfl, _, hgg, _⟩
  · simp [Value.ownBlock] at hg
  · simp [Value.ownBlock] at hg; subst hg; exact ⟨_, _, hgg⟩

set_option maxRecDepth 100000 in
set_option maxHeartbeats 1000000 in
theorem enterR_any (R ne : Nat) (av ev c2 c3 lv : Value) (xs : List Value) (day : Int) (gb : Bool) (w : World) (hR : w.heap[R]? = some (.cells #[av, ev, c2, c3] 103 (0, 0)))
    (hown : w.ownsRow 0 158 3 ev ne xs) (hn : ne ≤ 1000) (hlv : lv.oneCell' = true) :
    Calls Tryz.prog 81 #[.pointer (some ⟨R, 0, none⟩), .agg #[.int .i64 day, lv, .bool gb]] w fun r w' => r = .returned (.int .i64 ((ne + 1 : Nat) : Int)) ∧ ∃ g cap,
      w'.heap[R]? = some (.cells #[av, .slice (some ⟨g, 0, none⟩) (ne + 1) cap, c2, c3] 103 (0, 0)) ∧ w'.ownsRow 0 158 3 (.slice (some ⟨g, 0, none⟩) (ne + 1) cap) (ne + 1) (xs ++ [.int .i64 day, lv, .bool gb]) ∧
      Turn (fun k => k = R ∨ ev.ownBlock = some k) w w' ∧ (ev.ownBlock = some g ∨ w.heap.size ≤ g) := by
  obtain ⟨i0, hi, hz0, hz1, hz2⟩ := info_parts Tryz.infoEntry
  have hRb : ev.ownBlock ≠ some R := fun h => by
    obtain ⟨c, fz, hc⟩ := owns_kind hown R h
    rw [hR] at hc; simp at hc
  have hRlt := blk_lt hR
  have r1 := blk_cell' hR (o := 1) rfl
  have f1 := blk_free hR 1
  have hx1 : ∀ u ∈ [Value.int .i64 day, lv, .bool gb], u.oneCell' = true := by simp [Value.oneCell'] at hlv ⊢; exact hlv
  go_enter Tryz.func81, Tryz.ntmps81
  go_wp2
  have f1' : (w.alloc (.cells #[.int .i64 day, lv, .bool gb] 158)).frozen? ⟨R, 1, none⟩ = false := (Grew.frozen ((Grew.refl w).alloc _) (p := ⟨R, 1, none⟩) hRlt).trans f1
  have hb2 : ((w.alloc (.cells #[.int .i64 day, lv, .bool gb] 158)).alloc (.cells #[.int .i64 day, lv, .bool gb] 158)).drew.heap[w.heap.size + 1]? = some (.cells #[.int .i64 day, lv, .bool gb] 158 (0, 0)) := by
    have := heap_alloc_new (w.alloc (.cells #[.int .i64 day, lv, .bool gb] 158)) (.cells #[.int .i64 day, lv, .bool gb] 158)
    rwa [World.size_alloc] at this
  have hne : w.heap.size ≠ R := by omega
  have hnB : ev.ownBlock ≠ some w.heap.size := fun h => by have := (hown.lt _ h).2; omega
  go_region_law ((refine step_append_lies _ (by rfl) _ _ _ (by rfl) 0 158 i0 _ 3 40 Tryz.underlying101 hi hz0 hz1 hz2 rfl (by decide) ev ne xs (by rfl) (by exact ((hown.alloc _).alloc _).drew) ⟨w.heap.size + 1, 0, none⟩ 1 1 [.int .i64 day, lv, .bool gb] (by rfl) rfl (World.news_of_block (cs := #[.int .i64 day, lv, .bool gb]) hb2) hx1 (by decide) (by unfold maxLen; omega) (by omega) (Nat.zero_le _) (w.heap.size + 2) (by simp) ?_; intro g cap w1 hown1 hg1 hat hlt; have R1 : w1.heap[R]? = some (.cells #[av, ev, c2, c3] 103 (0, 0)) := (hg1.block R (by simp; omega) (Ne.symm hRb)).trans (Grew.blk (((Grew.refl w).alloc _).alloc _).drew hR); have r1' := blk_cell' R1 (o := 1) rfl; have f1'' := blk_free R1 1))
  all_goals go_wp2
  all_goals go_ret
  all_goals
    refine ⟨by first | rfl | (simp; done), g, cap, blk_set R1 1 _, ?_, ?_, ?_⟩
    · exact ownsRow_setCell_other hown1 (fun h => by
        simp only [Value.ownBlock, Option.some.injEq] at h
        obtain ⟨c, fz, hc⟩ := owns_kind hown1 g rfl
        rw [h, R1] at hc; simp at hc) _
    · refine Turn.set (Turn.of_grown (Turn.drew (Turn.alloc (Turn.alloc (Turn.refl _ w) _) _)) hg1 (fun k hk _ => Or.inr hk)) _ _ (fun _ => Or.inl rfl)
    · rcases hat with h | h
      · exact .inl h
      · exact .inr (by omega)
end Go.Proofs.YtjnmoddcodnadaaGreatDoor
