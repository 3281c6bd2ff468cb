import Derived.Test.YtjnmoddcodnadaaGreatDoorG01
import Derived.Laws.AppendOwnNone
import Derived.Deep.AppendLies
import Derived.WalkKit
set_option linter.unusedVariables false
set_option linter.unusedSimpArgs false
namespace Go.Annal
open Go.RowKit
/-- What is appended: nothing of a nil slice, or cells that lie at an address. -/
def SrcAt (w : World) (size : Nat) (xv : Value) (m : Nat) (news : List Value) : Prop :=
  (xv = .slice none 0 0 ∧ m = 0 ∧ news = []) ∨ (∃ ad c, xv = .slice (some ad) m c ∧ news.length = m * size ∧ ∀ j u, news[j]? = some u → w.cell? (ad.add j) = some u)
theorem SrcAt.mv {w w' : World} {size : Nat} {xv : Value} {m : Nat} {news : List Value} (h : SrcAt w size xv m news) (hb : Below w.heap.size w w') : SrcAt w' size xv m news := by
  rcases h with h | ⟨ad, c, h1, h2, h3⟩
  · exact .inl h
  · exact .inr ⟨ad, c, h1, h2, fun j u hj => cell_later hb (h3 j u hj)⟩

theorem wpList_append_src {P : Program} {w : World} {ops : Array Oper} {rest : List Oper} {o : Oper} {a : Act} {Q : Exit → Act → World → Prop} (hgd : o.guard = none) (s x : Operand) (t : TypeId)
    (ho : o.op = .call { callee := .builtin .append, args := #[s, x], argTypes := #[t, t] })
    (base : Nat) (e : TypeId) (i : TypeInfo) (z : Value) (size bytes : Nat) (ht : P.underlying t = some (.slice e)) (hi : P.info? e = some i) (hz : i.zero = some z)
    (hsize : i.size = size) (hby : i.bytes = bytes) (hzs : z.cells.size = size) (hsz : 0 < size)
    (v : Value) (n : Nat) (xs : List Value) (hs : a.eval s = v) (hown : w.ownsRow base e size v n xs)
    (xv : Value) (m : Nat) (news : List Value) (hx : a.eval x = xv) (hsrc : SrcAt w size xv m news) (h1 : ∀ u ∈ news, u.oneCell' = true)
    (h63 : n + m ≤ maxLen) (hbytes : (n + m) * bytes ≤ 140737488355328) (hbase : base ≤ w.heap.size)
    (h : ∀ v' w', w'.ownsRow base e size v' (n + m) (xs ++ news) → w.grownBy w' v.ownBlock → wpList P ops Q rest (a.put o.dst v') w') :
    wpList P ops Q (o :: rest) a w := by
  rcases hsrc with ⟨h1', h2, h3⟩ | ⟨ad, c, h1', h2, h3⟩
  · subst h2 h3
    refine wpList_append_own_none hgd s x t ho base e i size ht hi v n xs hs hown (hx.trans h1') ?_
    exact h v w (by simpa using hown) ⟨rfl, rfl, rfl, Nat.le_refl _, fun _ _ _ => rfl⟩
  · exact wpList_append_own (w := w) hgd s x t ho base e i z size bytes ht hi hz hsize hby hzs hsz v n xs hs hown ad m c news (hx.trans h1') h2 h3 h1 h63 hbytes hbase (fun v' w' h4 h5 _ => h v' w' h4 h5)
end Go.Annal
namespace Go.Proofs.YtjnmoddcodnadaaGreatDoor
open Go.RowKit Go.Annal
theorem Tryz.infoItem : (Tryz.prog.info? 106).map (fun i => (i.zero, i.size, i.bytes)) = some (some (.agg #[.int .i64 0, .int .i64 0, .int .i64 0]), 3, 24) := by kernel_rfl

theorem addr_add (g o j : Nat) : (⟨g, o, none⟩ : Addr).add j = ⟨g, o + j, none⟩ := by
  unfold Addr.add; split
  · subst_vars; rfl
  · rfl
theorem src_new3 (w : World) (a b c : Value) (t : TypeId) : SrcAt (w.alloc (.cells #[a, b, c] t)) 3 (.slice (some ⟨w.heap.size, 0, none⟩) 1 1) 1 [a, b, c] :=
  .inr ⟨_, _, rfl, rfl, fun j u hj => by rw [addr_add, Nat.zero_add, World.cell?_alloc_at (w := w) _ _ _ _ rfl]; simpa using hj⟩
theorem one3 {a b c : Int} : ∀ u ∈ [Value.int .i64 a, .int .i64 b, .int .i64 c], u.oneCell' = true := by simp [Value.oneCell']

set_option maxRecDepth 100000 in
set_option maxHeartbeats 1000000 in
theorem placed_some (g n cap : Nat) (xs : List Value) (d : Nat → Int) (e0 d0 a0 : Int) (w : World) (hown : w.ownsRow 0 106 3 (.slice (some ⟨g, 0, none⟩) n cap) n xs) (hd : ∀ j, j < n → xs[j * 3 + 1]? = some (.int .i64 (d j)))
    (h1 : ∀ u ∈ xs, u.oneCell' = true) (hn : n ≤ 1000) (hcap : n ≤ cap) (hcap2 : cap ≤ maxLen) :
    Calls Tryz.prog 128 #[.slice (some ⟨g, 0, none⟩) n cap, .agg #[.int .i64 e0, .int .i64 d0, .int .i64 a0]] w fun r w' => ∃ at' v', at' ≤ n ∧ (∀ j, at' ≤ j → j < n → d0 < d j) ∧ (0 < at' → d (at' - 1) ≤ d0) ∧
      r = .returned v' ∧ w'.ownsRow w.heap.size 106 3 v' (n + 1) (xs.take (at' * 3) ++ [.int .i64 e0, .int .i64 d0, .int .i64 a0] ++ xs.drop (at' * 3)) ∧ Below w.heap.size w w' := by
  obtain ⟨i0, hi, hz0, hz1, hz2⟩ := info_parts Tryz.infoItem
  have hlen : xs.length = n * 3 := hown.1
  have hg : g < w.heap.size := (hown.lt g rfl).2
  have hcell : ∀ j, j < n * 3 → w.cell? ⟨g, j, none⟩ = xs[j]? := fun j hj => hown.cellAt j hj
  have hB1 : Below w.heap.size w (w.alloc (.cells #[.int .i64 e0, .int .i64 d0, .int .i64 a0] 106)) := (Below.refl _ _).alloc (Nat.le_refl _) _
  unfold maxLen at hcap2
  go_enter Tryz.func128, Tryz.ntmps128
  go_wp2
  go_loopw [5] (fun av wr => ∃ at' q : Nat, at' ≤ n ∧ av = .int .i64 at' ∧ (∀ j, at' ≤ j → j < n → d0 < d j) ∧ wr = (w.alloc (.cells #[.int .i64 e0, .int .i64 d0, .int .i64 a0] 106)).drewN q) (fun av _ => (intOf av).toNat)
  case atStart => exact ⟨n, 0, Nat.le_refl _, rfl, fun _ _ _ => by omega, rfl⟩
  case round =>
    obtain ⟨at', q, hat, rfl, hgt, rfl⟩ := hrel
    have HG : Hid (∀ j, at' ≤ j → j < n → d0 < d j) := hgt
    clear hgt
    have hat' : (at' : Int) ≤ (n : Int) := by omega
    by_cases h0 : 0 < at'
    · have h0' : (0 : Int) < (at' : Int) := by omega
      have hi0 : (0 : Int) ≤ (at' : Int) - 1 := by omega
      have hi1 : (at' : Int) - 1 < (n : Int) := by omega
      have hi2 : ((at' : Int) - 1).toNat = at' - 1 := by omega
      have hc : w.cell? ⟨g, (at' - 1) * 3 + 1, none⟩ = some (.int .i64 (d (at' - 1))) := (hcell _ (by omega)).trans (hd _ (by omega))
      have hx : w.heap.size ≠ g := by omega
      by_cases hlt : d0 < d (at' - 1)
      · go_wp2
        go_quiet (fail)
        go_wp2
        refine ⟨⟨at' - 1, q + nq, by omega, by go_num, fun j hj1 hj2 => ?_, rfl⟩, by simp [intOf]; omega⟩
        by_cases hj : j = at' - 1
        · subst hj; exact hlt
        · exact HG.out j (by omega) hj2
      · have hlt2 : decide (d0 < d (at' - 1)) = false := by simpa using hlt
        have hB2 : ∀ k, Below w.heap.size w ((w.alloc (.cells #[.int .i64 e0, .int .i64 d0, .int .i64 a0] 106)).drewN k) := fun k => hB1.trans ⟨rfl, rfl, rfl, Nat.le_refl _, fun _ _ => rfl⟩
        have hsrc1 : ∀ W, Below w.heap.size w W → SrcAt W 3 (.slice (some ⟨g, 0, none⟩) at' cap) at' (xs.take (at' * 3)) := fun W hW => .inr ⟨_, _, rfl, by simp; omega, fun j u hj => by
          have hj' : j < at' * 3 := by have := (List.getElem?_eq_some_iff.1 hj).1; simp at this; omega
          refine cell_later hW ?_
          rw [addr_add, Nat.zero_add, hcell j (by omega), ← hj, List.getElem?_take_of_lt hj']⟩
        have hsrc3 : ∀ W, Below w.heap.size w W → SrcAt W 3 (.slice (some ⟨g, at' * 3, none⟩) (n - at') (cap - at')) (n - at') (xs.drop (at' * 3)) := fun W hW => .inr ⟨_, _, rfl, by simp; omega, fun j u hj => by
          have hj' : at' * 3 + j < n * 3 := by have := (List.getElem?_eq_some_iff.1 hj).1; simp at this; omega
          refine cell_later hW ?_
          rw [addr_add, hcell _ hj', ← hj, List.getElem?_drop]⟩
        have hsrc4 : ∀ W, SrcAt W 3 (.slice (some ⟨g, 0, none⟩) 0 0) 0 [] := fun W => .inr ⟨_, _, rfl, rfl, by simp⟩
        have h1t : ∀ u ∈ xs.take (at' * 3), u.oneCell' = true := fun u hu => h1 u (List.mem_of_mem_take hu)
        have h1d : ∀ u ∈ xs.drop (at' * 3), u.oneCell' = true := fun u hu => h1 u (List.mem_of_mem_drop hu)
        clear h1 hd hcell
        by_cases hce : cap = at'
        · have hna : Hid (n = at') := (by omega : n = at')
          have hce' := hce.symm
          subst hce'
          go_wp2
          go_quiet (fail)
          go_wp2_with (first
            | (at_builtin; refine wpList_append_src rfl (.tmp 24) (.tmp 27) 104 rfl w.heap.size 106 i0 _ 3 24 Tryz.underlying104 hi hz0 hz1 hz2 rfl (by decide) (.slice none 0 0) 0 [] rfl (World.ownsRow_nil _ _ _ _) _ at' (xs.take (at' * 3)) rfl (hsrc1 _ (hB2 _)) h1t (by unfold maxLen; omega) (by omega) (hB2 _).size ?_; intro v1 w1 hown1 hg1; have hB3 := (hB2 _).grown hg1 (hB2 _).size (fun k hk => by cases hk); have bx : w1.heap[w.heap.size]? = some (.cells #[.int .i64 e0, .int .i64 d0, .int .i64 a0] 106 (0, 0)) := (hg1.block _ (by simp) (by simp [Value.ownBlock])).trans (heap_alloc_new w _); have bx0 := blk_cell' bx (o := 0) rfl; have bx1 := blk_cell' bx (o := 1) rfl; have bx2 := blk_cell' bx (o := 2) rfl)
            | (at_builtin; refine wpList_append_src rfl (.tmp 29) (.tmp 31) 104 rfl w.heap.size 106 i0 _ 3 24 Tryz.underlying104 hi hz0 hz1 hz2 rfl (by decide) v1 _ _ rfl (hown1.alloc _) _ 1 [.int .i64 e0, .int .i64 d0, .int .i64 a0] rfl (src_new3 _ _ _ _ _) one3 (by unfold maxLen; omega) (by omega) (by have := hB3.size; simp; omega) ?_; intro v2 w2 hown2 hg2; have hB4 := (hB3.alloc hB3.size _).grown hg2 (by have := hB3.size; simp; omega) (fun k hk => (hown1.lt k hk).1))
            | (at_builtin; refine wpList_append_src rfl (.tmp 33) (.tmp 36) 104 rfl w.heap.size 106 i0 _ 3 24 Tryz.underlying104 hi hz0 hz1 hz2 rfl (by decide) v2 _ _ rfl hown2 _ 0 [] rfl (hsrc4 _) (by simp) (by unfold maxLen; omega) (by omega) hB4.size ?_; intro v3 w3 hown3 hg3; have hB5 := hB4.grown hg3 hB4.size (fun k hk => (hown2.lt k hk).1)))
          go_ret
          refine ⟨at', v3, hat, HG.out, fun _ => by omega, rfl, ?_, hB5⟩
          have hna2 := hna.out
          rw [show 0 + at' + 1 + 0 = n + 1 by omega] at hown3
          rw [List.drop_of_length_le (by omega)]
          simpa using hown3
        · go_wp2
          go_quiet (fail)
          go_wp2_with (first
            | (at_builtin; refine wpList_append_src rfl (.tmp 24) (.tmp 27) 104 rfl w.heap.size 106 i0 _ 3 24 Tryz.underlying104 hi hz0 hz1 hz2 rfl (by decide) (.slice none 0 0) 0 [] rfl (World.ownsRow_nil _ _ _ _) _ at' (xs.take (at' * 3)) rfl (hsrc1 _ (hB2 _)) h1t (by unfold maxLen; omega) (by omega) (hB2 _).size ?_; intro v1 w1 hown1 hg1; have hB3 := (hB2 _).grown hg1 (hB2 _).size (fun k hk => by cases hk); have bx : w1.heap[w.heap.size]? = some (.cells #[.int .i64 e0, .int .i64 d0, .int .i64 a0] 106 (0, 0)) := (hg1.block _ (by simp) (by simp [Value.ownBlock])).trans (heap_alloc_new w _); have bx0 := blk_cell' bx (o := 0) rfl; have bx1 := blk_cell' bx (o := 1) rfl; have bx2 := blk_cell' bx (o := 2) rfl)
            | (at_builtin; refine wpList_append_src rfl (.tmp 29) (.tmp 31) 104 rfl w.heap.size 106 i0 _ 3 24 Tryz.underlying104 hi hz0 hz1 hz2 rfl (by decide) v1 _ _ rfl (hown1.alloc _) _ 1 [.int .i64 e0, .int .i64 d0, .int .i64 a0] rfl (src_new3 _ _ _ _ _) one3 (by unfold maxLen; omega) (by omega) (by have := hB3.size; simp; omega) ?_; intro v2 w2 hown2 hg2; have hB4 := (hB3.alloc hB3.size _).grown hg2 (by have := hB3.size; simp; omega) (fun k hk => (hown1.lt k hk).1))
            | (at_builtin; refine wpList_append_src rfl (.tmp 33) (.tmp 36) 104 rfl w.heap.size 106 i0 _ 3 24 Tryz.underlying104 hi hz0 hz1 hz2 rfl (by decide) v2 _ _ rfl hown2 _ (n - at') (xs.drop (at' * 3)) rfl (hsrc3 _ hB4) h1d (by unfold maxLen; omega) (by omega) hB4.size ?_; intro v3 w3 hown3 hg3; have hB5 := hB4.grown hg3 hB4.size (fun k hk => (hown2.lt k hk).1)))
          go_ret
          refine ⟨at', v3, hat, HG.out, fun _ => by omega, rfl, ?_, hB5⟩
          rw [show 0 + at' + 1 + (n - at') = n + 1 by omega] at hown3
          simpa using hown3
    · have h0' : decide ((0 : Int) < (at' : Int)) = false := by simp; omega
      have hB2 : ∀ k, Below w.heap.size w ((w.alloc (.cells #[.int .i64 e0, .int .i64 d0, .int .i64 a0] 106)).drewN k) := fun k => hB1.trans ⟨rfl, rfl, rfl, Nat.le_refl _, fun _ _ => rfl⟩
      have hsrc1 : ∀ W, Below w.heap.size w W → SrcAt W 3 (.slice (some ⟨g, 0, none⟩) at' cap) at' (xs.take (at' * 3)) := fun W hW => .inr ⟨_, _, rfl, by simp; omega, fun j u hj => by
        have hj' : j < at' * 3 := by have := (List.getElem?_eq_some_iff.1 hj).1; simp at this; omega
        refine cell_later hW ?_
        rw [addr_add, Nat.zero_add, hcell j (by omega), ← hj, List.getElem?_take_of_lt hj']⟩
      have hsrc3 : ∀ W, Below w.heap.size w W → SrcAt W 3 (.slice (some ⟨g, at' * 3, none⟩) (n - at') (cap - at')) (n - at') (xs.drop (at' * 3)) := fun W hW => .inr ⟨_, _, rfl, by simp; omega, fun j u hj => by
        have hj' : at' * 3 + j < n * 3 := by have := (List.getElem?_eq_some_iff.1 hj).1; simp at this; omega
        refine cell_later hW ?_
        rw [addr_add, hcell _ hj', ← hj, List.getElem?_drop]⟩
      have hsrc4 : ∀ W, SrcAt W 3 (.slice (some ⟨g, 0, none⟩) 0 0) 0 [] := fun W => .inr ⟨_, _, rfl, rfl, by simp⟩
      have h1t : ∀ u ∈ xs.take (at' * 3), u.oneCell' = true := fun u hu => h1 u (List.mem_of_mem_take hu)
      have h1d : ∀ u ∈ xs.drop (at' * 3), u.oneCell' = true := fun u hu => h1 u (List.mem_of_mem_drop hu)
      clear h1 hd hcell
      by_cases hce : cap = at'
      · have hna : Hid (n = at') := (by omega : n = at')
        have hce' := hce.symm
        subst hce'
        go_wp2
        go_quiet (fail)
        go_wp2_with (first
          | (at_builtin; refine wpList_append_src rfl (.tmp 24) (.tmp 27) 104 rfl w.heap.size 106 i0 _ 3 24 Tryz.underlying104 hi hz0 hz1 hz2 rfl (by decide) (.slice none 0 0) 0 [] rfl (World.ownsRow_nil _ _ _ _) _ at' (xs.take (at' * 3)) rfl (hsrc1 _ (hB2 _)) h1t (by unfold maxLen; omega) (by omega) (hB2 _).size ?_; intro v1 w1 hown1 hg1; have hB3 := (hB2 _).grown hg1 (hB2 _).size (fun k hk => by cases hk); have bx : w1.heap[w.heap.size]? = some (.cells #[.int .i64 e0, .int .i64 d0, .int .i64 a0] 106 (0, 0)) := (hg1.block _ (by simp) (by simp [Value.ownBlock])).trans (heap_alloc_new w _); have bx0 := blk_cell' bx (o := 0) rfl; have bx1 := blk_cell' bx (o := 1) rfl; have bx2 := blk_cell' bx (o := 2) rfl)
          | (at_builtin; refine wpList_append_src rfl (.tmp 29) (.tmp 31) 104 rfl w.heap.size 106 i0 _ 3 24 Tryz.underlying104 hi hz0 hz1 hz2 rfl (by decide) v1 _ _ rfl (hown1.alloc _) _ 1 [.int .i64 e0, .int .i64 d0, .int .i64 a0] rfl (src_new3 _ _ _ _ _) one3 (by unfold maxLen; omega) (by omega) (by have := hB3.size; simp; omega) ?_; intro v2 w2 hown2 hg2; have hB4 := (hB3.alloc hB3.size _).grown hg2 (by have := hB3.size; simp; omega) (fun k hk => (hown1.lt k hk).1))
          | (at_builtin; refine wpList_append_src rfl (.tmp 33) (.tmp 36) 104 rfl w.heap.size 106 i0 _ 3 24 Tryz.underlying104 hi hz0 hz1 hz2 rfl (by decide) v2 _ _ rfl hown2 _ 0 [] rfl (hsrc4 _) (by simp) (by unfold maxLen; omega) (by omega) hB4.size ?_; intro v3 w3 hown3 hg3; have hB5 := hB4.grown hg3 hB4.size (fun k hk => (hown2.lt k hk).1)))
        go_ret
        refine ⟨at', v3, hat, HG.out, fun h => by omega, rfl, ?_, hB5⟩
        have hna2 := hna.out
        rw [show 0 + at' + 1 + 0 = n + 1 by omega] at hown3
        rw [List.drop_of_length_le (by omega)]
        simpa using hown3
      · go_wp2
        go_quiet (fail)
        go_wp2_with (first
          | (at_builtin; refine wpList_append_src rfl (.tmp 24) (.tmp 27) 104 rfl w.heap.size 106 i0 _ 3 24 Tryz.underlying104 hi hz0 hz1 hz2 rfl (by decide) (.slice none 0 0) 0 [] rfl (World.ownsRow_nil _ _ _ _) _ at' (xs.take (at' * 3)) rfl (hsrc1 _ (hB2 _)) h1t (by unfold maxLen; omega) (by omega) (hB2 _).size ?_; intro v1 w1 hown1 hg1; have hB3 := (hB2 _).grown hg1 (hB2 _).size (fun k hk => by cases hk); have bx : w1.heap[w.heap.size]? = some (.cells #[.int .i64 e0, .int .i64 d0, .int .i64 a0] 106 (0, 0)) := (hg1.block _ (by simp) (by simp [Value.ownBlock])).trans (heap_alloc_new w _); have bx0 := blk_cell' bx (o := 0) rfl; have bx1 := blk_cell' bx (o := 1) rfl; have bx2 := blk_cell' bx (o := 2) rfl)
          | (at_builtin; refine wpList_append_src rfl (.tmp 29) (.tmp 31) 104 rfl w.heap.size 106 i0 _ 3 24 Tryz.underlying104 hi hz0 hz1 hz2 rfl (by decide) v1 _ _ rfl (hown1.alloc _) _ 1 [.int .i64 e0, .int .i64 d0, .int .i64 a0] rfl (src_new3 _ _ _ _ _) one3 (by unfold maxLen; omega) (by omega) (by have := hB3.size; simp; omega) ?_; intro v2 w2 hown2 hg2; have hB4 := (hB3.alloc hB3.size _).grown hg2 (by have := hB3.size; simp; omega) (fun k hk => (hown1.lt k hk).1))
          | (at_builtin; refine wpList_append_src rfl (.tmp 33) (.tmp 36) 104 rfl w.heap.size 106 i0 _ 3 24 Tryz.underlying104 hi hz0 hz1 hz2 rfl (by decide) v2 _ _ rfl hown2 _ (n - at') (xs.drop (at' * 3)) rfl (hsrc3 _ hB4) h1d (by unfold maxLen; omega) (by omega) hB4.size ?_; intro v3 w3 hown3 hg3; have hB5 := hB4.grown hg3 hB4.size (fun k hk => (hown2.lt k hk).1)))
        go_ret
        refine ⟨at', v3, hat, HG.out, fun h => by omega, rfl, ?_, hB5⟩
        rw [show 0 + at' + 1 + (n - at') = n + 1 by omega] at hown3
        simpa using hown3

set_option maxRecDepth 100000 in
set_option maxHeartbeats 1000000 in
theorem placed_none (e0 d0 a0 : Int) (w : World) :
    Calls Tryz.prog 128 #[.slice none 0 0, .agg #[.int .i64 e0, .int .i64 d0, .int .i64 a0]] w fun r w' => ∃ v',
      r = .returned v' ∧ w'.ownsRow w.heap.size 106 3 v' 1 [.int .i64 e0, .int .i64 d0, .int .i64 a0] ∧ Below w.heap.size w w' := by
  obtain ⟨i0, hi, hz0, hz1, hz2⟩ := info_parts Tryz.infoItem
  have hB1 : Below w.heap.size w (w.alloc (.cells #[.int .i64 e0, .int .i64 d0, .int .i64 a0] 106)) := (Below.refl _ _).alloc (Nat.le_refl _) _
  have hB2 : ∀ k, Below w.heap.size w ((w.alloc (.cells #[.int .i64 e0, .int .i64 d0, .int .i64 a0] 106)).drewN k) := fun k => hB1.trans ⟨rfl, rfl, rfl, Nat.le_refl _, fun _ _ => rfl⟩
  have bx : ∀ k, ((w.alloc (.cells #[.int .i64 e0, .int .i64 d0, .int .i64 a0] 106)).drewN k).heap[w.heap.size]? = some (.cells #[.int .i64 e0, .int .i64 d0, .int .i64 a0] 106 (0, 0)) := fun k => heap_alloc_new w _
  go_enter Tryz.func128, Tryz.ntmps128
  go_wp2
  refine wp_loop_rounds 2 ?_; rw [rounds_succ]; go_wp2
  go_quiet (fail)
  have bx0 := blk_cell' (bx nq) (o := 0) rfl
  have bx1 := blk_cell' (bx nq) (o := 1) rfl
  have bx2 := blk_cell' (bx nq) (o := 2) rfl
  go_wp2_with (first
    | (at_builtin; refine wpList_append_src rfl (.tmp 24) (.tmp 27) 104 rfl w.heap.size 106 i0 _ 3 24 Tryz.underlying104 hi hz0 hz1 hz2 rfl (by decide) (.slice none 0 0) 0 [] rfl (World.ownsRow_nil _ _ _ _) _ 0 [] rfl (.inl ⟨rfl, rfl, rfl⟩) (by simp) (by unfold maxLen; omega) (by omega) (hB2 _).size ?_; intro v1 w1 hown1 hg1; have hB3 := (hB2 _).grown hg1 (hB2 _).size (fun k hk => by cases hk); have by' : w1.heap[w.heap.size]? = some (.cells #[.int .i64 e0, .int .i64 d0, .int .i64 a0] 106 (0, 0)) := (hg1.block _ (by simp) (by simp [Value.ownBlock])).trans (bx nq); have by0 := blk_cell' by' (o := 0) rfl; have by1 := blk_cell' by' (o := 1) rfl; have by2 := blk_cell' by' (o := 2) rfl)
    | (at_builtin; refine wpList_append_src rfl (.tmp 29) (.tmp 31) 104 rfl w.heap.size 106 i0 _ 3 24 Tryz.underlying104 hi hz0 hz1 hz2 rfl (by decide) v1 _ _ rfl (hown1.alloc _) _ 1 [.int .i64 e0, .int .i64 d0, .int .i64 a0] rfl (src_new3 _ _ _ _ _) one3 (by unfold maxLen; omega) (by omega) (by have := hB3.size; simp; omega) ?_; intro v2 w2 hown2 hg2; have hB4 := (hB3.alloc hB3.size _).grown hg2 (by have := hB3.size; simp; omega) (fun k hk => (hown1.lt k hk).1))
    | (at_builtin; refine wpList_append_src rfl (.tmp 33) (.tmp 36) 104 rfl w.heap.size 106 i0 _ 3 24 Tryz.underlying104 hi hz0 hz1 hz2 rfl (by decide) v2 _ _ rfl hown2 _ 0 [] rfl (.inl ⟨rfl, rfl, rfl⟩) (by simp) (by unfold maxLen; omega) (by omega) hB4.size ?_; intro v3 w3 hown3 hg3; have hB5 := hB4.grown hg3 hB4.size (fun k hk => (hown2.lt k hk).1)))
  go_ret
  exact ⟨v3, rfl, by simpa using hown3, hB5⟩

/-- An item more, in its place. -/
theorem placed_any (v : Value) (n : Nat) (xs : List Value) (d : Nat → Int) (e0 d0 a0 : Int) (w : World) (hown : w.ownsRow 0 106 3 v n xs) (hd : ∀ j, j < n → xs[j * 3 + 1]? = some (.int .i64 (d j)))
    (h1 : ∀ u ∈ xs, u.oneCell' = true) (hn : n ≤ 1000) :
    Calls Tryz.prog 128 #[v, .agg #[.int .i64 e0, .int .i64 d0, .int .i64 a0]] w fun r w' => ∃ at' v', at' ≤ n ∧ (∀ j, at' ≤ j → j < n → d0 < d j) ∧ (0 < at' → d (at' - 1) ≤ d0) ∧
      r = .returned v' ∧ w'.ownsRow w.heap.size 106 3 v' (n + 1) (xs.take (at' * 3) ++ [.int .i64 e0, .int .i64 d0, .int .i64 a0] ++ xs.drop (at' * 3)) ∧ Below w.heap.size w w' := by
  rcases hown.2 with ⟨rfl, rfl⟩ | ⟨g, cap, cur, rfl, _, _, hc1, hc2, _⟩
  · have hx : xs = [] := List.length_eq_zero_iff.1 (by simpa using hown.1)
    subst hx
    refine (placed_none e0 d0 a0 w).mono ?_
    rintro r w' ⟨v', h1, h2, h3⟩
    exact ⟨0, v', Nat.le_refl _, fun j _ h => by omega, fun h => by omega, h1, by simpa using h2, h3⟩
  · exact placed_some g n cap xs d e0 d0 a0 w hown hd h1 hn hc1 hc2
end Go.Proofs.YtjnmoddcodnadaaGreatDoor
namespace Go.Annal
/-- Is a number one of entries that are there? -/
def knownB (n : Int) (ne : Nat) : Bool := decide (0 ≤ n) && decide (n ≤ ne)
/-- The answer, if there is no error. -/
def okOr (e z : Int) : Int := if e = 0 then z else 0
def viewE (days known : Bool) : Int := if !days then 5 else if !known then 13 else 0
def askErr (there day known : Bool) : Int := if !there then 7 else if !day then 5 else if !known then 13 else 0
end Go.Annal
namespace Go.Proofs.YtjnmoddcodnadaaGreatDoor
open Go.RowKit Go.Annal
theorem ret_ie {a b c d : Int} (h : a = c) (h' : b = d) : Ending.returned (.tuple #[.int .i64 a, .int .i64 b]) = .returned (.tuple #[.int .i64 c, .int .i64 d]) := by rw [h, h']
/-- What is read of a document's book's accounts. -/
structure AccsAt (w : World) (R ga ca na : Nat) (ada : Option Addr) (fn : Nat → ByteArray) : Prop where
  cA : w.cell? ⟨R, 0, none⟩ = some (.slice ada na ca)
  hA : 0 < na → ada = some ⟨ga, 0, none⟩
  cn : ∀ i, i < na → w.cell? ⟨ga, i * 2, none⟩ = some (.string (fn i))
  few : na ≤ 1000
theorem AccsAt.at {w : World} {R ga ca na : Nat} {ada : Option Addr} {fn : Nat → ByteArray} (h : AccsAt w R ga ca na ada fn) (x : ByteArray) :
    Calls Tryz.prog 77 #[.pointer (some ⟨R, 0, none⟩), .string x] w fun r w' => r = .returned (.int .i64 (atI fn na x)) ∧ w' = w :=
  at_any R ga na ca ada fn x w h.few h.cA h.hA h.cn
theorem isKnown_b (R ne cap : Nat) (ad : Option Addr) (n : Int) (w : World) (hR : w.cell? ⟨R, 1, none⟩ = some (.slice ad ne cap)) :
    Calls Tryz.prog 125 #[.pointer (some ⟨R, 0, none⟩), .int .i64 n] w fun r w' => r = .returned (.bool (knownB n ne)) ∧ w' = w := isKnown_any R ne cap ad n w hR

set_option maxRecDepth 100000 in
set_option maxHeartbeats 1000000 in
theorem BalanceR_any (R ga ca na ge ce ne : Nat) (ada ade : Option Addr) (fn : Nat → ByteArray) (dy : Nat → Int) (gl ln cl : Nat → Nat) (la : Nat → Nat → ByteArray) (lm : Nat → Nat → Int) (name : ByteArray) (day known : Int) (w : World)
    (hA : AccsAt w R ga ca na ada fn) (hE : EntsAt w R ge ce ne ade dy gl ln cl la lm) :
    Calls Tryz.prog 84 #[.pointer (some ⟨R, 0, none⟩), .string name, .int .i64 day, .int .i64 known] w fun r w' =>
      r = .returned (.tuple #[.int .i64 (okOr (askErr (decide (0 ≤ atI fn na name)) (dayB day) (knownB known ne)) (enS dy la lm name day ln known.toNat)), .int .i64 (askErr (decide (0 ≤ atI fn na name)) (dayB day) (knownB known ne))]) ∧ w' = w := by
  have C1 : Hid _ := hA.at name
  have C2 : Hid _ := isDayR_any day w
  have C3 : Hid _ := isKnown_b R ne ce ade known w hE.cE
  by_cases h1 : atI fn na name < 0
  · have e : Hid (askErr (decide (0 ≤ atI fn na name)) (dayB day) (knownB known ne) = 7) := by show askErr _ _ _ = _; rw [show decide (0 ≤ atI fn na name) = false by simp; omega]; rfl
    clear hA hE
    generalize askErr (decide (0 ≤ atI fn na name)) (dayB day) (knownB known ne) = E at e ⊢
    generalize atI fn na name = t at *
    generalize dayB day = u at *
    generalize knownB known ne = x at *
    go_enter Tryz.func84, Tryz.ntmps84
    go_wp2_with (first | (go_at_call 77; refine Calls.mono C1.out ?_; rintro e w' ⟨rfl, rfl⟩) | (go_at_call 82; refine Calls.mono C2.out ?_; rintro e w' ⟨rfl, rfl⟩) | (go_at_call 125; refine Calls.mono C3.out ?_; rintro e w' ⟨rfl, rfl⟩))
    go_ret2
    exact ⟨ret_ie (by rw [e.out]; rfl) e.out.symm, rfl⟩
  · have h1' : decide (0 ≤ atI fn na name) = true := by simp; omega
    rw [h1']
    cases h2 : dayB day
    · rw [h2] at C2
      clear hA hE h1'
      generalize atI fn na name = t at *
      generalize knownB known ne = x at *
      go_enter Tryz.func84, Tryz.ntmps84
      go_wp2_with (first | (go_at_call 77; refine Calls.mono C1.out ?_; rintro e w' ⟨rfl, rfl⟩) | (go_at_call 82; refine Calls.mono C2.out ?_; rintro e w' ⟨rfl, rfl⟩) | (go_at_call 125; refine Calls.mono C3.out ?_; rintro e w' ⟨rfl, rfl⟩))
      go_ret2
      exact ⟨ret_ie (by rfl) (by rfl), rfl⟩
    · rw [h2] at C2
      cases h3 : knownB known ne
      · rw [h3] at C3
        clear hA hE h1'
        generalize atI fn na name = t at *
        go_enter Tryz.func84, Tryz.ntmps84
        go_wp2_with (first | (go_at_call 77; refine Calls.mono C1.out ?_; rintro e w' ⟨rfl, rfl⟩) | (go_at_call 82; refine Calls.mono C2.out ?_; rintro e w' ⟨rfl, rfl⟩) | (go_at_call 125; refine Calls.mono C3.out ?_; rintro e w' ⟨rfl, rfl⟩))
        go_ret2
        exact ⟨ret_ie (by rfl) (by rfl), rfl⟩
      · rw [h3] at C3
        have hk : 0 ≤ known ∧ known ≤ ne := by simpa [knownB] using h3
        have C4 : Hid (Calls Tryz.prog 83 #[.pointer (some ⟨R, 0, none⟩), .string name, .int .i64 day, .int .i64 known] w fun r w' => r = .returned (.int .i64 (enS dy la lm name day ln known.toNat)) ∧ w' = w) := by
          have := balanceR_any R ge ce ne ade dy gl ln cl la lm name day known.toNat w hE (by omega)
          rwa [Int.toNat_of_nonneg hk.1] at this
        clear hA hE h1'
        generalize atI fn na name = t at *
        generalize enS dy la lm name day ln known.toNat = z at *
        go_enter Tryz.func84, Tryz.ntmps84
        go_wp2_with (first | (go_at_call 77; refine Calls.mono C1.out ?_; rintro e w' ⟨rfl, rfl⟩) | (go_at_call 82; refine Calls.mono C2.out ?_; rintro e w' ⟨rfl, rfl⟩) | (go_at_call 125; refine Calls.mono C3.out ?_; rintro e w' ⟨rfl, rfl⟩) | (go_at_call 83; refine Calls.mono C4.out ?_; rintro e w' ⟨rfl, rfl⟩))
        go_ret2
        exact ⟨ret_ie (by rfl) (by rfl), rfl⟩
end Go.Proofs.YtjnmoddcodnadaaGreatDoor
namespace Go.Annal
/-- An item: the entry's number, the day, the amount. -/
abbrev It := Int × Int × Int
def enc3 (x : It) : List Value := [.int .i64 x.1, .int .i64 x.2.1, .int .i64 x.2.2]
def cells3 (l : List It) : List Value := l.flatMap enc3
theorem cells3_len (l : List It) : (cells3 l).length = l.length * 3 := by
  induction l with
  | nil => rfl
  | cons x r ih => simp only [cells3, List.flatMap_cons, List.length_append, List.length_cons] at *; rw [ih]; simp [enc3]; omega
theorem cells3_append (a b : List It) : cells3 (a ++ b) = cells3 a ++ cells3 b := by simp [cells3]
theorem cells3_one (l : List It) : ∀ u ∈ cells3 l, u.oneCell' = true := by
  intro u hu
  simp only [cells3, List.mem_flatMap, enc3] at hu
  obtain ⟨x, _, hx⟩ := hu
  simp at hx
  rcases hx with rfl | rfl | rfl <;> rfl
theorem cells3_take (l : List It) (k : Nat) : (cells3 l).take (k * 3) = cells3 (l.take k) := by
  induction l generalizing k with
  | nil => simp [cells3]
  | cons x r ih =>
    cases k with
    | zero => simp [cells3]
    | succ k =>
      have := ih k
      simp only [cells3, List.flatMap_cons, List.take_succ_cons] at *
      rw [show (k + 1) * 3 = (enc3 x).length + k * 3 by simp [enc3]; omega, List.take_append, List.take_of_length_le (by omega), Nat.add_sub_cancel_left, this]
theorem cells3_drop (l : List It) (k : Nat) : (cells3 l).drop (k * 3) = cells3 (l.drop k) := by
  induction l generalizing k with
  | nil => simp [cells3]
  | cons x r ih =>
    cases k with
    | zero => simp [cells3]
    | succ k =>
      have := ih k
      simp only [cells3, List.flatMap_cons, List.drop_succ_cons] at *
      rw [show (k + 1) * 3 = (enc3 x).length + k * 3 by simp [enc3]; omega, List.drop_append, List.drop_of_length_le (by omega), Nat.add_sub_cancel_left, this, List.nil_append]
theorem cells3_get (l : List It) (j : Nat) (h : j < l.length) (o : Nat) (ho : o < 3) : (cells3 l)[j * 3 + o]? = (enc3 l[j])[o]? := by
  have h1 : (cells3 l)[j * 3 + o]? = ((cells3 l).drop (j * 3))[o]? := by rw [List.getElem?_drop]
  rw [h1, cells3_drop, List.drop_eq_getElem_cons h]
  simp only [cells3, List.flatMap_cons]
  rw [List.getElem?_append_left (by simp [enc3]; omega)]
/-- An item more, behind those of its day and of days before. -/
def ins (l : List It) (x : It) : List It :=
  (l.reverse.dropWhile (fun y => decide (x.2.1 < y.2.1))).reverse ++ x :: (l.reverse.takeWhile (fun y => decide (x.2.1 < y.2.1))).reverse
theorem ins_eq (l : List It) (x : It) (k : Nat) (hk : k ≤ l.length) (h1 : ∀ y ∈ l.drop k, x.2.1 < y.2.1) (h2 : ∀ (h : 0 < k), (l[k - 1]'(by omega)).2.1 ≤ x.2.1) : ins l x = l.take k ++ x :: l.drop k := by
  have hr : l.reverse = (l.drop k).reverse ++ (l.take k).reverse := by rw [← List.reverse_append, List.take_append_drop]
  have ht : (l.take k).reverse.takeWhile (fun y => decide (x.2.1 < y.2.1)) = [] ∧ (l.take k).reverse.dropWhile (fun y => decide (x.2.1 < y.2.1)) = (l.take k).reverse := by
    cases k with
    | zero => simp
    | succ k =>
      have hlt : k < l.length := by omega
      have h3 := h2 (by omega)
      simp only [Nat.add_sub_cancel] at h3
      rw [List.take_succ_eq_append_getElem hlt, List.reverse_append]
      simp only [List.reverse_cons, List.reverse_nil, List.nil_append, List.singleton_append]
      constructor
      · rw [List.takeWhile_cons_of_neg (by simpa using h3)]
      · rw [List.dropWhile_cons_of_neg (by simpa using h3)]
  have hall : ∀ y ∈ (l.drop k).reverse, decide (x.2.1 < y.2.1) = true := fun y hy => decide_eq_true (h1 y (List.mem_reverse.1 hy))
  unfold ins
  rw [hr, List.dropWhile_append_of_pos hall, List.takeWhile_append_of_pos hall, ht.1, ht.2]
  simp
end Go.Annal
