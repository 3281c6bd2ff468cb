import Derived.Test.YtjnmoddcodnadaaGreatDoorG01
import Derived.RegionTactic
import Derived.BigRegion
import Derived.Deep.RegionHeld3
import Derived.Test.YtjnmoddcodnadaaGreatDoorG00
import Derived.RangeFuncNested
import Derived.RangeFuncBound
import Derived.RangeFuncCalls
import Derived.RangeFuncLeaves
import Derived.RangeFuncBox
import Derived.Shelf.Abstract
import Derived.Shelf.RegionOpen
import Derived.OwnWalkIn
import Derived.TacticsInMore
import Derived.LoopNIn
import Derived.LoopIn
set_option linter.unusedVariables false
set_option linter.unusedSimpArgs false
namespace Go.Proofs.YtjnmoddcodnadaaGreatDoor
open Go.RowKit Go.Annal
def orI (x y : Int) : Int := if x = 0 then y else x
set_option maxHeartbeats 400000 in
theorem or_two (x y : Int) (w : World) (b cap : Nat) (h0 : w.cell? ⟨b, 0, none⟩ = some (.int .i64 x)) (h1 : w.cell? ⟨b, 1, none⟩ = some (.int .i64 y)) :
    Calls Tryz.prog 164 #[.slice (some ⟨b, 0, none⟩) 2 cap] w fun r w' => r = .returned (.int .i64 (orI x y)) ∧ w' = w := by
  have fin : Hid (x ≠ 0 → orI x y = x) := fun h => by simp [orI, h]
  have fin2 : Hid (x = 0 → orI x y = y) := fun h => by simp [orI, h]
  by_cases hx : x = 0
  · by_cases hy : y = 0
    · go_enter Tryz.func164, Tryz.ntmps164
      go_wp2
      refine wp_loop_rounds 3 ?_; rw [rounds_succ]; go_wp2
      rw [rounds_succ]; go_wp2
      rw [rounds_succ]; go_wp2
      go_ret
      exact ⟨ret_int (by rw [fin2.out hx, hy]), rfl⟩
    · have hy' : (y == 0) = false := by simp [hy]
      go_enter Tryz.func164, Tryz.ntmps164
      go_wp2
      refine wp_loop_rounds 3 ?_; rw [rounds_succ]; go_wp2
      rw [rounds_succ]; go_wp2
      go_ret
      exact ⟨ret_int (fin2.out hx).symm, rfl⟩
  · have hx' : (x == 0) = false := by simp [hx]
    go_enter Tryz.func164, Tryz.ntmps164
    go_wp2
    refine wp_loop_rounds 3 ?_; rw [rounds_succ]; go_wp2
    go_ret
    exact ⟨ret_int (fin.out hx).symm, rfl⟩

set_option maxHeartbeats 400000 in
theorem order_any (e1 d1 a1 e2 d2 a2 : Int) (w : World) :
    Calls Tryz.prog 141 #[.agg #[.int .i64 e1, .int .i64 d1, .int .i64 a1], .agg #[.int .i64 e2, .int .i64 d2, .int .i64 a2]] w fun r w' => r = .returned (.int .i64 (orI (cmpI d1 d2) (cmpI e1 e2))) ∧ Grew w w' := by
  go_enter Tryz.func141, Tryz.ntmps141
  go_wp2
  go_region_held3 (fun w' => w'.cell? ⟨w.heap.size, 1, none⟩ = some (.int .i64 d1) ∧ w'.cell? ⟨w.heap.size, 0, none⟩ = some (.int .i64 e1) ∧ w'.cell? ⟨w.heap.size + 1, 1, none⟩ = some (.int .i64 d2) ∧ w'.cell? ⟨w.heap.size + 1, 0, none⟩ = some (.int .i64 e2)) (go_keep)
    (first | (go_at_call 165; refine (cmpInt_any _ _ _).mono ?_; rintro e w' ⟨rfl, rfl⟩) | (go_at_call 164; refine (or_two (cmpI d1 d2) (cmpI e1 e2) _ _ _ (by go_simp) (by go_simp)).mono ?_; rintro e w' ⟨rfl, rfl⟩))
  all_goals go_wp2
  all_goals go_ret
  all_goals exact ⟨rfl, by repeat first | exact Grew.refl _ | refine Grew.drew ?_ | refine Grew.alloc ?_ _⟩

set_option maxHeartbeats 400000 in
theorem orderRow_any (e1 d1 a1 s1 e2 d2 a2 s2 : Int) (w : World) :
    Calls Tryz.prog 140 #[.agg #[.int .i64 e1, .int .i64 d1, .int .i64 a1, .int .i64 s1], .agg #[.int .i64 e2, .int .i64 d2, .int .i64 a2, .int .i64 s2]] w fun r w' => r = .returned (.int .i64 (orI (cmpI d1 d2) (cmpI e1 e2))) ∧ Grew w w' := by
  go_enter Tryz.func140, Tryz.ntmps140
  go_wp2_with (go_at_call 141; refine (order_any _ _ _ _ _ _ _).mono ?_; rintro e w' ⟨rfl, hg⟩)
  go_ret
  exact ⟨rfl, Grew.trans (by repeat first | exact Grew.refl _ | refine Grew.drew ?_ | refine Grew.alloc ?_ _) hg⟩
end Go.Proofs.YtjnmoddcodnadaaGreatDoor
namespace Go.Proofs.YtjnmoddcodnadaaGreatDoor
open Go.RowKit Go.Annal Go.Sort
set_option maxHeartbeats 400000 in
theorem before1_any (i B B' g len cap : Nat) (day x : Int) (w : World) (hb : w.cell? ⟨B, 1, none⟩ = some (.slice (some ⟨g, 0, none⟩) len cap))
    (hd : w.cell? ⟨B', 0, none⟩ = some (.int .i64 day)) (hi : i < len) (hc : w.cell? ⟨g, i * 4 + 1, none⟩ = some (.int .i64 x)) :
    Calls Tryz.prog 150 #[.int .i64 i, .pointer (some ⟨B, 0, none⟩), .pointer (some ⟨B', 0, none⟩)] w fun r w' => r = .returned (.bool (decide (day ≤ x))) ∧ Grew w w' := by
  have hi' : (i : Int) < (len : Int) := by omega
  have hi0 : (0 : Int) ≤ (i : Int) := by omega
  go_enter Tryz.func150, Tryz.ntmps150
  go_wp2
  go_quiet (fail)
  go_wp2
  go_ret
  exact ⟨rfl, (Grew.refl _).drewN _⟩

set_option maxHeartbeats 400000 in
theorem count1_any (i B B' H ho g len cap : Nat) (known x : Int) (w : World) (hb : w.cell? ⟨B, 0, none⟩ = some (.pointer (some ⟨H, ho, none⟩))) (hh : w.cell? ⟨H, ho, none⟩ = some (.slice (some ⟨g, 0, none⟩) len cap))
    (hd : w.cell? ⟨B', 0, none⟩ = some (.int .i64 known)) (hi : i < len) (hc : w.cell? ⟨g, i * 2, none⟩ = some (.int .i64 x)) :
    Calls Tryz.prog 149 #[.int .i64 i, .pointer (some ⟨B, 0, none⟩), .pointer (some ⟨B', 0, none⟩)] w fun r w' => r = .returned (.bool (decide (known < x))) ∧ Grew w w' := by
  have hi' : (i : Int) < (len : Int) := by omega
  have hi0 : (0 : Int) ≤ (i : Int) := by omega
  go_enter Tryz.func149, Tryz.ntmps149
  go_wp2
  go_quiet (fail)
  go_wp2
  go_ret
  exact ⟨rfl, (Grew.refl _).drewN _⟩

theorem cell_at (w : World) (cs : Array Value) (t : TypeId) (o : Nat) (v : Value) (h : cs[o]? = some v) : (w.alloc (.cells cs t)).cell? ⟨w.heap.size, o, none⟩ = some v := by
  unfold World.cell?
  show (match (w.heap.push (.cells cs t))[w.heap.size]? with | some (.cells c _ _) => if (none : Option Nat).isSome then none else c[o]? | _ => none) = some v
  simp [h]
theorem cell_two (w : World) (cs cs' : Array Value) (t t' : TypeId) (o : Nat) (v : Value) (h : cs[o]? = some v) : ((w.alloc (.cells cs t)).alloc (.cells cs' t')).cell? ⟨w.heap.size, o, none⟩ = some v :=
  Grew.cell' ((Grew.refl _).alloc _) (cell_at w cs t o v h)
theorem cell_last (w : World) (o0 : Obj) (cs : Array Value) (t : TypeId) (o : Nat) (v : Value) (h : cs[o]? = some v) : ((w.alloc o0).alloc (.cells cs t)).cell? ⟨w.heap.size + 1, o, none⟩ = some v := by
  have := cell_at (w.alloc o0) cs t o v h
  rwa [World.size_alloc] at this

set_option maxHeartbeats 400000 in
theorem before_any (nw day : Int) (g cap : Nat) (n : Nat) (f : Nat → Int) (w : World) (hl : n ≤ 1000)
    (hc : ∀ i, i < n → w.cell? ⟨g, i * 4 + 1, none⟩ = some (.int .i64 (f i))) (hs : ∀ a b, a ≤ b → b < n → (f a) ≤ (f b)) :
    Calls Tryz.prog 114 #[.agg #[.int .i64 nw, .slice (some ⟨g, 0, none⟩) n cap], .int .i64 day] w fun r w' =>
      r = .returned (.int .i64 ((List.range n).countP (fun i => !decide (day ≤ (f i))) : Nat)) ∧ Grew w w' := by
  have hS := Any.sort_Search (P := Tryz.prog) Tryz.searchL 150 #[.pointer (some ⟨w.heap.size, 0, none⟩), .pointer (some ⟨w.heap.size + 1, 0, none⟩)] n (fun i => decide (day ≤ (f i)))
    ((w.alloc (.cells #[.int .i64 nw, .slice (some ⟨g, 0, none⟩) n cap] 193)).alloc (.cells #[.int .i64 day] 3)) (enters_of Tryz.func150 (by kernel_rfl) rfl) (by omega)
    (fun m os i hi => by
      have hg : Grew ((w.alloc (.cells #[.int .i64 nw, .slice (some ⟨g, 0, none⟩) n cap] 193)).alloc (.cells #[.int .i64 day] 3)) (grow ((((w.alloc (.cells #[.int .i64 nw, .slice (some ⟨g, 0, none⟩) n cap] 193)).alloc (.cells #[.int .i64 day] 3))).drewN m) os) := ⟨m, os, rfl⟩
      exact before1_any i w.heap.size (w.heap.size + 1) g n cap day (f i) _ (hg.cell' (cell_two _ _ _ _ _ _ _ rfl)) (hg.cell' (cell_last _ _ _ _ _ _ rfl)) hi
        (hg.cell' (Grew.cell' (((Grew.refl _).alloc _).alloc _) (hc i hi))))
    (fun a b hab hb h => by have := hs a b hab hb; exact decide_eq_true (by have := of_decide_eq_true h; omega))
  change Calls Tryz.prog 148 _ _ _ at hS
  clear hc hs
  go_enter Tryz.func114, Tryz.ntmps114
  go_wp2_with (go_at_call 148; refine hS.mono ?_; rintro e w' ⟨rfl, hw⟩)
  go_ret
  exact ⟨rfl, Grew.trans (((Grew.refl _).alloc _).alloc _) hw⟩

set_option maxHeartbeats 400000 in
theorem count_any (known : Int) (H ho g cap : Nat) (ad : Option Addr) (n : Nat) (f : Nat → Int) (w : World) (hl : n ≤ 1000) (hh : w.cell? ⟨H, ho, none⟩ = some (.slice ad n cap)) (ha : 0 < n → ad = some ⟨g, 0, none⟩)
    (hc : ∀ i, i < n → w.cell? ⟨g, i * 2, none⟩ = some (.int .i64 (f i))) (hs : ∀ a b, a ≤ b → b < n → (f a) ≤ (f b)) :
    Calls Tryz.prog 113 #[.pointer (some ⟨H, ho, none⟩), .int .i64 known] w fun r w' =>
      r = .returned (.int .i64 ((List.range n).countP (fun i => !decide (known < (f i))) : Nat)) ∧ Grew w w' := by
  have hS := Any.sort_Search (P := Tryz.prog) Tryz.searchL 149 #[.pointer (some ⟨w.heap.size, 0, none⟩), .pointer (some ⟨w.heap.size + 1, 0, none⟩)] n (fun i => decide (known < (f i)))
    ((w.alloc (.cells #[.pointer (some ⟨H, ho, none⟩)] 186)).alloc (.cells #[.int .i64 known] 3)) (enters_of Tryz.func149 (by kernel_rfl) rfl) (by omega)
    (fun m os i hi => by
      have hg : Grew ((w.alloc (.cells #[.pointer (some ⟨H, ho, none⟩)] 186)).alloc (.cells #[.int .i64 known] 3)) (grow (((w.alloc (.cells #[.pointer (some ⟨H, ho, none⟩)] 186)).alloc (.cells #[.int .i64 known] 3)).drewN m) os) := ⟨m, os, rfl⟩
      obtain rfl := ha (by omega)
      exact count1_any i w.heap.size (w.heap.size + 1) H ho g n cap known (f i) _ (hg.cell' (cell_two _ _ _ _ _ _ _ rfl)) (hg.cell' (Grew.cell' (((Grew.refl _).alloc _).alloc _) hh)) (hg.cell' (cell_last _ _ _ _ _ _ rfl)) hi
        (hg.cell' (Grew.cell' (((Grew.refl _).alloc _).alloc _) (hc i hi))))
    (fun a b hab hb h => by have := hs a b hab hb; exact decide_eq_true (by have := of_decide_eq_true h; omega))
  change Calls Tryz.prog 148 _ _ _ at hS
  clear hc hs
  have hh' := Grew.cell' (((Grew.refl w).alloc (.cells #[.pointer (some ⟨H, ho, none⟩)] 186)).alloc (.cells #[.int .i64 known] 3)) hh
  go_enter Tryz.func113, Tryz.ntmps113
  go_wp2_with (go_at_call 148; refine hS.mono ?_; rintro e w' ⟨rfl, hw⟩)
  go_ret
  exact ⟨rfl, Grew.trans (((Grew.refl _).alloc _).alloc _) hw⟩
end Go.Proofs.YtjnmoddcodnadaaGreatDoor
namespace Go.Annal
open Go.RowKit

/-- What a round keeps: all below n, and the cells of the named blocks. -/
def KeepB (n : Nat) (B : List Nat) (W W' : World) : Prop := Below n W W' ∧ ∀ p v, p.block ∈ B → W.cell? p = some v → W'.cell? p = some v
theorem KeepB.trans {n : Nat} {B : List Nat} {a b c : World} (h : KeepB n B a b) (k : KeepB n B b c) : KeepB n B a c :=
  ⟨h.1.trans k.1, fun p v hp hv => k.2 p v hp (h.2 p v hp hv)⟩
theorem KeepB.refl {n : Nat} {B : List Nat} (a : World) : KeepB n B a a := ⟨Below.refl _ _, fun _ _ _ h => h⟩
theorem KeepB.put {n : Nat} {B : List Nat} {w : World} (hn : n ≤ w.heap.size) (W : World) (l : Nat) (o o' : Obj) (hl : w.heap.size ≤ l) (ho : W.heap[l]? = some o) (hc : o.isCells = false) (hw : o.isWalk = false) : KeepB n B W (W.putObj l o') := by
  refine ⟨belowK_b (w := w) hn W l o o' hl ho hc hw, fun p v _ hv => ?_⟩
  refine cell_kept hv (grownBy_putObj' W l o') (fun r e => ?_)
  cases e
  exact ⟨_, ho, hc⟩
theorem KeepB.of_grew {n : Nat} {B : List Nat} {W W' : World} (hn : n ≤ W.heap.size) (h : Grew W W') : KeepB n B W W' :=
  ⟨h.below.mono hn, fun _ _ _ hv => h.cell' hv⟩

/-- The places of the blocks that hold the items behind the first lo ones, up to the k-th: from the newest on. -/
def chainF (low : Nat → Nat) (lo : Nat) : Nat → Nat → List Nat
  | 0, _ => []
  | f + 1, k => if lo < k then (k - 1) :: chainF low lo f (k - low k) else []
end Go.Annal

namespace Go.Proofs.YtjnmoddcodnadaaGreatDoor
open Go.RowKit Go.Annal Go.Sort Go.Shelf
attribute [local go_sem] Oper.semAt_some
theorem low_pos (k : Nat) : 1 ≤ low k := by unfold low; repeat' split <;> try omega
theorem low_le_aux : ∀ k : Fin 65, k.1 ≠ 0 → low k.1 ≤ k.1 := by decide +kernel
theorem low_le (k : Nat) (h : 1 ≤ k) (h' : k ≤ 64) : low k ≤ k := low_le_aux ⟨k, by omega⟩ (by simp; omega)
def chain (lo k : Nat) : List Nat := chainF low lo k k
theorem chainF_fuel (lo : Nat) : ∀ (f g k : Nat), k ≤ f → k ≤ g → chainF low lo f k = chainF low lo g k
  | 0, 0, _, _, _ => rfl
  | 0, g + 1, k, h, _ => by simp [chainF]; omega
  | f + 1, 0, k, _, h => by simp [chainF]; omega
  | f + 1, g + 1, k, h, h' => by
    simp only [chainF]
    split
    · rw [chainF_fuel lo f g (k - low k) (by have := low_pos k; omega) (by have := low_pos k; omega)]
    · rfl
theorem chain_step (lo k : Nat) (h : lo < k) : chain lo k = (k - 1) :: chain lo (k - low k) := by
  unfold chain
  obtain ⟨f, rfl⟩ : ∃ f, k = f + 1 := ⟨k - 1, by omega⟩
  rw [chainF, if_pos h, chainF_fuel lo f (f + 1 - low (f + 1)) (f + 1 - low (f + 1)) (by have := low_pos (f + 1); omega) (Nat.le_refl _)]
theorem chain_stop (lo k : Nat) (h : ¬ lo < k) : chain lo k = [] := by
  unfold chain
  cases k with
  | zero => rfl
  | succ f => rw [chainF, if_neg h]

/-- The cells of m blocks, each (newest, rows). -/
def encB (nw : Nat → Int) (gr ln cp : Nat → Nat) {m : Nat} (x : { k : Nat // k < m }) : Array Value := #[.agg #[.int .i64 (nw x.1), .slice (some ⟨gr x.1, 0, none⟩) (ln x.1) (cp x.1)]]

set_option maxRecDepth 100000 in
set_option maxHeartbeats 1000000 in
theorem span1_in (n : Nat) (hn : 3 ≤ n) (l Bh Bl Bp n₀ H ho g cap m hi lo : Nat) (ad : Option Addr) (nw : Nat → Int) (gr ln cp : Nat → Nat)
    (hm : m ≤ 64) (hhi : hi ≤ m) (hg : 0 < m → g < n₀) (hH : H < n₀)
    (J Jx : List { k : Nat // k < m } → World → Prop)
    (hY : ∀ pre x W, J pre W → pre.length < m → YieldAt Fence.wide (n - 1) Tryz.prog l (encB nw gr ln cp x) W fun e W' =>
      (e = .returned (.bool true) ∧ J (pre ++ [x]) W' ∧ KeepB n₀ [Bl, Bp] W W') ∨ (e = .returned (.bool false) ∧ Jx (pre ++ [x]) W'))
    (W : World) (cBh : W.cell? ⟨Bh, 0, none⟩ = some (.int .i64 hi)) (cBl : W.cell? ⟨Bl, 0, none⟩ = some (.int .i64 lo)) (cBp : W.cell? ⟨Bp, 0, none⟩ = some (.pointer (some ⟨H, ho, none⟩)))
    (cH : W.cell? ⟨H, ho, none⟩ = some (.slice ad m cap)) (ha : 0 < m → ad = some ⟨g, 0, none⟩)
    (cn : ∀ i, i < m → W.cell? ⟨g, i * 2, none⟩ = some (.int .i64 (nw i))) (cr : ∀ i, i < m → W.cell? ⟨g, i * 2 + 1, none⟩ = some (.slice (some ⟨gr i, 0, none⟩) (ln i) (cp i))) (h0 : J [] W) :
    CallsIn Fence.wide n Tryz.prog 147 #[.func (.yield l) #[] #[], .pointer (some ⟨Bh, 0, none⟩), .pointer (some ⟨Bl, 0, none⟩), .pointer (some ⟨Bp, 0, none⟩)] W fun e W' => (∃ v, e = .returned v) ∧
      ((∃ ys : List { k : Nat // k < m }, ys.map (·.1) = chain lo hi ∧ J ys W') ∨ (∃ pre : List { k : Nat // k < m }, True ∧ Jx pre W')) := by
  refine callsIn_of_wp Tryz.func147 rfl trivial ?_ rfl
  simp only [Tryz.ntmps147, List.size_toArray, List.length_cons, List.length_nil, Nat.reduceAdd, Nat.reduceSub, Array.replicate_succ, Array.replicate_zero, List.push_toArray, List.append_toArray, List.nil_append, List.cons_append]
  gi_wp2
  gi_loopw [5] (fun kv wr => ∃ (k : Nat) (pre : List { k : Nat // k < m }), kv = .int .i64 k ∧ k ≤ m ∧ pre.length + k ≤ m ∧ chain lo hi = pre.map (·.1) ++ chain lo k ∧ J pre wr ∧ KeepB n₀ [Bl, Bp] W wr)
    (fun kv _ => (intOf kv).toNat)
  case atStart => exact ⟨hi, [], rfl, hhi, by simpa using hhi, by simp, h0, KeepB.refl _⟩
  case round =>
    obtain ⟨k, pre, rfl, hk, hpl, hch, hJ, hK⟩ := hrel
    have HC : Hid (chain lo hi = pre.map (·.1) ++ chain lo k) := hch
    clear hch
    have dBl := hK.2 _ _ (by simp) cBl
    have dBp := hK.2 _ _ (by simp) cBp
    by_cases hlt : lo < k
    · obtain rfl := ha (by omega)
      have dH := (hK.1.cell (p := ⟨H, ho, none⟩) hH).trans cH
      have dn : wr.cell? ⟨g, (k - 1) * 2, none⟩ = some (.int .i64 (nw (k - 1))) := (hK.1.cell (p := ⟨g, (k - 1) * 2, none⟩) (hg (by omega))).trans (cn (k - 1) (by omega))
      have dr : wr.cell? ⟨g, (k - 1) * 2 + 1, none⟩ = some (.slice (some ⟨gr (k - 1), 0, none⟩) (ln (k - 1)) (cp (k - 1))) := (hK.1.cell (p := ⟨g, (k - 1) * 2 + 1, none⟩) (hg (by omega))).trans (cr (k - 1) (by omega))
      obtain ⟨fn, tmps, assign, body, hy, hR⟩ := hY pre ⟨k - 1, by omega⟩ wr hJ (by omega)
      dsimp only [encB] at hy
      have hlt' : (lo : Int) < (k : Int) := by omega
      have hk0 : (1 : Int) ≤ (k : Int) := by omega
      have hk1 : (k : Int) ≤ (m : Int) := by omega
      clear cn cr hY cBh cBl cBp cH
      gi_wp2
      refine ⟨fun _ => by omega, ?_⟩
      refine hR.mono ?_
      have hlow := low_le k (by omega) (by omega)
      have hlp := low_pos k
      rintro e W3 (⟨rfl, hJ3, hk3⟩ | ⟨rfl, hJx3⟩)
      · clear hR hy dn dr dH
        have eBl := hk3.2 _ _ (by simp) dBl
        gi_wp2
        refine ⟨trivial, fun _ => by omega, ?_⟩
        refine (callsIn_wide.2 (reach_any k _ (by omega) (by omega))).mono ?_
        rintro e w' ⟨rfl, rfl⟩
        gi_wp2
        go_roundw
        case rel => exact ⟨k - low k, pre ++ [⟨k - 1, by omega⟩], by go_num, by omega, by simp; omega, by rw [HC.out, chain_step lo k hlt]; simp, hJ3, hK.trans hk3⟩
        case measure => simp [intOf]; omega
      · clear hR hy
        gi_wp2
        refine bodyPost_ret (results_none rfl _ _ _) rfl ?_
        exact ⟨⟨_, rfl⟩, .inr ⟨_, trivial, hJx3⟩⟩
    · have hlt' : ¬ (lo : Int) < (k : Int) := by omega
      clear cn cr hY cBh cBl cBp cH
      gi_wp2
      go_end0
      exact ⟨⟨_, rfl⟩, .inl ⟨pre, by have := HC.out; rw [chain_stop lo k hlt] at this; simpa using this.symm, hJ⟩⟩

set_option maxHeartbeats 400000 in
theorem span_any (H ho : Nat) (lo hi : Int) (w : World) :
    Calls Tryz.prog 112 #[.pointer (some ⟨H, ho, none⟩), .int .i64 lo, .int .i64 hi] w fun e w' =>
      e = .returned (.func (.func 147) #[] #[.pointer (some ⟨w.heap.size + 2, 0, none⟩), .pointer (some ⟨w.heap.size + 1, 0, none⟩), .pointer (some ⟨w.heap.size, 0, none⟩)]) ∧
      w' = ((w.alloc (.cells #[.pointer (some ⟨H, ho, none⟩)] 186)).alloc (.cells #[.int .i64 lo] 3)).alloc (.cells #[.int .i64 hi] 3) := by
  go_enter Tryz.func112, Tryz.ntmps112
  go_wp2
  go_ret
  exact ⟨rfl, rfl⟩

/-- What is read of an account's blocks: m of them; the i-th: the newest entry's number, where its rows lie, how many they are. -/
structure BlocksAt (w : World) (H ho g cap m : Nat) (ad : Option Addr) (nw : Nat → Int) (gr ln cp : Nat → Nat) : Prop where
  cH : w.cell? ⟨H, ho, none⟩ = some (.slice ad m cap)
  ha : 0 < m → ad = some ⟨g, 0, none⟩
  cn : ∀ i, i < m → w.cell? ⟨g, i * 2, none⟩ = some (.int .i64 (nw i))
  cr : ∀ i, i < m → w.cell? ⟨g, i * 2 + 1, none⟩ = some (.slice (some ⟨gr i, 0, none⟩) (ln i) (cp i))

theorem BlocksAt.mv {w w' : World} {H ho g cap m : Nat} {ad : Option Addr} {nw : Nat → Int} {gr ln cp : Nat → Nat} (h : BlocksAt w H ho g cap m ad nw gr ln cp)
    (hb : Below w.heap.size w w') : BlocksAt w' H ho g cap m ad nw gr ln cp :=
  ⟨cell_later hb h.cH, h.ha, fun i hi => cell_later hb (h.cn i hi), fun i hi => cell_later hb (h.cr i hi)⟩

theorem span_stops (n : Nat) (hn : 3 ≤ n) (Bh Bl Bp n₀ H ho g cap m hi lo : Nat) (ad : Option Addr) (nw : Nat → Int) (gr ln cp : Nat → Nat) (w : World)
    (hm : m ≤ 64) (hhi : hi ≤ m) (hg : 0 < m → g < n₀) (hH : H < n₀)
    (cBh : w.cell? ⟨Bh, 0, none⟩ = some (.int .i64 hi)) (cBl : w.cell? ⟨Bl, 0, none⟩ = some (.int .i64 lo)) (cBp : w.cell? ⟨Bp, 0, none⟩ = some (.pointer (some ⟨H, ho, none⟩)))
    (hB : BlocksAt w H ho g cap m ad nw gr ln cp) :
    SeqStopsK Fence.wide n Tryz.prog 147 #[.pointer (some ⟨Bh, 0, none⟩), .pointer (some ⟨Bl, 0, none⟩), .pointer (some ⟨Bp, 0, none⟩)] (fun x : { k : Nat // k < m } => encB nw gr ln cp x) (KeepB n₀ [Bl, Bp])
      (fun ys => ys.map (·.1) = chain lo hi) (fun _ => True) m w := fun l J Jx W hW _ _ hY h0 =>
  have hB' := hB.mv hW
  span1_in n hn l Bh Bl Bp n₀ H ho g cap m hi lo ad nw gr ln cp hm hhi hg hH J Jx hY W (cell_later hW cBh) (cell_later hW cBl) (cell_later hW cBp) hB'.cH hB'.ha hB'.cn hB'.cr h0
end Go.Proofs.YtjnmoddcodnadaaGreatDoor
