import Derived.Test.YtjnmoddcodnadaaGreatG00
import Derived.Deep.RegionHeld3
import Derived.Test.YtjnmoddcodnadaaGreatG01
import Derived.RangeFuncNested
import Derived.RangeFuncBound
import Derived.RangeFuncCalls
import Derived.RangeFuncLeaves
import Derived.RangeFuncBox
import Derived.Shelf.Abstract
import Derived.Shelf.RegionOpen
import Derived.OwnWalkIn
import Derived.TacticsInMore
import Derived.LoopNIn
import Derived.LoopIn
set_option linter.unusedVariables false
set_option linter.unusedSimpArgs false
namespace Go.Proofs.YtjnmoddcodnadaaGreat
open Go.RowKit Go.Annal Go.Sort
set_option maxHeartbeats 400000 in
theorem before1_any (i B B' g len cap : Nat) (day x : Int) (w : World) (hb : w.cell? ⟨B, 1, none⟩ = some (.slice (some ⟨g, 0, none⟩) len cap))
    (hd : w.cell? ⟨B', 0, none⟩ = some (.int .i64 day)) (hi : i < len) (hc : w.cell? ⟨g, i * 4 + 1, none⟩ = some (.int .i64 x)) :
    Calls Tryz.prog 71 #[.int .i64 i, .pointer (some ⟨B, 0, none⟩), .pointer (some ⟨B', 0, none⟩)] w fun r w' => r = .returned (.bool (decide (day ≤ x))) ∧ Grew w w' := by
  have hi' : (i : Int) < (len : Int) := by omega
  have hi0 : (0 : Int) ≤ (i : Int) := by omega
  go_enter Tryz.func71, Tryz.ntmps71
  go_wp2
  go_quiet (fail)
  go_wp2
  go_ret
  exact ⟨rfl, (Grew.refl _).drewN _⟩

set_option maxHeartbeats 400000 in
theorem count1_any (i B B' H ho g len cap : Nat) (known x : Int) (w : World) (hb : w.cell? ⟨B, 0, none⟩ = some (.pointer (some ⟨H, ho, none⟩))) (hh : w.cell? ⟨H, ho, none⟩ = some (.slice (some ⟨g, 0, none⟩) len cap))
    (hd : w.cell? ⟨B', 0, none⟩ = some (.int .i64 known)) (hi : i < len) (hc : w.cell? ⟨g, i * 2, none⟩ = some (.int .i64 x)) :
    Calls Tryz.prog 70 #[.int .i64 i, .pointer (some ⟨B, 0, none⟩), .pointer (some ⟨B', 0, none⟩)] w fun r w' => r = .returned (.bool (decide (known < x))) ∧ Grew w w' := by
  have hi' : (i : Int) < (len : Int) := by omega
  have hi0 : (0 : Int) ≤ (i : Int) := by omega
  go_enter Tryz.func70, Tryz.ntmps70
  go_wp2
  go_quiet (fail)
  go_wp2
  go_ret
  exact ⟨rfl, (Grew.refl _).drewN _⟩

theorem cell_at (w : World) (cs : Array Value) (t : TypeId) (o : Nat) (v : Value) (h : cs[o]? = some v) : (w.alloc (.cells cs t)).cell? ⟨w.heap.size, o, none⟩ = some v := by
  unfold World.cell?
  show (match (w.heap.push (.cells cs t))[w.heap.size]? with | some (.cells c _ _) => if (none : Option Nat).isSome then none else c[o]? | _ => none) = some v
  simp [h]
theorem cell_two (w : World) (cs cs' : Array Value) (t t' : TypeId) (o : Nat) (v : Value) (h : cs[o]? = some v) : ((w.alloc (.cells cs t)).alloc (.cells cs' t')).cell? ⟨w.heap.size, o, none⟩ = some v :=
  Grew.cell' ((Grew.refl _).alloc _) (cell_at w cs t o v h)
theorem cell_last (w : World) (o0 : Obj) (cs : Array Value) (t : TypeId) (o : Nat) (v : Value) (h : cs[o]? = some v) : ((w.alloc o0).alloc (.cells cs t)).cell? ⟨w.heap.size + 1, o, none⟩ = some v := by
  have := cell_at (w.alloc o0) cs t o v h
  rwa [World.size_alloc] at this

set_option maxHeartbeats 400000 in
theorem before_any (nw day : Int) (g cap : Nat) (n : Nat) (f : Nat → Int) (w : World) (hl : n ≤ 1000)
    (hc : ∀ i, i < n → w.cell? ⟨g, i * 4 + 1, none⟩ = some (.int .i64 (f i))) (hs : ∀ a b, a ≤ b → b < n → (f a) ≤ (f b)) :
    Calls Tryz.prog 46 #[.agg #[.int .i64 nw, .slice (some ⟨g, 0, none⟩) n cap], .int .i64 day] w fun r w' =>
      r = .returned (.int .i64 ((List.range n).countP (fun i => !decide (day ≤ (f i))) : Nat)) ∧ Grew w w' := by
  have hS := Any.sort_Search (P := Tryz.prog) Tryz.searchL 71 #[.pointer (some ⟨w.heap.size, 0, none⟩), .pointer (some ⟨w.heap.size + 1, 0, none⟩)] n (fun i => decide (day ≤ (f i)))
    ((w.alloc (.cells #[.int .i64 nw, .slice (some ⟨g, 0, none⟩) n cap] 112)).alloc (.cells #[.int .i64 day] 3)) (enters_of Tryz.func71 (by kernel_rfl) rfl) (by omega)
    (fun m os i hi => by
      have hg : Grew ((w.alloc (.cells #[.int .i64 nw, .slice (some ⟨g, 0, none⟩) n cap] 112)).alloc (.cells #[.int .i64 day] 3)) (grow ((((w.alloc (.cells #[.int .i64 nw, .slice (some ⟨g, 0, none⟩) n cap] 112)).alloc (.cells #[.int .i64 day] 3))).drewN m) os) := ⟨m, os, rfl⟩
      exact before1_any i w.heap.size (w.heap.size + 1) g n cap day (f i) _ (hg.cell' (cell_two _ _ _ _ _ _ _ rfl)) (hg.cell' (cell_last _ _ _ _ _ _ rfl)) hi
        (hg.cell' (Grew.cell' (((Grew.refl _).alloc _).alloc _) (hc i hi))))
    (fun a b hab hb h => by have := hs a b hab hb; exact decide_eq_true (by have := of_decide_eq_true h; omega))
  change Calls Tryz.prog 69 _ _ _ at hS
  clear hc hs
  go_enter Tryz.func46, Tryz.ntmps46
  go_wp2_with (go_at_call 69; refine hS.mono ?_; rintro e w' ⟨rfl, hw⟩)
  go_ret
  exact ⟨rfl, Grew.trans (((Grew.refl _).alloc _).alloc _) hw⟩

set_option maxHeartbeats 400000 in
theorem count_any (known : Int) (H ho g cap : Nat) (ad : Option Addr) (n : Nat) (f : Nat → Int) (w : World) (hl : n ≤ 1000) (hh : w.cell? ⟨H, ho, none⟩ = some (.slice ad n cap)) (ha : 0 < n → ad = some ⟨g, 0, none⟩)
    (hc : ∀ i, i < n → w.cell? ⟨g, i * 2, none⟩ = some (.int .i64 (f i))) (hs : ∀ a b, a ≤ b → b < n → (f a) ≤ (f b)) :
    Calls Tryz.prog 45 #[.pointer (some ⟨H, ho, none⟩), .int .i64 known] w fun r w' =>
      r = .returned (.int .i64 ((List.range n).countP (fun i => !decide (known < (f i))) : Nat)) ∧ Grew w w' := by
  have hS := Any.sort_Search (P := Tryz.prog) Tryz.searchL 70 #[.pointer (some ⟨w.heap.size, 0, none⟩), .pointer (some ⟨w.heap.size + 1, 0, none⟩)] n (fun i => decide (known < (f i)))
    ((w.alloc (.cells #[.pointer (some ⟨H, ho, none⟩)] 105)).alloc (.cells #[.int .i64 known] 3)) (enters_of Tryz.func70 (by kernel_rfl) rfl) (by omega)
    (fun m os i hi => by
      have hg : Grew ((w.alloc (.cells #[.pointer (some ⟨H, ho, none⟩)] 105)).alloc (.cells #[.int .i64 known] 3)) (grow (((w.alloc (.cells #[.pointer (some ⟨H, ho, none⟩)] 105)).alloc (.cells #[.int .i64 known] 3)).drewN m) os) := ⟨m, os, rfl⟩
      obtain rfl := ha (by omega)
      exact count1_any i w.heap.size (w.heap.size + 1) H ho g n cap known (f i) _ (hg.cell' (cell_two _ _ _ _ _ _ _ rfl)) (hg.cell' (Grew.cell' (((Grew.refl _).alloc _).alloc _) hh)) (hg.cell' (cell_last _ _ _ _ _ _ rfl)) hi
        (hg.cell' (Grew.cell' (((Grew.refl _).alloc _).alloc _) (hc i hi))))
    (fun a b hab hb h => by have := hs a b hab hb; exact decide_eq_true (by have := of_decide_eq_true h; omega))
  change Calls Tryz.prog 69 _ _ _ at hS
  clear hc hs
  have hh' := Grew.cell' (((Grew.refl w).alloc (.cells #[.pointer (some ⟨H, ho, none⟩)] 105)).alloc (.cells #[.int .i64 known] 3)) hh
  go_enter Tryz.func45, Tryz.ntmps45
  go_wp2_with (go_at_call 69; refine hS.mono ?_; rintro e w' ⟨rfl, hw⟩)
  go_ret
  exact ⟨rfl, Grew.trans (((Grew.refl _).alloc _).alloc _) hw⟩
end Go.Proofs.YtjnmoddcodnadaaGreat
namespace Go.Annal
open Go.RowKit

/-- What a round keeps: all below n, and the cells of the named blocks. -/
def KeepB (n : Nat) (B : List Nat) (W W' : World) : Prop := Below n W W' ∧ ∀ p v, p.block ∈ B → W.cell? p = some v → W'.cell? p = some v
theorem KeepB.trans {n : Nat} {B : List Nat} {a b c : World} (h : KeepB n B a b) (k : KeepB n B b c) : KeepB n B a c :=
  ⟨h.1.trans k.1, fun p v hp hv => k.2 p v hp (h.2 p v hp hv)⟩
theorem KeepB.refl {n : Nat} {B : List Nat} (a : World) : KeepB n B a a := ⟨Below.refl _ _, fun _ _ _ h => h⟩
theorem KeepB.put {n : Nat} {B : List Nat} {w : World} (hn : n ≤ w.heap.size) (W : World) (l : Nat) (o o' : Obj) (hl : w.heap.size ≤ l) (ho : W.heap[l]? = some o) (hc : o.isCells = false) (hw : o.isWalk = false) : KeepB n B W (W.putObj l o') := by
  refine ⟨belowK_b (w := w) hn W l o o' hl ho hc hw, fun p v _ hv => ?_⟩
  refine cell_kept hv (grownBy_putObj' W l o') (fun r e => ?_)
  cases e
  exact ⟨_, ho, hc⟩
theorem KeepB.of_grew {n : Nat} {B : List Nat} {W W' : World} (hn : n ≤ W.heap.size) (h : Grew W W') : KeepB n B W W' :=
  ⟨h.below.mono hn, fun _ _ _ hv => h.cell' hv⟩

/-- The places of the blocks that hold the items behind the first lo ones, up to the k-th: from the newest on. -/
def chainF (low : Nat → Nat) (lo : Nat) : Nat → Nat → List Nat
  | 0, _ => []
  | f + 1, k => if lo < k then (k - 1) :: chainF low lo f (k - low k) else []
end Go.Annal

namespace Go.Proofs.YtjnmoddcodnadaaGreat
open Go.RowKit Go.Annal Go.Sort Go.Shelf
attribute [local go_sem] Oper.semAt_some
theorem low_pos (k : Nat) : 1 ≤ low k := by unfold low; repeat' split <;> try omega
theorem low_le_aux : ∀ k : Fin 65, k.1 ≠ 0 → low k.1 ≤ k.1 := by decide +kernel
theorem low_le (k : Nat) (h : 1 ≤ k) (h' : k ≤ 64) : low k ≤ k := low_le_aux ⟨k, by omega⟩ (by simp; omega)
def chain (lo k : Nat) : List Nat := chainF low lo k k
theorem chainF_fuel (lo : Nat) : ∀ (f g k : Nat), k ≤ f → k ≤ g → chainF low lo f k = chainF low lo g k
  | 0, 0, _, _, _ => rfl
  | 0, g + 1, k, h, _ => by simp [chainF]; omega
  | f + 1, 0, k, _, h => by simp [chainF]; omega
  | f + 1, g + 1, k, h, h' => by
    simp only [chainF]
    split
    · rw [chainF_fuel lo f g (k - low k) (by have := low_pos k; omega) (by have := low_pos k; omega)]
    · rfl
theorem chain_step (lo k : Nat) (h : lo < k) : chain lo k = (k - 1) :: chain lo (k - low k) := by
  unfold chain
  obtain ⟨f, rfl⟩ : ∃ f, k = f + 1 := ⟨k - 1, by omega⟩
  rw [chainF, if_pos h, chainF_fuel lo f (f + 1 - low (f + 1)) (f + 1 - low (f + 1)) (by have := low_pos (f + 1); omega) (Nat.le_refl _)]
theorem chain_stop (lo k : Nat) (h : ¬ lo < k) : chain lo k = [] := by
  unfold chain
  cases k with
  | zero => rfl
  | succ f => rw [chainF, if_neg h]

/-- The cells of m blocks, each (newest, rows). -/
def encB (nw : Nat → Int) (gr ln cp : Nat → Nat) {m : Nat} (x : { k : Nat // k < m }) : Array Value := #[.agg #[.int .i64 (nw x.1), .slice (some ⟨gr x.1, 0, none⟩) (ln x.1) (cp x.1)]]

set_option maxRecDepth 100000 in
set_option maxHeartbeats 1000000 in
theorem span1_in (n : Nat) (hn : 3 ≤ n) (l Bh Bl Bp n₀ H ho g cap m hi lo : Nat) (ad : Option Addr) (nw : Nat → Int) (gr ln cp : Nat → Nat)
    (hm : m ≤ 64) (hhi : hi ≤ m) (hg : 0 < m → g < n₀) (hH : H < n₀)
    (J Jx : List { k : Nat // k < m } → World → Prop)
    (hY : ∀ pre x W, J pre W → pre.length < m → YieldAt Fence.wide (n - 1) Tryz.prog l (encB nw gr ln cp x) W fun e W' =>
      (e = .returned (.bool true) ∧ J (pre ++ [x]) W' ∧ KeepB n₀ [Bl, Bp] W W') ∨ (e = .returned (.bool false) ∧ Jx (pre ++ [x]) W'))
    (W : World) (cBh : W.cell? ⟨Bh, 0, none⟩ = some (.int .i64 hi)) (cBl : W.cell? ⟨Bl, 0, none⟩ = some (.int .i64 lo)) (cBp : W.cell? ⟨Bp, 0, none⟩ = some (.pointer (some ⟨H, ho, none⟩)))
    (cH : W.cell? ⟨H, ho, none⟩ = some (.slice ad m cap)) (ha : 0 < m → ad = some ⟨g, 0, none⟩)
    (cn : ∀ i, i < m → W.cell? ⟨g, i * 2, none⟩ = some (.int .i64 (nw i))) (cr : ∀ i, i < m → W.cell? ⟨g, i * 2 + 1, none⟩ = some (.slice (some ⟨gr i, 0, none⟩) (ln i) (cp i))) (h0 : J [] W) :
    CallsIn Fence.wide n Tryz.prog 67 #[.func (.yield l) #[] #[], .pointer (some ⟨Bh, 0, none⟩), .pointer (some ⟨Bl, 0, none⟩), .pointer (some ⟨Bp, 0, none⟩)] W fun e W' => (∃ v, e = .returned v) ∧
      ((∃ ys : List { k : Nat // k < m }, ys.map (·.1) = chain lo hi ∧ J ys W') ∨ (∃ pre : List { k : Nat // k < m }, True ∧ Jx pre W')) := by
  refine callsIn_of_wp Tryz.func67 rfl trivial ?_ rfl
  simp only [Tryz.ntmps67, List.size_toArray, List.length_cons, List.length_nil, Nat.reduceAdd, Nat.reduceSub, Array.replicate_succ, Array.replicate_zero, List.push_toArray, List.append_toArray, List.nil_append, List.cons_append]
  gi_wp2
  gi_loopw [5] (fun kv wr => ∃ (k : Nat) (pre : List { k : Nat // k < m }), kv = .int .i64 k ∧ k ≤ m ∧ pre.length + k ≤ m ∧ chain lo hi = pre.map (·.1) ++ chain lo k ∧ J pre wr ∧ KeepB n₀ [Bl, Bp] W wr)
    (fun kv _ => (intOf kv).toNat)
  case atStart => exact ⟨hi, [], rfl, hhi, by simpa using hhi, by simp, h0, KeepB.refl _⟩
  case round =>
    obtain ⟨k, pre, rfl, hk, hpl, hch, hJ, hK⟩ := hrel
    have HC : Hid (chain lo hi = pre.map (·.1) ++ chain lo k) := hch
    clear hch
    have dBl := hK.2 _ _ (by simp) cBl
    have dBp := hK.2 _ _ (by simp) cBp
    by_cases hlt : lo < k
    · obtain rfl := ha (by omega)
      have dH := (hK.1.cell (p := ⟨H, ho, none⟩) hH).trans cH
      have dn : wr.cell? ⟨g, (k - 1) * 2, none⟩ = some (.int .i64 (nw (k - 1))) := (hK.1.cell (p := ⟨g, (k - 1) * 2, none⟩) (hg (by omega))).trans (cn (k - 1) (by omega))
      have dr : wr.cell? ⟨g, (k - 1) * 2 + 1, none⟩ = some (.slice (some ⟨gr (k - 1), 0, none⟩) (ln (k - 1)) (cp (k - 1))) := (hK.1.cell (p := ⟨g, (k - 1) * 2 + 1, none⟩) (hg (by omega))).trans (cr (k - 1) (by omega))
      obtain ⟨fn, tmps, assign, body, hy, hR⟩ := hY pre ⟨k - 1, by omega⟩ wr hJ (by omega)
      dsimp only [encB] at hy
      have hlt' : (lo : Int) < (k : Int) := by omega
      have hk0 : (1 : Int) ≤ (k : Int) := by omega
      have hk1 : (k : Int) ≤ (m : Int) := by omega
      clear cn cr hY cBh cBl cBp cH
      gi_wp2
      refine ⟨fun _ => by omega, ?_⟩
      refine hR.mono ?_
      have hlow := low_le k (by omega) (by omega)
      have hlp := low_pos k
      rintro e W3 (⟨rfl, hJ3, hk3⟩ | ⟨rfl, hJx3⟩)
      · clear hR hy dn dr dH
        have eBl := hk3.2 _ _ (by simp) dBl
        gi_wp2
        refine ⟨trivial, fun _ => by omega, ?_⟩
        refine (callsIn_wide.2 (reach_any k _ (by omega) (by omega))).mono ?_
        rintro e w' ⟨rfl, rfl⟩
        gi_wp2
        go_roundw
        case rel => exact ⟨k - low k, pre ++ [⟨k - 1, by omega⟩], by go_num, by omega, by simp; omega, by rw [HC.out, chain_step lo k hlt]; simp, hJ3, hK.trans hk3⟩
        case measure => simp [intOf]; omega
      · clear hR hy
        gi_wp2
        refine bodyPost_ret (results_none rfl _ _ _) rfl ?_
        exact ⟨⟨_, rfl⟩, .inr ⟨_, trivial, hJx3⟩⟩
    · have hlt' : ¬ (lo : Int) < (k : Int) := by omega
      clear cn cr hY cBh cBl cBp cH
      gi_wp2
      go_end0
      exact ⟨⟨_, rfl⟩, .inl ⟨pre, by have := HC.out; rw [chain_stop lo k hlt] at this; simpa using this.symm, hJ⟩⟩

set_option maxHeartbeats 400000 in
theorem span_any (H ho : Nat) (lo hi : Int) (w : World) :
    Calls Tryz.prog 44 #[.pointer (some ⟨H, ho, none⟩), .int .i64 lo, .int .i64 hi] w fun e w' =>
      e = .returned (.func (.func 67) #[] #[.pointer (some ⟨w.heap.size + 2, 0, none⟩), .pointer (some ⟨w.heap.size + 1, 0, none⟩), .pointer (some ⟨w.heap.size, 0, none⟩)]) ∧
      w' = ((w.alloc (.cells #[.pointer (some ⟨H, ho, none⟩)] 105)).alloc (.cells #[.int .i64 lo] 3)).alloc (.cells #[.int .i64 hi] 3) := by
  go_enter Tryz.func44, Tryz.ntmps44
  go_wp2
  go_ret
  exact ⟨rfl, rfl⟩

/-- What is read of an account's blocks: m of them; the i-th: the newest entry's number, where its rows lie, how many they are. -/
structure BlocksAt (w : World) (H ho g cap m : Nat) (ad : Option Addr) (nw : Nat → Int) (gr ln cp : Nat → Nat) : Prop where
  cH : w.cell? ⟨H, ho, none⟩ = some (.slice ad m cap)
  ha : 0 < m → ad = some ⟨g, 0, none⟩
  cn : ∀ i, i < m → w.cell? ⟨g, i * 2, none⟩ = some (.int .i64 (nw i))
  cr : ∀ i, i < m → w.cell? ⟨g, i * 2 + 1, none⟩ = some (.slice (some ⟨gr i, 0, none⟩) (ln i) (cp i))

theorem BlocksAt.mv {w w' : World} {H ho g cap m : Nat} {ad : Option Addr} {nw : Nat → Int} {gr ln cp : Nat → Nat} (h : BlocksAt w H ho g cap m ad nw gr ln cp)
    (hb : Below w.heap.size w w') : BlocksAt w' H ho g cap m ad nw gr ln cp :=
  ⟨cell_later hb h.cH, h.ha, fun i hi => cell_later hb (h.cn i hi), fun i hi => cell_later hb (h.cr i hi)⟩

theorem span_stops (n : Nat) (hn : 3 ≤ n) (Bh Bl Bp n₀ H ho g cap m hi lo : Nat) (ad : Option Addr) (nw : Nat → Int) (gr ln cp : Nat → Nat) (w : World)
    (hm : m ≤ 64) (hhi : hi ≤ m) (hg : 0 < m → g < n₀) (hH : H < n₀)
    (cBh : w.cell? ⟨Bh, 0, none⟩ = some (.int .i64 hi)) (cBl : w.cell? ⟨Bl, 0, none⟩ = some (.int .i64 lo)) (cBp : w.cell? ⟨Bp, 0, none⟩ = some (.pointer (some ⟨H, ho, none⟩)))
    (hB : BlocksAt w H ho g cap m ad nw gr ln cp) :
    SeqStopsK Fence.wide n Tryz.prog 67 #[.pointer (some ⟨Bh, 0, none⟩), .pointer (some ⟨Bl, 0, none⟩), .pointer (some ⟨Bp, 0, none⟩)] (fun x : { k : Nat // k < m } => encB nw gr ln cp x) (KeepB n₀ [Bl, Bp])
      (fun ys => ys.map (·.1) = chain lo hi) (fun _ => True) m w := fun l J Jx W hW _ _ hY h0 =>
  have hB' := hB.mv hW
  span1_in n hn l Bh Bl Bp n₀ H ho g cap m hi lo ad nw gr ln cp hm hhi hg hH J Jx hY W (cell_later hW cBh) (cell_later hW cBl) (cell_later hW cBp) hB'.cH hB'.ha hB'.cn hB'.cr h0
end Go.Proofs.YtjnmoddcodnadaaGreat
namespace Go.Proofs.YtjnmoddcodnadaaGreat
open Go.RowKit Go.Annal Go.Sort Go.Shelf
attribute [local go_sem] Oper.semAt_some

/-- How many of a block's rows are of days up to one. -/
def upTo (d : Nat → Int) (n : Nat) (day : Int) : Nat := (List.range n).countP (fun j => !decide (day ≤ d j))
def balTerm (ln : Nat → Nat) (d s : Nat → Nat → Int) (day : Int) (i : Nat) : Int := if 0 < upTo (d i) (ln i) (day + 1) then s i (upTo (d i) (ln i) (day + 1) - 1) else 0
def balSum (ln : Nat → Nat) (d s : Nat → Nat → Int) (day : Int) (xs : List Nat) : Int := (xs.map (balTerm ln d s day)).sum
/-- How many entries' blocks are known. -/
def cntKnown (nw : Nat → Int) (m : Nat) (known : Int) : Nat := (List.range m).countP (fun i => !decide (known < nw i))
theorem cntKnown_le (nw : Nat → Int) (m : Nat) (known : Int) : cntKnown nw m known ≤ m := by
  have := List.countP_le_length (p := fun i => !decide (known < nw i)) (l := List.range m); simpa [cntKnown] using this
theorem upTo_le (d : Nat → Int) (n : Nat) (day : Int) : upTo d n day ≤ n := by
  have := List.countP_le_length (p := fun j => !decide (day ≤ d j)) (l := List.range n); simpa [upTo] using this

/-- The rows' cells. -/
structure RowsAt (w : World) (m : Nat) (gr ln : Nat → Nat) (e d a s : Nat → Nat → Int) : Prop where
  ce : ∀ i, i < m → ∀ j, j < ln i → w.cell? ⟨gr i, j * 4, none⟩ = some (.int .i64 (e i j))
  cd : ∀ i, i < m → ∀ j, j < ln i → w.cell? ⟨gr i, j * 4 + 1, none⟩ = some (.int .i64 (d i j))
  ca : ∀ i, i < m → ∀ j, j < ln i → w.cell? ⟨gr i, j * 4 + 2, none⟩ = some (.int .i64 (a i j))
  cs : ∀ i, i < m → ∀ j, j < ln i → w.cell? ⟨gr i, j * 4 + 3, none⟩ = some (.int .i64 (s i j))
  sorted : ∀ i, i < m → ∀ p q, p ≤ q → q < ln i → d i p ≤ d i q
  small : ∀ i, i < m → ln i ≤ 1000
  bound : ∀ i, i < m → ∀ j, j < ln i → -100000000000000 ≤ s i j ∧ s i j ≤ 100000000000000
theorem RowsAt.mv {w w' : World} {m : Nat} {gr ln : Nat → Nat} {e d a s : Nat → Nat → Int} (h : RowsAt w m gr ln e d a s) (hb : Below w.heap.size w w') : RowsAt w' m gr ln e d a s :=
  ⟨fun i hi j hj => cell_later hb (h.ce i hi j hj), fun i hi j hj => cell_later hb (h.cd i hi j hj), fun i hi j hj => cell_later hb (h.ca i hi j hj), fun i hi j hj => cell_later hb (h.cs i hi j hj), h.sorted, h.small, h.bound⟩

theorem balSum_bd (ln : Nat → Nat) (d s : Nat → Nat → Int) (day : Int) (m : Nat) (hb : ∀ i, i < m → ∀ j, j < ln i → -100000000000000 ≤ s i j ∧ s i j ≤ 100000000000000) (pre : List { k : Nat // k < m }) :
    -(100000000000000 * (pre.length : Int)) ≤ balSum ln d s day (pre.map (·.1)) ∧ balSum ln d s day (pre.map (·.1)) ≤ 100000000000000 * (pre.length : Int) := by
  induction pre with
  | nil => simp [balSum]
  | cons x r ih =>
    have ht : -100000000000000 ≤ balTerm ln d s day x.1 ∧ balTerm ln d s day x.1 ≤ 100000000000000 := by
      unfold balTerm
      have := upTo_le (d x.1) (ln x.1) (day + 1)
      split
      · exact hb _ x.2 _ (by omega)
      · omega
    simp only [balSum, List.map_cons, List.sum_cons, List.length_cons] at ih ⊢
    omega

theorem count_known (known : Int) (H ho g cap : Nat) (ad : Option Addr) (n : Nat) (f : Nat → Int) (w : World) (hl : n ≤ 1000) (hh : w.cell? ⟨H, ho, none⟩ = some (.slice ad n cap)) (ha : 0 < n → ad = some ⟨g, 0, none⟩)
    (hc : ∀ i, i < n → w.cell? ⟨g, i * 2, none⟩ = some (.int .i64 (f i))) (hs : ∀ a b, a ≤ b → b < n → f a ≤ f b) :
    Calls Tryz.prog 45 #[.pointer (some ⟨H, ho, none⟩), .int .i64 known] w fun r w' => r = .returned (.int .i64 (cntKnown f n known)) ∧ Grew w w' :=
  count_any known H ho g cap ad n f w hl hh ha hc hs
theorem before_upTo (nw day : Int) (g cap : Nat) (n : Nat) (f : Nat → Int) (w : World) (hl : n ≤ 1000)
    (hc : ∀ i, i < n → w.cell? ⟨g, i * 4 + 1, none⟩ = some (.int .i64 (f i))) (hs : ∀ a b, a ≤ b → b < n → f a ≤ f b) :
    Calls Tryz.prog 46 #[.agg #[.int .i64 nw, .slice (some ⟨g, 0, none⟩) n cap], .int .i64 day] w fun r w' => r = .returned (.int .i64 (upTo f n day)) ∧ Grew w w' :=
  before_any nw day g cap n f w hl hc hs

theorem bal_fin {w W W3 w5 : World} {B : List Nat} {oD : Obj} {u0 : Value} {t : TypeId} (hBs : ∀ b ∈ B, b ≠ w.heap.size + 1) (hF5 : KeepsFrom W3.heap.size W w5) (hK5 : KeepB w.heap.size B W w5) (jD : w5.heap[w.heap.size]? = some oD)
    (jT : w5.heap[w.heap.size + 1]? = some (.cells #[u0] t (0, 0))) (hB5 : Below w.heap.size w w5) (hs : W3.heap.size ≤ w5.heap.size) (v : Value) :
    KeepsFrom W3.heap.size W (w5.setCell ⟨w.heap.size + 1, 0, none⟩ v).drew ∧ KeepB w.heap.size B W (w5.setCell ⟨w.heap.size + 1, 0, none⟩ v).drew ∧
      (((w5.setCell ⟨w.heap.size + 1, 0, none⟩ v).drew.heap[w.heap.size]? = some oD ∧ (w5.setCell ⟨w.heap.size + 1, 0, none⟩ v).drew.heap[w.heap.size + 1]? = some (.cells #[v] t (0, 0))) ∧
        Below w.heap.size w (w5.setCell ⟨w.heap.size + 1, 0, none⟩ v).drew) ∧ W3.heap.size ≤ (w5.setCell ⟨w.heap.size + 1, 0, none⟩ v).drew.heap.size := by
  refine ⟨hF5.trans (((KeepsOthers.setCell _ _ _).trans (KeepsOthers.drew _)).from _), hK5.trans ⟨((Below.refl _ _).setCell (p := ⟨w.heap.size + 1, 0, none⟩) (by simp) _).drew, fun p v hp hv => ?_⟩, ⟨⟨blk_set_other jD (by simp) _, blk_set jT 0 _⟩, (hB5.setCell (p := ⟨w.heap.size + 1, 0, none⟩) (by simp) _).drew⟩, ?_⟩
  · rw [← hv]
    refine World.cell?_of_block (w := w5) ?_
    exact Below.heap_setCell w5 _ _ _ (hBs _ hp)
  · show _ ≤ (w5.setCell _ _).heap.size
    simpa [World.setCell] using hs

set_option maxRecDepth 100000 in
set_option maxHeartbeats 1000000 in
theorem histBalance_any (H ho g cap m : Nat) (ad : Option Addr) (nw : Nat → Int) (gr ln cp : Nat → Nat) (e d a s : Nat → Nat → Int) (day known : Int) (w : World)
    (hm : m ≤ 64) (hB : BlocksAt w H ho g cap m ad nw gr ln cp) (hR : RowsAt w m gr ln e d a s) (hN : ∀ p q, p ≤ q → q < m → nw p ≤ nw q) (h0 : 0 ≤ day) (h1 : day ≤ 9999) :
    Calls Tryz.prog 28 #[.pointer (some ⟨H, ho, none⟩), .int .i64 day, .int .i64 known] w fun r w' =>
      r = .returned (.int .i64 (balSum ln d s day (chain 0 (cntKnown nw m known)))) ∧ Below w.heap.size w w' := by
  refine (callsIn_wide (n := 12)).1 ?_
  refine callsIn_of_wp_marks Tryz.func28 rfl trivial ?_ rfl
  simp only [Tryz.ntmps28, List.size_toArray, List.length_cons, List.length_nil, Nat.reduceAdd, Nat.reduceSub, Array.replicate_succ, Array.replicate_zero, List.push_toArray, List.append_toArray, List.nil_append, List.cons_append]
  gi_wp2
  have hG1 : Grew w ((w.alloc (.cells #[.int .i64 day] 3)).alloc (.cells #[.int .i64 0] 3)) := ((Grew.refl _).alloc _).alloc _
  have hB1 := hB.mv hG1.below
  refine ⟨trivial, (callsIn_wide.2 (count_known known H ho g cap ad m nw _ (by omega) hB1.cH hB1.ha hB1.cn hN)).mono ?_⟩
  rintro e1 w2 ⟨rfl, hg2⟩
  gi_wp2
  refine ⟨trivial, (callsIn_wide.2 (span_any H ho _ _ _)).mono ?_⟩
  rintro e3 w3 ⟨rfl, rfl⟩
  gi_wp2
  have hH : H < w.heap.size := World.block_lt_of_cell? _ _ hB.cH
  have hg : 0 < m → g < w.heap.size := fun h => World.block_lt_of_cell? _ _ (hB.cn 0 h)
  have hgr : ∀ i, i < m → 0 < ln i → gr i < w.heap.size := fun i hi h => World.block_lt_of_cell? _ _ (hR.ce i hi 0 h)
  have hsz2 : w.heap.size + 2 ≤ w2.heap.size := by have := hg2.size; simpa using this
  obtain ⟨W3, hW3⟩ : ∃ W3, ((w2.alloc (Obj.cells #[Value.pointer (some { block := H, off := ho })] 105)).alloc (Obj.cells #[Value.int IntKind.i64 0] 3)).alloc (Obj.cells #[Value.int IntKind.i64 ↑(cntKnown nw m known)] 3) = W3 := ⟨_, rfl⟩
  have hG3 : Grew w2 W3 := by rw [← hW3]; exact (((Grew.refl _).alloc _).alloc _).alloc _
  have hs3 : W3.heap.size = w2.heap.size + 3 := by rw [← hW3]; simp
  have hG : Grew w W3 := (hG1.trans hg2).trans hG3
  have cD : W3.heap[w.heap.size]? = some (.cells #[.int .i64 day] 3 (0, 0)) := hG3.blk (hg2.blk (Grew.blk ((Grew.refl _).alloc _) (heap_alloc_new w _)))
  have cT : W3.heap[w.heap.size + 1]? = some (.cells #[.int .i64 0] 3 (0, 0)) := hG3.blk (hg2.blk (by have := heap_alloc_new (w.alloc (.cells #[.int .i64 day] 3)) (.cells #[.int .i64 0] 3); rwa [World.size_alloc] at this))
  have cBp : W3.heap[w2.heap.size]? = some (.cells #[.pointer (some ⟨H, ho, none⟩)] 105 (0, 0)) := by rw [← hW3]; exact Grew.blk (((Grew.refl _).alloc _).alloc _) (heap_alloc_new w2 _)
  have cBl : W3.heap[w2.heap.size + 1]? = some (.cells #[.int .i64 0] 3 (0, 0)) := by
    rw [← hW3]; refine Grew.blk ((Grew.refl _).alloc _) ?_
    have := heap_alloc_new (w2.alloc (.cells #[.pointer (some ⟨H, ho, none⟩)] 105)) (.cells #[.int .i64 0] 3); rwa [World.size_alloc] at this
  have cBh : W3.heap[w2.heap.size + 2]? = some (.cells #[.int .i64 (cntKnown nw m known)] 3 (0, 0)) := by
    rw [← hW3]
    have := heap_alloc_new ((w2.alloc (.cells #[.pointer (some ⟨H, ho, none⟩)] 105)).alloc (.cells #[.int .i64 0] 3)) (.cells #[.int .i64 (cntKnown nw m known)] 3); rwa [World.size_alloc, World.size_alloc] at this
  have hB3 := hB.mv hG.below
  rw [hW3]
  clear hW3 hB1
  refine wpIn_rangeFunc_ownH rfl (by omega) (gf := 67) (lb := #[.pointer (some ⟨w2.heap.size + 2, 0, none⟩), .pointer (some ⟨w2.heap.size + 1, 0, none⟩), .pointer (some ⟨w2.heap.size, 0, none⟩)]) rfl trivial (enters_of Tryz.func67 (by kernel_rfl) rfl)
    (span_stops 11 (by omega) (w2.heap.size + 2) (w2.heap.size + 1) w2.heap.size w.heap.size H ho g cap m (cntKnown nw m known) 0 ad nw gr ln cp W3 hm (cntKnown_le _ _ _) hg hH (blk_cell' cBh rfl) (blk_cell' cBl rfl) (blk_cell' cBp rfl) hB3)
    KeepB.trans (KeepB.put (by have := hG.size; omega)) (Below.refl _ _) (fun _ => rfl)
    (fun pre W => ((W.heap[w.heap.size]? = some (.cells #[.int .i64 day] 3 (0, 0)) ∧ W.heap[w.heap.size + 1]? = some (.cells #[.int .i64 (balSum ln d s day (pre.map (·.1)))] 3 (0, 0))) ∧ Below w.heap.size w W) ∧ W3.heap.size ≤ W.heap.size)
    (fun _ _ _ => False)
    (OwnFrom.and (OwnFrom.and (Own.from (fun s A B row hs hg hr => ⟨blk_kept hs.1 hg hr, blk_kept hs.2 hg hr⟩) _) (ownFrom_below (Nat.le_refl _) hG.size)) (fun _ _ _ _ hs hg _ => Nat.le_trans hs hg.size))
    (fun _ _ _ _ _ hs _ _ => hs)
    ⟨⟨⟨cD, cT⟩, hG.below⟩, Nat.le_refl _⟩
    (fun x a' W => ∃ Bx, W3.heap.size ≤ Bx ∧ W.heap[Bx]? = some (.cells #[.int .i64 (nw x.1), .slice (some ⟨gr x.1, 0, none⟩) (ln x.1) (cp x.1)] 112 (0, 0)) ∧
      a' = { tmps := #[.pointer (some ⟨H, ho, none⟩), .int .i64 day, .int .i64 known, undef, .pointer (some ⟨w.heap.size, 0, none⟩), undef, .int .i64 0, .pointer (some ⟨w.heap.size + 1, 0, none⟩), .pointer (some ⟨Bx, 0, none⟩), undef,
        .pointer (some ⟨H, ho, none⟩), .pointer (some ⟨H, ho, none⟩), .int .i64 known, .int .i64 (cntKnown nw m known), .func (.func 67) #[] #[.pointer (some ⟨w2.heap.size + 2, 0, none⟩), .pointer (some ⟨w2.heap.size + 1, 0, none⟩), .pointer (some ⟨w2.heap.size, 0, none⟩)],
        .agg #[.int .i64 (nw x.1), .slice (some ⟨gr x.1, 0, none⟩) (ln x.1) (cp x.1)], undef, undef, undef, undef, undef, undef, undef, undef, undef, undef, undef, undef, undef, undef, undef, undef], defers := [] })
    (fun x a' => Own.from (fun _ A B row hs hg hr => by obtain ⟨Bx, h1, h2, h3⟩ := hs; exact ⟨Bx, h1, blk_kept h2 hg hr, h3⟩) _)
    ?assign ?body ?done ?stop
  case assign =>
    rintro l pre x W K ⟨⟨⟨iD, iT⟩, iB⟩, iS⟩ hK
    dsimp only [encB]
    gi_wp2
    have hk : Grew W (W.alloc (.cells #[.int .i64 (nw x.1), .slice (some ⟨gr x.1, 0, none⟩) (ln x.1) (cp x.1)] 112)) := (Grew.refl _).alloc _
    exact hK _ _ ((KeepsOthers.alloc _ _).from _) (KeepB.of_grew iB.size hk) ⟨⟨⟨hk.blk iD, hk.blk iT⟩, iB.trans (hk.below.mono iB.size)⟩, Nat.le_trans iS hk.size⟩ ⟨W.heap.size, iS, heap_alloc_new W _, rfl⟩
  case body =>
    rintro l pre x a' W hl hr ⟨⟨⟨iD, iT⟩, iB⟩, iS⟩ ⟨Bx, hBx, cX, rfl⟩ hlt
    have cX0 := blk_cell' cX (o := 0) rfl
    have cX1 := blk_cell' cX (o := 1) rfl
    have cD0 := blk_cell' iD (o := 0) rfl
    have hxm := x.2
    have hul := upTo_le (d x.1) (ln x.1) (day + 1)
    have hC := before_upTo (nw x.1) (day + 1) (gr x.1) (cp x.1) (ln x.1) (d x.1) W (hR.small _ x.2) (fun i hi => cell_later iB (hR.cd _ x.2 i hi)) (hR.sorted _ x.2)
    have hterm : Hid (balTerm ln d s day x.1 = if 0 < upTo (d x.1) (ln x.1) (day + 1) then s x.1 (upTo (d x.1) (ln x.1) (day + 1) - 1) else 0) := rfl
    have hsum : Hid (balSum ln d s day ((pre ++ [x]).map (·.1)) = balSum ln d s day (pre.map (·.1)) + balTerm ln d s day x.1) := by simp [Hid, balSum]
    have hbd := balSum_bd ln d s day m hR.bound pre
    have hcu : ∀ u : Nat, 0 < u → u ≤ ln x.1 → w.cell? ⟨gr x.1, (u - 1) * 4 + 3, none⟩ = some (.int .i64 (s x.1 (u - 1))) := fun u h h' => hR.cs _ x.2 (u - 1) (by omega)
    have hbu : ∀ u : Nat, 0 < u → u ≤ ln x.1 → -100000000000000 ≤ s x.1 (u - 1) ∧ s x.1 (u - 1) ≤ 100000000000000 := fun u h h' => hR.bound _ x.2 (u - 1) (by omega)
    have hln := hR.small _ x.2
    generalize upTo (d x.1) (ln x.1) (day + 1) = u at hC hul hterm
    generalize balSum ln d s day (pre.map (·.1)) = tot at iT hsum hbd
    clear hB3 hR hB hN cBp cBl cBh cD cT
    gi_wp2
    refine ⟨trivial, (CallsIn.inRound l (callsIn_wide.2 hC)).mono ?_⟩
    rintro e5 w5 ⟨rfl, hg5⟩
    have jD := hg5.blk iD
    have jT := hg5.blk iT
    have jX := hg5.blk cX
    have hB5 : Below w.heap.size w w5 := iB.trans (hg5.below.mono iB.size)
    have jX1 := blk_cell' jX (o := 1) rfl
    have jT0 := blk_cell' jT (o := 0) rfl
    have fT0 := blk_free jT 0
    have hK5 : KeepB w.heap.size [w2.heap.size + 1, w2.heap.size] W w5 := KeepB.of_grew iB.size hg5
    have hF5 : KeepsFrom W3.heap.size W w5 := ⟨hg5.size, fun k o _ hk _ => hg5.blk hk⟩
    clear hC cX0 cX1 cD0
    by_cases hu : 0 < u
    · have hu' : (0 : Int) < (u : Int) := by omega
      have hul' : (u : Int) ≤ (ln x.1 : Int) := by omega
      have hln' : (ln x.1 : Int) ≤ 1000 := by omega
      have hi0 : (0 : Int) ≤ (u : Int) - 1 := by omega
      have hi1 : (u : Int) - 1 < (ln x.1 : Int) := by omega
      have hi2 : ((u : Int) - 1).toNat = u - 1 := by omega
      have ju := cell_later hB5 (hcu u hu hul)
      have bu := hbu u hu hul
      obtain ⟨bu1, bu2⟩ := bu
      obtain ⟨hb1, hb2⟩ := hbd
      generalize s x.1 (u - 1) = su at ju bu1 bu2 hterm
      have hpl : (pre.length : Int) ≤ 64 := by omega
      clear hcu hbu
      have fin : Hid _ := bal_fin (B := [w2.heap.size + 1, w2.heap.size]) (fun b hb => by simp at hb; omega) hF5 hK5 jD jT hB5 (Nat.le_trans iS hg5.size) (.int .i64 (tot + su))
      have hfs : Hid (balSum ln d s day ((pre ++ [x]).map (·.1)) = tot + su) := by have := hsum.out; rw [hterm.out, if_pos hu] at this; exact this
      have hw1 : IntKind.i64.wrap ((u : Int) - 1) = (u : Int) - 1 := wrap_id _ (by omega) (by omega)
      have hw2 : IntKind.i64.wrap (tot + su) = tot + su := wrap_id _ (by omega) (by omega)
      have mixed : Tryz.prog.follows .mixedOrders = true := by kernel_rfl
      gi_wp2
      gi_region_with_o (fail)
      all_goals gi_wp2
      all_goals (show KeepsFrom _ _ _ ∧ KeepB _ _ _ _ ∧ _; dsimp only; rw [hfs.out]; exact fin.out)
    · have hu' : ¬ (0 : Int) < (u : Int) := by omega
      clear hcu hbu
      gi_wp2
      exact ⟨hF5, hK5, ⟨⟨jD, by rw [hsum.out, hterm.out, if_neg hu, Int.add_zero]; exact jT⟩, hB5⟩, Nat.le_trans iS hg5.size⟩
  case done =>
    rintro D ys W hD hys ⟨⟨⟨iD, iT⟩, iB⟩, iS⟩ hK
    have cT0 := blk_cell' iT (o := 0) rfl
    rw [hys] at cT0
    clear hB3 hR hB hN cBp cBl cBh cD cT iT iD
    gi_wp2
    refine ⟨by simp, .inl ⟨_, _, rfl, run_takeDeferred hK, ?_⟩⟩
    exact ⟨_, results_tmp rfl _ _ _, rfl, iB.trans (belowK_b (w := w) (Nat.le_refl _) W D _ _ (by have := hG.size; omega) hK rfl rfl)⟩
  case stop =>
    rintro D c pre W _ _ h _
    exact h.elim
end Go.Proofs.YtjnmoddcodnadaaGreat
namespace Go.Annal
/-- A row of a block: an item and a sum. -/
abbrev Rw := Int × Int × Int × Int
def enc4 (x : Rw) : List Value := [.int .i64 x.1, .int .i64 x.2.1, .int .i64 x.2.2.1, .int .i64 x.2.2.2]
def cells4 (l : List Rw) : List Value := l.flatMap enc4
theorem cells4_append (a b : List Rw) : cells4 (a ++ b) = cells4 a ++ cells4 b := by simp [cells4]
theorem cells4_cons (x : Rw) (b : List Rw) : cells4 (x :: b) = enc4 x ++ cells4 b := by simp [cells4]
theorem cells4_len (l : List Rw) : (cells4 l).length = l.length * 4 := by
  induction l with
  | nil => rfl
  | cons x r ih => rw [cells4_cons, List.length_append, ih]; simp [enc4]; omega
theorem cells4_one (l : List Rw) : ∀ u ∈ cells4 l, u.oneCell' = true := by
  intro u hu
  simp only [cells4, List.mem_flatMap, enc4] at hu
  obtain ⟨x, _, hx⟩ := hu
  simp at hx
  rcases hx with rfl | rfl | rfl | rfl <;> rfl
theorem cells4_drop (l : List Rw) (k : Nat) : (cells4 l).drop (k * 4) = cells4 (l.drop k) := by
  induction l generalizing k with
  | nil => simp [cells4]
  | cons x r ih =>
    cases k with
    | zero => simp [cells4]
    | succ k =>
      rw [cells4_cons, List.drop_succ_cons, ← ih k, show (k + 1) * 4 = (enc4 x).length + k * 4 by simp [enc4]; omega, List.drop_append, List.drop_of_length_le (by omega), Nat.add_sub_cancel_left, List.nil_append]
theorem cells4_get (l : List Rw) (j : Nat) (h : j < l.length) (o : Nat) (ho : o < 4) : (cells4 l)[j * 4 + o]? = (enc4 l[j])[o]? := by
  have h1 : (cells4 l)[j * 4 + o]? = ((cells4 l).drop (j * 4))[o]? := by rw [List.getElem?_drop]
  rw [h1, cells4_drop, List.drop_eq_getElem_cons h, cells4_cons]
  rw [List.getElem?_append_left (by simp [enc4]; omega)]
theorem cells4_set (A B : List Rw) (x : Rw) (s : Int) : (cells4 (A ++ x :: B)).set (A.length * 4 + 3) (.int .i64 s) = cells4 (A ++ (x.1, x.2.1, x.2.2.1, s) :: B) := by
  rw [cells4_append, cells4_append, cells4_cons, cells4_cons, List.set_append_right _ _ (by rw [cells4_len]; omega), cells4_len, Nat.add_sub_cancel_left]
  simp [enc4]
/-- Rows with their sums. -/
def addUpF (acc : Int) : List Rw → List Rw
  | [] => []
  | x :: r => (x.1, x.2.1, x.2.2.1, acc + x.2.2.1) :: addUpF (acc + x.2.2.1) r
def amtSum (l : List Rw) : Int := (l.map (fun x => x.2.2.1)).sum
theorem addUpF_snoc (acc : Int) (l : List Rw) (x : Rw) : addUpF acc (l ++ [x]) = addUpF acc l ++ [(x.1, x.2.1, x.2.2.1, acc + amtSum l + x.2.2.1)] := by
  induction l generalizing acc with
  | nil => simp [addUpF, amtSum]
  | cons y r ih => simp only [List.cons_append, addUpF, ih, amtSum, List.map_cons, List.sum_cons]; congr 3; simp; omega
theorem addUpF_len (acc : Int) (l : List Rw) : (addUpF acc l).length = l.length := by
  induction l generalizing acc with
  | nil => rfl
  | cons y r ih => simp [addUpF, ih]
theorem amtSum_bd (l : List Rw) (h : ∀ x ∈ l, -100000000000000 ≤ x.2.2.1 ∧ x.2.2.1 ≤ 100000000000000) : -(100000000000000 * (l.length : Int)) ≤ amtSum l ∧ amtSum l ≤ 100000000000000 * (l.length : Int) := by
  induction l with
  | nil => simp [amtSum]
  | cons y r ih =>
    have h1 := ih (fun x hx => h x (List.mem_cons_of_mem _ hx))
    have h2 := h y (List.mem_cons_self)
    simp only [amtSum, List.map_cons, List.sum_cons, List.length_cons] at *
    omega
theorem amtSum_snoc (l : List Rw) (x : Rw) : amtSum (l ++ [x]) = amtSum l + x.2.2.1 := by simp [amtSum]
end Go.Annal
namespace Go.Proofs.YtjnmoddcodnadaaGreat
open Go.RowKit Go.Annal
set_option maxRecDepth 100000 in
set_option maxHeartbeats 1000000 in
theorem addUp_any (B g cap : Nat) (l : List Rw) (w : World) (hown : w.ownsRow B 114 4 (.slice (some ⟨g, 0, none⟩) l.length cap) l.length (cells4 l)) (hn : l.length ≤ 1000) (hb : ∀ x ∈ l, -100000000000000 ≤ x.2.2.1 ∧ x.2.2.1 ≤ 100000000000000) :
    Calls Tryz.prog 80 #[.slice (some ⟨g, 0, none⟩) l.length cap] w fun r w' => r = .returned (.tuple #[]) ∧ w'.ownsRow B 114 4 (.slice (some ⟨g, 0, none⟩) l.length cap) l.length (cells4 (addUpF 0 l)) ∧ w.grownBy w' (some g) := by
  go_enter Tryz.func80, Tryz.ntmps80
  go_wp2
  go_loopw [2, 3, 6] (fun sv _ iv wr => ∃ k : Nat, k ≤ l.length ∧ iv = .int .i64 k ∧ sv = .int .i64 (amtSum (l.take k)) ∧ wr.ownsRow B 114 4 (.slice (some ⟨g, 0, none⟩) l.length cap) l.length (cells4 (addUpF 0 (l.take k) ++ l.drop k)) ∧ w.grownBy wr (some g)) (fun _ _ iv _ => l.length - (intOf iv).toNat)
  case atStart => exact ⟨0, Nat.zero_le _, rfl, rfl, by simpa [addUpF] using hown, ⟨rfl, rfl, rfl, Nat.le_refl _, fun _ _ _ => rfl⟩⟩
  case round =>
    obtain ⟨k, hk, rfl, rfl, hown2, hg⟩ := hrel
    by_cases hlt : k < l.length
    · have hlt' : (k : Int) < (l.length : Int) := by omega
      have hk0 : (0 : Int) ≤ (k : Int) := by omega
      have hdr : l.drop k = l[k] :: l.drop (k + 1) := List.drop_eq_getElem_cons hlt
      have htk : l.take (k + 1) = l.take k ++ [l[k]] := List.take_succ_eq_append_getElem hlt
      have hbk := hb l[k] (List.getElem_mem hlt)
      have hbs := amtSum_bd (l.take k) (fun x hx => hb x (List.mem_of_mem_take hx))
      have hlk : (l.take k).length = k := by simp; omega
      rw [hlk] at hbs
      have hal : (addUpF 0 (l.take k)).length = k := by rw [addUpF_len, hlk]
      have hc := fun o (ho : o < 4) => (hown2.cellAt (k * 4 + o) (by omega)).trans (cells4_get (addUpF 0 (l.take k) ++ l.drop k) k (by rw [List.length_append, hal]; simp; omega) o ho)
      have hgk : (addUpF 0 (l.take k) ++ l.drop k)[k]'(by rw [List.length_append, hal]; simp; omega) = l[k] := by
        rw [List.getElem_append_right (by omega)]
        simp [hal]
      have c2 := hc 2 (by omega)
      have c3 := hc 3 (by omega)
      rw [hgk] at c2 c3
      have f3 := hown2.frozenAt (k * 4 + 3)
      have hst := hown2.stored (k * 4 + 3) (.int .i64 (amtSum (l.take k) + l[k].2.2.1))
      have hcs : (cells4 (addUpF 0 (l.take k) ++ l.drop k)).set (k * 4 + 3) (.int .i64 (amtSum (l.take k) + l[k].2.2.1)) = cells4 (addUpF 0 (l.take (k + 1)) ++ l.drop (k + 1)) := by
        have := cells4_set (addUpF 0 (l.take k)) (l.drop (k + 1)) l[k] (amtSum (l.take k) + l[k].2.2.1)
        rw [hal, ← hdr] at this
        rw [this, htk, addUpF_snoc]
        simp
      rw [hcs] at hst
      have hsm : amtSum (l.take (k + 1)) = amtSum (l.take k) + l[k].2.2.1 := by rw [htk, amtSum_snoc]
      have HS : Hid _ := hst
      have HM : Hid _ := hsm
      clear hst hsm hcs hc hgk hal hdr htk hown2
      simp only [enc4] at c2 c3
      generalize hS : amtSum (l.take k) = S at *
      generalize hA : l[k].2.2.1 = A at *
      clear hS hA
      obtain ⟨hbs1, hbs2⟩ := hbs
      obtain ⟨hbk1, hbk2⟩ := hbk
      simp at c2 c3
      go_wp2
      go_roundw
      case rel => exact ⟨k + 1, by omega, by go_num, by rw [HM.out], HS.out.1, ⟨HS.out.2.os.trans hg.os, HS.out.2.tape.trans hg.tape, HS.out.2.output.trans hg.output, Nat.le_trans hg.size HS.out.2.size, fun j hj hne => (HS.out.2.block j (Nat.lt_of_lt_of_le hj hg.size) hne).trans (hg.block j hj hne)⟩⟩
      case measure => simp [intOf]; omega
    · have hlt' : ¬ (k : Int) < (l.length : Int) := by omega
      have hke : k = l.length := by omega
      rw [List.take_of_length_le (by omega), List.drop_of_length_le (by omega), List.append_nil] at hown2
      have HO : Hid _ := hown2
      clear hown2 hke
      go_wp2
      go_end0
      exact ⟨rfl, HO.out, hg⟩
end Go.Proofs.YtjnmoddcodnadaaGreat
