import Derived.Test.YtdljdffnnnoafaaGreatPrg3
import Derived.Test.YtdljdffnnnoafaaGreatPrg6
set_option linter.unusedVariables false
set_option linter.unusedSimpArgs false
namespace Go.Proofs.YtdljdffnnnoafaaGreat
open Go.RowKit Go.Annal
set_option maxHeartbeats 1000000 in
theorem sameLen_any (a b : Option Addr) (n m c d : Nat) (w : World) (h : n ≠ m) :
    Calls Tryz.prog 42 #[.slice a n c, .slice b m d] w fun r w' => r = .returned (.bool false) ∧ w' = w := by
  have h' : ¬ (n : Int) = (m : Int) := by omega
  have h2 : ((n : Int) != (m : Int)) = true := by simpa using h'
  go_enter Tryz.func42, Tryz.ntmps42
  go_wp2
  go_ret
  exact ⟨rfl, rfl⟩
set_option maxHeartbeats 1000000 in
/-- Two lists of lines that are alike. -/
theorem sameLines_yes (ga gb n c d : Nat) (oa ob : Nat) (xa : Nat → ByteArray) (xm : Nat → Int) (w : World) (hA : LinesAt w ga oa n xa xm) (hB : LinesAt w gb ob n xa xm) (hn : n ≤ 1000) :
    Calls Tryz.prog 42 #[.slice (some ⟨ga, oa, none⟩) n c, .slice (some ⟨gb, ob, none⟩) n d] w fun r w' => r = .returned (.bool true) ∧ ∃ q, w' = w.drewN q := by
  go_enter Tryz.func42, Tryz.ntmps42
  go_wp2
  go_loopw [5] (fun iv wr => ∃ k q : Nat, k ≤ n ∧ iv = .int .i64 k ∧ wr = w.drewN q) (fun iv _ => n - (intOf iv).toNat)
  case atStart => exact ⟨0, 0, Nat.zero_le _, rfl, rfl⟩
  case round =>
    obtain ⟨k, q, hk, rfl, rfl⟩ := hrel
    by_cases hlt : k < n
    · have hlt' : (k : Int) < (n : Int) := by omega
      have hk0 : (0 : Int) ≤ (k : Int) := by omega
      have a0 := hA.ca k hlt
      have a1 := hA.cm k hlt
      have b0 := hB.ca k hlt
      have b1 := hB.cm k hlt
      go_wp2
      go_quiet (fail)
      go_wp2
      exact ⟨⟨k + 1, q + nq, by omega, by go_num, rfl⟩, by simp [intOf]; omega⟩
    · have hlt' : ¬ (k : Int) < (n : Int) := by omega
      go_wp2
      go_ret
      exact ⟨rfl, q, rfl⟩
/-- Items that lie at an address: n of them. -/
structure ItemsAt (w : World) (g o n : Nat) (e d a : Nat → Int) : Prop where
  ce : ∀ k, k < n → w.cell? ⟨g, o + k * 3, none⟩ = some (.int .i64 (e k))
  cd : ∀ k, k < n → w.cell? ⟨g, o + k * 3 + 1, none⟩ = some (.int .i64 (d k))
  ca : ∀ k, k < n → w.cell? ⟨g, o + k * 3 + 2, none⟩ = some (.int .i64 (a k))
set_option maxHeartbeats 1000000 in
/-- Two lists of items that are alike. -/
theorem sameItems_yes (ga gb n c d' : Nat) (oa ob : Nat) (e d a : Nat → Int) (w : World) (hA : ItemsAt w ga oa n e d a) (hB : ItemsAt w gb ob n e d a) (hn : n ≤ 1000) :
    Calls Tryz.prog 46 #[.slice (some ⟨ga, oa, none⟩) n c, .slice (some ⟨gb, ob, none⟩) n d'] w fun r w' => r = .returned (.bool true) ∧ ∃ q, w' = w.drewN q := by
  go_enter Tryz.func46, Tryz.ntmps46
  go_wp2
  go_loopw [5] (fun iv wr => ∃ k q : Nat, k ≤ n ∧ iv = .int .i64 k ∧ wr = w.drewN q) (fun iv _ => n - (intOf iv).toNat)
  case atStart => exact ⟨0, 0, Nat.zero_le _, rfl, rfl⟩
  case round =>
    obtain ⟨k, q, hk, rfl, rfl⟩ := hrel
    by_cases hlt : k < n
    · have hlt' : (k : Int) < (n : Int) := by omega
      have hk0 : (0 : Int) ≤ (k : Int) := by omega
      have a0 := hA.ce k hlt
      have a1 := hA.cd k hlt
      have a2 := hA.ca k hlt
      have b0 := hB.ce k hlt
      have b1 := hB.cd k hlt
      have b2 := hB.ca k hlt
      go_wp2
      go_quiet (fail)
      go_wp2
      exact ⟨⟨k + 1, q + nq, by omega, by go_num, rfl⟩, by simp [intOf]; omega⟩
    · have hlt' : ¬ (k : Int) < (n : Int) := by omega
      go_wp2
      go_ret
      exact ⟨rfl, q, rfl⟩
set_option maxHeartbeats 1000000 in
/-- Two lists of nothing. -/
theorem sameLines_none (a b : Option Addr) (c d : Nat) (w : World) :
    Calls Tryz.prog 42 #[.slice a 0 c, .slice b 0 d] w fun r w' => r = .returned (.bool true) ∧ w' = w := by
  go_enter Tryz.func42, Tryz.ntmps42
  go_wp2
  refine wp_loop_rounds 2 ?_; rw [rounds_succ]; go_wp2
  go_ret
  exact ⟨rfl, rfl⟩
set_option maxHeartbeats 1000000 in
theorem sameItems_none (a b : Option Addr) (c d : Nat) (w : World) :
    Calls Tryz.prog 46 #[.slice a 0 c, .slice b 0 d] w fun r w' => r = .returned (.bool true) ∧ w' = w := by
  go_enter Tryz.func46, Tryz.ntmps46
  go_wp2
  refine wp_loop_rounds 2 ?_; rw [rounds_succ]; go_wp2
  go_ret
  exact ⟨rfl, rfl⟩
end Go.Proofs.YtdljdffnnnoafaaGreat
namespace Go.Proofs.YtdljdffnnnoafaaGreat
open Go.RowKit Go.Annal
set_option maxHeartbeats 400000 in
theorem over_any (w : World) : Calls Tryz.prog 22 #[] w fun r w' => r = .returned (.agg #[.string ⟨#[111, 118, 101, 114]⟩, .int .i64 (-99)]) ∧ Grew w w' := by
  go_enter Tryz.func22, Tryz.ntmps22
  go_wp2
  refine bodyPost_ret (v := .agg #[.string ⟨#[111, 118, 101, 114]⟩, .int .i64 (-99)]) ?_ rfl ?_
  · simp [results, Tryz.f22]
    go_simp
  · exact ⟨rfl, (Grew.refl _).alloc _⟩
end Go.Proofs.YtdljdffnnnoafaaGreat
namespace Go.Proofs.YtdljdffnnnoafaaGreat
open Go.RowKit Go.Annal Go.Sort
def markB : ByteArray := ⟨#[109, 97, 114, 107]⟩
def overB : ByteArray := ⟨#[111, 118, 101, 114]⟩
/-- A list whose n elements all read alike, of sz cells each, in blocks of type e; P: what is known of its block. -/
def Full (w : World) (e : TypeId) (sz : Nat) (c : List Value) (P : Nat → Prop) (v : Value) : Prop :=
  ∃ ad n cap, v = .slice ad n cap ∧ n ≤ 2000000000 ∧ n ≤ cap ∧ (0 < n → ∃ g cs fz, ad = some ⟨g, 0, none⟩ ∧ w.heap[g]? = some (.cells cs e fz) ∧ P g ∧ ∀ k, k < n → ∀ o, o < sz → w.cell? ⟨g, k * sz + o, none⟩ = c[o]?)
theorem Full.turn {w w' : World} {e : TypeId} {sz : Nat} {c : List Value} {P P' : Nat → Prop} {v : Value} (h : Full w e sz c P v) {S : Nat → Prop} (ht : Turn S w w') (hs : ∀ g cs fz, w.heap[g]? = some (.cells cs e fz) → P g → ¬ S g) (hP : ∀ g, g < w.heap.size → P g → P' g) : Full w' e sz c P' v := by
  obtain ⟨ad, n, cap, rfl, h1, h2, h3⟩ := h
  refine ⟨ad, n, cap, rfl, h1, h2, fun hn => ?_⟩
  obtain ⟨g, cs, fz, rfl, hg, hp, hc⟩ := h3 hn
  have hb := ht.block g (blk_lt hg) (hs g cs fz hg hp)
  exact ⟨g, cs, fz, rfl, hb.trans hg, hP g (blk_lt hg) hp, fun k hk o ho => (World.cell?_of_block (w := w) (a := ⟨g, k * sz + o, none⟩) hb).trans (hc k hk o ho)⟩
/-- All that a script has made. -/
structure Ls where
  nb : Nat
  B : Nat → Nat
  R : Nat → Nat
  st : Nat → St
  Fp : Nat → Nat → Prop
  Fd : Nat → Nat → Prop
  nl : Nat
  lv : Nat → Value
  lm : Nat → Int
  ni : Nat
  iv : Nat → Value
  im : Nat → Int
  nt : Nat
  tv : Nat → Value
  vb : Value
  vl : Value
  vi : Value
  vt : Value
  v0 : Value
  v1 : Value
def Ls.apart (d : Ls) (g : Nat) : Prop := ∀ j, j < d.nb → ¬ d.Fd j g
def pairCells (B R : Nat → Nat) (n : Nat) : List Value := (List.range n).flatMap (fun i => [.pointer (some ⟨B i, 0, none⟩), .pointer (some ⟨R i, 0, none⟩)])
structure LawIs (H : Nat) (w : World) (L : Nat) (d : Ls) : Prop where
  lo : H ≤ L
  bk : w.heap[L]? = some (.cells #[d.vb, d.vl, d.vi, d.vt, d.v0, d.v1] 32 (0, 0))
  rb : w.ownsRow H 45 2 d.vb d.nb (pairCells d.B d.R d.nb)
  rl : w.ownsRow H 34 1 d.vl d.nl ((List.range d.nl).map d.lv)
  ri : w.ownsRow H 61 1 d.vi d.ni ((List.range d.ni).map d.iv)
  rt : w.ownsRow H 34 1 d.vt d.nt ((List.range d.nt).map d.tv)
  r0 : w.ownsRow H 3 1 d.v0 d.nl ((List.range d.nl).map (fun i => .int .i64 (d.lm i)))
  r1 : w.ownsRow H 3 1 d.v1 d.ni ((List.range d.ni).map (fun i => .int .i64 (d.im i)))
  a1 : ∀ k, d.vl.ownBlock = some k → d.vt.ownBlock ≠ some k
  a2 : ∀ k, d.v0.ownBlock = some k → d.v1.ownBlock ≠ some k
  pr : ∀ i, i < d.nb → ProgIs w (d.B i) (d.st i) (d.Fp i)
  dc : ∀ i, i < d.nb → DocIs w (d.R i) (d.st i) (d.Fd i)
  ok : ∀ i, i < d.nb → (d.st i).Ok
  pp : ∀ i j k, i < d.nb → j < d.nb → i ≠ j → d.Fp i k → ¬ d.Fp j k
  dd : ∀ i j k, i < d.nb → j < d.nb → i ≠ j → d.Fd i k → ¬ d.Fd j k
  pH : ∀ i k, i < d.nb → d.Fp i k → H ≤ k
  dH : ∀ i k, i < d.nb → d.Fd i k → H ≤ k
  cl : ∀ i, i < d.nl → Full w 38 2 [.string markB, .int .i64 (d.lm i)] d.apart (d.lv i)
  ci : ∀ i, i < d.ni → Full w 63 3 [.int .i64 (d.im i), .int .i64 (d.im i), .int .i64 (d.im i)] d.apart (d.iv i)
  ct : ∀ i, i < d.nt → Full w 38 2 [.string overB, .int .i64 (-99)] d.apart (d.tv i)
theorem LawIs.mv {H : Nat} {w w' : World} {L : Nat} {d : Ls} (h : LawIs H w L d) (hb : Below w.heap.size w w') : LawIs H w' L d := by
  have ht : Turn (fun _ => False) w w' := Turn.of_below hb
  exact ⟨h.lo, ht.blk h.bk (fun h => h), owns_turn h.rb ht (fun _ _ h => h), owns_turn h.rl ht (fun _ _ h => h), owns_turn h.ri ht (fun _ _ h => h), owns_turn h.rt ht (fun _ _ h => h), owns_turn h.r0 ht (fun _ _ h => h), owns_turn h.r1 ht (fun _ _ h => h), h.a1, h.a2,
    fun i hi => (h.pr i hi).turn ht (fun _ _ h => h), fun i hi => (h.dc i hi).turn ht (fun _ _ h => h), h.ok, h.pp, h.dd, h.pH, h.dH, fun i hi => (h.cl i hi).turn ht (fun _ _ _ _ _ h => h) (fun _ _ h => h), fun i hi => (h.ci i hi).turn ht (fun _ _ _ _ _ h => h) (fun _ _ h => h), fun i hi => (h.ct i hi).turn ht (fun _ _ _ _ _ h => h) (fun _ _ h => h)⟩
end Go.Proofs.YtdljdffnnnoafaaGreat
