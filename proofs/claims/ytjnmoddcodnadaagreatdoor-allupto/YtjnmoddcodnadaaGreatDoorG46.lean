import Derived.Test.YtjnmoddcodnadaaGreatDoorG20
import Derived.Test.YtjnmoddcodnadaaGreatDoorG37
import Derived.Test.YtjnmoddcodnadaaGreatDoorG35
import Derived.Test.YtjnmoddcodnadaaGreatDoorG01
import Derived.Deep.AppendLies
set_option linter.unusedVariables false
set_option linter.unusedSimpArgs false
namespace Go.Proofs.YtjnmoddcodnadaaGreatDoor
open Go.RowKit Go.Annal
set_option maxHeartbeats 1000000 in
theorem sameLen_any (a b : Option Addr) (n m c d : Nat) (w : World) (h : n ≠ m) :
    Calls Tryz.prog 87 #[.slice a n c, .slice b m d] w fun r w' => r = .returned (.bool false) ∧ w' = w := by
  have h' : ¬ (n : Int) = (m : Int) := by omega
  have h2 : ((n : Int) != (m : Int)) = true := by simpa using h'
  go_enter Tryz.func87, Tryz.ntmps87
  go_wp2
  go_ret
  exact ⟨rfl, rfl⟩
set_option maxHeartbeats 1000000 in
/-- Two lists of lines that are alike. -/
theorem sameLines_yes (ga gb n c d : Nat) (oa ob : Nat) (xa : Nat → ByteArray) (xm : Nat → Int) (w : World) (hA : LinesAt w ga oa n xa xm) (hB : LinesAt w gb ob n xa xm) (hn : n ≤ 1000) :
    Calls Tryz.prog 87 #[.slice (some ⟨ga, oa, none⟩) n c, .slice (some ⟨gb, ob, none⟩) n d] w fun r w' => r = .returned (.bool true) ∧ ∃ q, w' = w.drewN q := by
  go_enter Tryz.func87, Tryz.ntmps87
  go_wp2
  go_loopw [5] (fun iv wr => ∃ k q : Nat, k ≤ n ∧ iv = .int .i64 k ∧ wr = w.drewN q) (fun iv _ => n - (intOf iv).toNat)
  case atStart => exact ⟨0, 0, Nat.zero_le _, rfl, rfl⟩
  case round =>
    obtain ⟨k, q, hk, rfl, rfl⟩ := hrel
    by_cases hlt : k < n
    · have hlt' : (k : Int) < (n : Int) := by omega
      have hk0 : (0 : Int) ≤ (k : Int) := by omega
      have a0 := hA.ca k hlt
      have a1 := hA.cm k hlt
      have b0 := hB.ca k hlt
      have b1 := hB.cm k hlt
      go_wp2
      go_quiet (fail)
      go_wp2
      exact ⟨⟨k + 1, q + nq, by omega, by go_num, rfl⟩, by simp [intOf]; omega⟩
    · have hlt' : ¬ (k : Int) < (n : Int) := by omega
      go_wp2
      go_ret
      exact ⟨rfl, q, rfl⟩
/-- Items that lie at an address: n of them. -/
structure ItemsAt (w : World) (g o n : Nat) (e d a : Nat → Int) : Prop where
  ce : ∀ k, k < n → w.cell? ⟨g, o + k * 3, none⟩ = some (.int .i64 (e k))
  cd : ∀ k, k < n → w.cell? ⟨g, o + k * 3 + 1, none⟩ = some (.int .i64 (d k))
  ca : ∀ k, k < n → w.cell? ⟨g, o + k * 3 + 2, none⟩ = some (.int .i64 (a k))
set_option maxHeartbeats 1000000 in
/-- Two lists of items that are alike. -/
theorem sameItems_yes (ga gb n c d' : Nat) (oa ob : Nat) (e d a : Nat → Int) (w : World) (hA : ItemsAt w ga oa n e d a) (hB : ItemsAt w gb ob n e d a) (hn : n ≤ 1000) :
    Calls Tryz.prog 91 #[.slice (some ⟨ga, oa, none⟩) n c, .slice (some ⟨gb, ob, none⟩) n d'] w fun r w' => r = .returned (.bool true) ∧ ∃ q, w' = w.drewN q := by
  go_enter Tryz.func91, Tryz.ntmps91
  go_wp2
  go_loopw [5] (fun iv wr => ∃ k q : Nat, k ≤ n ∧ iv = .int .i64 k ∧ wr = w.drewN q) (fun iv _ => n - (intOf iv).toNat)
  case atStart => exact ⟨0, 0, Nat.zero_le _, rfl, rfl⟩
  case round =>
    obtain ⟨k, q, hk, rfl, rfl⟩ := hrel
    by_cases hlt : k < n
    · have hlt' : (k : Int) < (n : Int) := by omega
      have hk0 : (0 : Int) ≤ (k : Int) := by omega
      have a0 := hA.ce k hlt
      have a1 := hA.cd k hlt
      have a2 := hA.ca k hlt
      have b0 := hB.ce k hlt
      have b1 := hB.cd k hlt
      have b2 := hB.ca k hlt
      go_wp2
      go_quiet (fail)
      go_wp2
      exact ⟨⟨k + 1, q + nq, by omega, by go_num, rfl⟩, by simp [intOf]; omega⟩
    · have hlt' : ¬ (k : Int) < (n : Int) := by omega
      go_wp2
      go_ret
      exact ⟨rfl, q, rfl⟩
set_option maxHeartbeats 1000000 in
/-- Two lists of nothing. -/
theorem sameLines_none (a b : Option Addr) (c d : Nat) (w : World) :
    Calls Tryz.prog 87 #[.slice a 0 c, .slice b 0 d] w fun r w' => r = .returned (.bool true) ∧ w' = w := by
  go_enter Tryz.func87, Tryz.ntmps87
  go_wp2
  refine wp_loop_rounds 2 ?_; rw [rounds_succ]; go_wp2
  go_ret
  exact ⟨rfl, rfl⟩
set_option maxHeartbeats 1000000 in
theorem sameItems_none (a b : Option Addr) (c d : Nat) (w : World) :
    Calls Tryz.prog 91 #[.slice a 0 c, .slice b 0 d] w fun r w' => r = .returned (.bool true) ∧ w' = w := by
  go_enter Tryz.func91, Tryz.ntmps91
  go_wp2
  refine wp_loop_rounds 2 ?_; rw [rounds_succ]; go_wp2
  go_ret
  exact ⟨rfl, rfl⟩
end Go.Proofs.YtjnmoddcodnadaaGreatDoor
namespace Go.Proofs.YtjnmoddcodnadaaGreatDoor
open Go.RowKit Go.Annal
set_option maxHeartbeats 400000 in
theorem over_any (w : World) : Calls Tryz.prog 46 #[] w fun r w' => r = .returned (.agg #[.string ⟨#[111, 118, 101, 114]⟩, .int .i64 (-99)]) ∧ Grew w w' := by
  go_enter Tryz.func46, Tryz.ntmps46
  go_wp2
  refine bodyPost_ret (v := .agg #[.string ⟨#[111, 118, 101, 114]⟩, .int .i64 (-99)]) ?_ rfl ?_
  · simp [results, Tryz.f46]
    go_simp
  · exact ⟨rfl, (Grew.refl _).alloc _⟩
end Go.Proofs.YtjnmoddcodnadaaGreatDoor
namespace Go.Proofs.YtjnmoddcodnadaaGreatDoor
open Go.RowKit Go.Annal Go.Sort
/-- The types of the blocks of a program's book, and of a document's. -/
abbrev progK (t : TypeId) : Prop := t = 68 ∨ t = 132 ∨ t = 70 ∨ t = 181 ∨ t = 145 ∨ t = 193 ∨ t = 195 ∨ t = 58
abbrev docK (t : TypeId) : Prop := t = 103 ∨ t = 154 ∨ t = 158 ∨ t = 58
theorem ProgIs.kind {w : World} {B : Nat} {s : St} {Fp : Nat → Prop} (h : ProgIs w B s Fp) {b : Nat} (hb : Fp b) : ∃ cs t fz, w.heap[b]? = some (.cells cs t fz) ∧ progK t := by
  obtain ⟨k, kd, mm, ff, F, gl, cl, xa, xm, kk, h1, h2⟩ := h
  rcases (h2 b).1 hb with hb | hb | ⟨i, hi, rfl⟩
  · obtain ⟨cs, t, fz, hc, ht⟩ := h1.bk.kind hb
    exact ⟨cs, t, fz, hc, by rcases ht with rfl | rfl | rfl | rfl <;> decide⟩
  · obtain ⟨cs, t, hc, ht⟩ := h1.ac.kind hb
    exact ⟨cs, t, _, hc, by rcases ht with rfl | rfl | rfl <;> decide⟩
  · obtain ⟨c, fz, hc⟩ := owns_kind (h1.lo i hi) (gl i) rfl
    exact ⟨c, _, fz, hc, by decide⟩
def markB : ByteArray := ⟨#[109, 97, 114, 107]⟩
def overB : ByteArray := ⟨#[111, 118, 101, 114]⟩
/-- A list whose n elements all read alike, of sz cells each, in blocks of type e; P: what is known of its block. -/
def Full (w : World) (e : TypeId) (sz : Nat) (c : List Value) (P : Nat → Prop) (v : Value) : Prop :=
  ∃ ad n cap, v = .slice ad n cap ∧ n ≤ 2000000000 ∧ n ≤ cap ∧ (0 < n → ∃ g cs fz, ad = some ⟨g, 0, none⟩ ∧ w.heap[g]? = some (.cells cs e fz) ∧ P g ∧ ∀ k, k < n → ∀ o, o < sz → w.cell? ⟨g, k * sz + o, none⟩ = c[o]?)
theorem Full.turn {w w' : World} {e : TypeId} {sz : Nat} {c : List Value} {P P' : Nat → Prop} {v : Value} (h : Full w e sz c P v) {S : Nat → Prop} (ht : Turn S w w') (hs : ∀ g cs fz, w.heap[g]? = some (.cells cs e fz) → P g → ¬ S g) (hP : ∀ g, g < w.heap.size → P g → P' g) : Full w' e sz c P' v := by
  obtain ⟨ad, n, cap, rfl, h1, h2, h3⟩ := h
  refine ⟨ad, n, cap, rfl, h1, h2, fun hn => ?_⟩
  obtain ⟨g, cs, fz, rfl, hg, hp, hc⟩ := h3 hn
  have hb := ht.block g (blk_lt hg) (hs g cs fz hg hp)
  exact ⟨g, cs, fz, rfl, hb.trans hg, hP g (blk_lt hg) hp, fun k hk o ho => (World.cell?_of_block (w := w) (a := ⟨g, k * sz + o, none⟩) hb).trans (hc k hk o ho)⟩
/-- All that a script has made. -/
structure Ls where
  nb : Nat
  B : Nat → Nat
  R : Nat → Nat
  st : Nat → St
  Fp : Nat → Nat → Prop
  Fd : Nat → Nat → Prop
  nl : Nat
  lv : Nat → Value
  lm : Nat → Int
  ni : Nat
  iv : Nat → Value
  im : Nat → Int
  nt : Nat
  tv : Nat → Value
  vb : Value
  vl : Value
  vi : Value
  vt : Value
  v0 : Value
  v1 : Value
def Ls.apart (d : Ls) (g : Nat) : Prop := ∀ j, j < d.nb → ¬ (d.Fd j g ∨ d.Fp j g)
def pairCells (B R : Nat → Nat) (n : Nat) : List Value := (List.range n).flatMap (fun i => [.pointer (some ⟨B i, 0, none⟩), .pointer (some ⟨R i, 0, none⟩)])
structure LawIs (H : Nat) (w : World) (L : Nat) (d : Ls) : Prop where
  lo : H ≤ L
  bk : w.heap[L]? = some (.cells #[d.vb, d.vl, d.vi, d.vt, d.v0, d.v1] 52 (0, 0))
  rb : w.ownsRow H 94 2 d.vb d.nb (pairCells d.B d.R d.nb)
  rl : w.ownsRow H 54 1 d.vl d.nl ((List.range d.nl).map d.lv)
  ri : w.ownsRow H 104 1 d.vi d.ni ((List.range d.ni).map d.iv)
  rt : w.ownsRow H 54 1 d.vt d.nt ((List.range d.nt).map d.tv)
  r0 : w.ownsRow H 3 1 d.v0 d.nl ((List.range d.nl).map (fun i => .int .i64 (d.lm i)))
  r1 : w.ownsRow H 3 1 d.v1 d.ni ((List.range d.ni).map (fun i => .int .i64 (d.im i)))
  a1 : ∀ k, d.vl.ownBlock = some k → d.vt.ownBlock ≠ some k
  a2 : ∀ k, d.v0.ownBlock = some k → d.v1.ownBlock ≠ some k
  pr : ∀ i, i < d.nb → ProgIs w (d.B i) (d.st i) (d.Fp i)
  dc : ∀ i, i < d.nb → DocIs w (d.R i) (d.st i) (d.Fd i)
  ok : ∀ i, i < d.nb → (d.st i).Ok
  pp : ∀ i j k, i < d.nb → j < d.nb → i ≠ j → d.Fp i k → ¬ d.Fp j k
  dd : ∀ i j k, i < d.nb → j < d.nb → i ≠ j → d.Fd i k → ¬ d.Fd j k
  pd : ∀ i j k, i < d.nb → j < d.nb → d.Fp i k → ¬ d.Fd j k
  pH : ∀ i k, i < d.nb → d.Fp i k → H ≤ k
  dH : ∀ i k, i < d.nb → d.Fd i k → H ≤ k
  cl : ∀ i, i < d.nl → Full w 58 2 [.string markB, .int .i64 (d.lm i)] d.apart (d.lv i)
  ci : ∀ i, i < d.ni → Full w 106 3 [.int .i64 (d.im i), .int .i64 (d.im i), .int .i64 (d.im i)] d.apart (d.iv i)
  ct : ∀ i, i < d.nt → Full w 58 2 [.string overB, .int .i64 (-99)] d.apart (d.tv i)
theorem LawIs.mv {H : Nat} {w w' : World} {L : Nat} {d : Ls} (h : LawIs H w L d) (hb : Below w.heap.size w w') : LawIs H w' L d := by
  have ht : Turn (fun _ => False) w w' := Turn.of_below hb
  exact ⟨h.lo, ht.blk h.bk (fun h => h), owns_turn h.rb ht (fun _ _ h => h), owns_turn h.rl ht (fun _ _ h => h), owns_turn h.ri ht (fun _ _ h => h), owns_turn h.rt ht (fun _ _ h => h), owns_turn h.r0 ht (fun _ _ h => h), owns_turn h.r1 ht (fun _ _ h => h), h.a1, h.a2,
    fun i hi => (h.pr i hi).turn ht (fun _ _ h => h), fun i hi => (h.dc i hi).turn ht (fun _ _ h => h), h.ok, h.pp, h.dd, h.pd, h.pH, h.dH, fun i hi => (h.cl i hi).turn ht (fun _ _ _ _ _ h => h) (fun _ _ h => h), fun i hi => (h.ci i hi).turn ht (fun _ _ _ _ _ h => h) (fun _ _ h => h), fun i hi => (h.ct i hi).turn ht (fun _ _ _ _ _ h => h) (fun _ _ h => h)⟩
end Go.Proofs.YtjnmoddcodnadaaGreatDoor
namespace Go.Proofs.YtjnmoddcodnadaaGreatDoor
open Go.RowKit Go.Annal Go.Sort
theorem range_map_get (f : Nat → Value) (n i : Nat) (h : i < n) : ((List.range n).map f)[i]? = some (f i) := by simp [h]
/-- What is read of a row. -/
theorem owns_view {w : World} {B : Nat} {e : TypeId} {sz : Nat} {v : Value} {n : Nat} {xs : List Value} (h : w.ownsRow B e sz v n xs) : ∃ ad cap g, v = .slice ad n cap ∧ n ≤ cap ∧ (0 < n → ad = some ⟨g, 0, none⟩ ∧ B ≤ g ∧ ∃ cs, w.heap[g]? = some (.cells cs e (0, 0))) ∧ ∀ j, j < n * sz → w.cell? ⟨g, j, none⟩ = xs[j]? := by
  rcases h.2 with ⟨rfl, rfl⟩ | ⟨g, cap, cur, rfl, hb, hg, hnc, hcm, hcs, htk⟩
  · exact ⟨none, 0, 0, rfl, Nat.le_refl _, fun h => by omega, fun j hj => by omega⟩
  · refine ⟨_, cap, g, rfl, hnc, fun _ => ⟨rfl, hb, _, hg⟩, fun j hj => ?_⟩
    have h1 : n * sz ≤ cap * sz := Nat.mul_le_mul_right _ hnc
    have hjc : j < cur.size := by omega
    rw [← htk, List.getElem?_take, if_pos hj, Array.getElem?_toList, blk_cell' (o := j) hg (Array.getElem?_eq_getElem hjc), Array.getElem?_eq_getElem hjc]
set_option maxHeartbeats 4000000 in
set_option maxRecDepth 100000 in
theorem looks_any (H : Nat) (w : World) (L : Nat) (d : Ls) (h : LawIs H w L d) (hl : d.nl ≤ 100000000) (hi : d.ni ≤ 100000000) (ht : d.nt ≤ 100000000) :
    Calls Tryz.prog 18 #[.pointer (some ⟨L, 0, none⟩)] w fun r w' => r = .returned (.bool true) ∧ Below w.heap.size w w' := by
  obtain ⟨adl, cl, gl, el, cle, hal, hcl⟩ := owns_view h.rl
  obtain ⟨adi, ci, gi, ei, cie, hai, hci⟩ := owns_view h.ri
  obtain ⟨adt, ct, gt, et, cte, hat, hct⟩ := owns_view h.rt
  obtain ⟨ad0, c0, g0, e0, c0e, ha0, hc0⟩ := owns_view h.r0
  obtain ⟨ad1, c1, g1, e1, c1e, ha1, hc1⟩ := owns_view h.r1
  have hbk := h.bk
  rw [el, ei, et, e0, e1] at hbk
  have HL := h.cl
  have HI := h.ci
  have HT := h.ct
  have x1 := blk_cell' hbk (o := 1) rfl
  have x2 := blk_cell' hbk (o := 2) rfl
  have x3 := blk_cell' hbk (o := 3) rfl
  have x4 := blk_cell' hbk (o := 4) rfl
  have x5 := blk_cell' hbk (o := 5) rfl
  have HH : Hid (type_of% h) := h
  clear h hbk el ei et e0 e1
  go_enter Tryz.func18, Tryz.ntmps18
  go_wp2
  go_loopw [3, 4] (fun iv _ wr => ∃ k : Nat, k ≤ d.nl ∧ iv = .int .i64 k ∧ Grew w wr) (fun iv _ _ => d.nl - (intOf iv).toNat)
  case atStart => exact ⟨0, Nat.zero_le _, rfl, Grew.refl _⟩
  case round =>
    obtain ⟨i, hi', rfl, hg⟩ := hrel
    have y1 := hg.cell' x1
    by_cases hlt : i < d.nl
    · have hlt' : (i : Int) < (d.nl : Int) := by omega
      have hi0 : (0 : Int) ≤ (i : Int) := by omega
      obtain ⟨rfl, _, _⟩ := hal (by omega)
      obtain ⟨rfl, _, _⟩ := ha0 (by omega)
      have y4 := hg.cell' x4
      have z1 := hg.cell' ((hcl i (by omega)).trans (range_map_get _ _ _ hlt))
      have z4 := hg.cell' ((hc0 i (by omega)).trans (range_map_get _ _ _ hlt))
      obtain ⟨ad, n, cap, ev, hn, hnc, hfull⟩ := HL i hlt
      rw [ev] at z1
      go_wp2
      rename World => wo
      go_loopw [4] (fun kv w2 => ∃ k : Nat, k ≤ n ∧ kv = .int .i64 k ∧ Grew wo w2) (fun kv _ => n - (intOf kv).toNat)
      case atStart => exact ⟨0, Nat.zero_le _, rfl, Grew.refl _⟩
      case round =>
        obtain ⟨k, hk, rfl, hg2⟩ := hrel
        have u1 := hg2.cell' y1
        have v1 := hg2.cell' z1
        by_cases hkn : k < n
        · have hkn' : (k : Int) < (n : Int) := by omega
          have hk0 : (0 : Int) ≤ (k : Int) := by omega
          have u4 := hg2.cell' y4
          have v4 := hg2.cell' z4
          obtain ⟨gg, cs, fz, rfl, _, _, hcc⟩ := hfull (by omega)
          have q0 : wr.cell? ⟨gg, k * 2, none⟩ = some (.string ⟨#[109, 97, 114, 107]⟩) := hg2.cell' (hg.cell' (hcc k hkn 0 (by omega)))
          have q1 : wr.cell? ⟨gg, k * 2 + 1, none⟩ = some (.int .i64 (d.lm i)) := hg2.cell' (hg.cell' (hcc k hkn 1 (by omega)))
          have v1' : wr.cell? ⟨gl, i, none⟩ = some (.slice (some ⟨gg, 0, none⟩) n cap) := v1
          have v4' : wr.cell? ⟨g0, i, none⟩ = some (.int .i64 (d.lm i)) := v4
          clear v1 v4 hcc hcl hci hct hc0 hc1
          go_wp2
          go_quiet (fail)
          go_wp2
          exact ⟨⟨k + 1, by omega, by go_num, hg2.drewN _⟩, by simp [intOf]; omega⟩
        · have hkn' : ¬ (k : Int) < (n : Int) := by omega
          go_wp2
          exact ⟨⟨i + 1, by omega, by go_num, hg.trans hg2⟩, by simp [intOf]; omega⟩
    · have hlt' : ¬ (i : Int) < (d.nl : Int) := by omega
      clear hcl hc0 HL
      go_wp2
      rename World => wa
      have hga := hg
      clear hg
      go_loopw [5, 6, 7] (fun iv _ _ wr => ∃ k : Nat, k ≤ d.ni ∧ iv = .int .i64 k ∧ Grew w wr) (fun iv _ _ _ => d.ni - (intOf iv).toNat)
      case atStart => exact ⟨0, Nat.zero_le _, rfl, hga⟩
      case round =>
        clear hga
        obtain ⟨i, hi', rfl, hg⟩ := hrel
        have y2 := hg.cell' x2
        by_cases hlt : i < d.ni
        · have hlt' : (i : Int) < (d.ni : Int) := by omega
          have hi0 : (0 : Int) ≤ (i : Int) := by omega
          obtain ⟨rfl, _, _⟩ := hai (by omega)
          obtain ⟨rfl, _, _⟩ := ha1 (by omega)
          have y5 := hg.cell' x5
          have z2 := hg.cell' ((hci i (by omega)).trans (range_map_get _ _ _ hlt))
          have z5 : wr.cell? ⟨g1, i, none⟩ = some (.int .i64 (d.im i)) := hg.cell' ((hc1 i (by omega)).trans (range_map_get _ _ _ hlt))
          obtain ⟨ad, n, cap, ev, hn, hnc, hfull⟩ := HI i hlt
          rw [ev] at z2
          clear hci hc1 hct
          go_wp2
          rename World => wo
          go_loopw [7] (fun kv w2 => ∃ k : Nat, k ≤ n ∧ kv = .int .i64 k ∧ Grew wo w2) (fun kv _ => n - (intOf kv).toNat)
          case atStart => exact ⟨0, Nat.zero_le _, rfl, Grew.refl _⟩
          case round =>
            obtain ⟨k, hk, rfl, hg2⟩ := hrel
            have u2 := hg2.cell' y2
            have v2 := hg2.cell' z2
            by_cases hkn : k < n
            · have hkn' : (k : Int) < (n : Int) := by omega
              have hk0 : (0 : Int) ≤ (k : Int) := by omega
              obtain ⟨gg, cs, fz, rfl, _, _, hcc⟩ := hfull (by omega)
              have q0 : wr.cell? ⟨gg, k * 3, none⟩ = some (.int .i64 (d.im i)) := hg2.cell' (hg.cell' (hcc k hkn 0 (by omega)))
              have q1 : wr.cell? ⟨gg, k * 3 + 1, none⟩ = some (.int .i64 (d.im i)) := hg2.cell' (hg.cell' (hcc k hkn 1 (by omega)))
              have q2 : wr.cell? ⟨gg, k * 3 + 2, none⟩ = some (.int .i64 (d.im i)) := hg2.cell' (hg.cell' (hcc k hkn 2 (by omega)))
              have v2' : wr.cell? ⟨gi, i, none⟩ = some (.slice (some ⟨gg, 0, none⟩) n cap) := v2
              clear v2 hcc
              go_wp2
              exact ⟨⟨k + 1, by omega, by go_num, hg2⟩, by simp [intOf]; omega⟩
            · have hkn' : ¬ (k : Int) < (n : Int) := by omega
              go_wp2
              exact ⟨⟨i + 1, by omega, by go_num, hg.trans hg2⟩, by simp [intOf]; omega⟩
        · have hlt' : ¬ (i : Int) < (d.ni : Int) := by omega
          clear hci hc1 HI
          go_wp2
          rename World => wb
          have hgb := hg
          clear hg
          go_loopw [8, 9] (fun iv _ wr => ∃ k : Nat, k ≤ d.nt ∧ iv = .int .i64 k ∧ Grew w wr) (fun iv _ _ => d.nt - (intOf iv).toNat)
          case atStart => exact ⟨0, Nat.zero_le _, rfl, hgb⟩
          case round =>
            clear hgb
            obtain ⟨i, hi', rfl, hg⟩ := hrel
            have y3 := hg.cell' x3
            by_cases hlt : i < d.nt
            · have hlt' : (i : Int) < (d.nt : Int) := by omega
              have hi0 : (0 : Int) ≤ (i : Int) := by omega
              obtain ⟨rfl, _, _⟩ := hat (by omega)
              have z3 := hg.cell' ((hct i (by omega)).trans (range_map_get _ _ _ hlt))
              obtain ⟨ad, n, cap, ev, hn, hnc, hfull⟩ := HT i hlt
              rw [ev] at z3
              clear hct
              go_wp2
              rename World => wo
              go_loopw [9] (fun kv w2 => ∃ k : Nat, k ≤ n ∧ kv = .int .i64 k ∧ Grew wo w2) (fun kv _ => n - (intOf kv).toNat)
              case atStart => exact ⟨0, Nat.zero_le _, rfl, Grew.refl _⟩
              case round =>
                obtain ⟨k, hk, rfl, hg2⟩ := hrel
                have u3 := hg2.cell' y3
                have v3 := hg2.cell' z3
                by_cases hkn : k < n
                · have hkn' : (k : Int) < (n : Int) := by omega
                  have hk0 : (0 : Int) ≤ (k : Int) := by omega
                  obtain ⟨gg, cs, fz, rfl, _, _, hcc⟩ := hfull (by omega)
                  have q0 : wr.cell? ⟨gg, k * 2, none⟩ = some (.string ⟨#[111, 118, 101, 114]⟩) := hg2.cell' (hg.cell' (hcc k hkn 0 (by omega)))
                  have q1 : wr.cell? ⟨gg, k * 2 + 1, none⟩ = some (.int .i64 (-99)) := hg2.cell' (hg.cell' (hcc k hkn 1 (by omega)))
                  have v3' : wr.cell? ⟨gt, i, none⟩ = some (.slice (some ⟨gg, 0, none⟩) n cap) := v3
                  clear v3 hcc
                  go_wp2
                  have hgd : Grew wr wr.drew := (Grew.refl _).drew
                  go_region_with (go_at_call 46; refine Calls.mono (over_any _) ?_; rintro e w5 ⟨rfl, hg5⟩; have h5 := hgd.trans hg5; have u3' := h5.cell' u3; have q0' := h5.cell' q0; have q1' := h5.cell' q1; have v3'' := h5.cell' v3')
                  all_goals go_wp2
                  all_goals exact ⟨⟨k + 1, by omega, by go_num, hg2.trans h5⟩, by simp [intOf]; omega⟩
                · have hkn' : ¬ (k : Int) < (n : Int) := by omega
                  go_wp2
                  exact ⟨⟨i + 1, by omega, by go_num, hg.trans hg2⟩, by simp [intOf]; omega⟩
            · have hlt' : ¬ (i : Int) < (d.nt : Int) := by omega
              go_wp2
              go_ret
              exact ⟨rfl, hg.below⟩
end Go.Proofs.YtjnmoddcodnadaaGreatDoor
namespace Go.Annal
open Go.RowKit Go.Proofs
section
variable {P : Program} (w : World)
/-- append, and what was there still reads as it did. -/
theorem run_append_keep (t ty : TypeId) (base : Nat) (e : TypeId) (i : TypeInfo) (z : Value) (size bytes : Nat) (ht : P.underlying t = some (.slice e)) (hi : P.info? e = some i) (hz : i.zero = some z)
    (hsize : i.size = size) (hby : i.bytes = bytes) (hzs : z.cells.size = size) (hsz : 0 < size)
    (v : Value) (n : Nat) (xs : List Value) (hown : w.ownsRow base e size v n xs)
    (ad : Addr) (m c : Nat) (news : List Value) (hl : news.length = m * size) (hnews : ∀ j u, news[j]? = some u → w.cell? (ad.add j) = some u) (h1 : ∀ u ∈ news, u.oneCell' = true)
    (hm : 0 < m) (h63 : n + m ≤ maxLen) (hbytes : (n + m) * bytes ≤ 140737488355328) (hbase : base ≤ w.heap.size) (H : Nat) (hH : w.heap.size = H) :
    ∃ g cap w', (Builtin.append_ #[t, t] ty #[v, .slice (some ad) m c]).run P w = .ok (.slice (some ⟨g, 0, none⟩) (n + m) cap) w' ∧
      w'.ownsRow base e size (.slice (some ⟨g, 0, none⟩) (n + m) cap) (n + m) (xs ++ news) ∧ w.grownBy w' v.ownBlock ∧ (v.ownBlock = some g ∨ g = H) ∧ g < w'.heap.size ∧ w'.ownsRow base e size v n xs ∧ (v.ownBlock = some g ∨ ∀ k, k < w.heap.size → w'.heap[k]? = w.heap[k]?) := by
  obtain ⟨g, cap, w', hr, h2, h3, h4, h5⟩ := run_append_lies (P := P) w t ty base e i z size bytes ht hi hz hsize hby hzs hsz v n xs hown ad m c news hl hnews h1 hm h63 hbytes hbase H hH
  refine ⟨g, cap, w', hr, h2, h3, h4, h5, ?_⟩
  have hsmall : n + m ≤ 9223372036854775807 := by simp only [maxLen] at h63; omega
  rcases hown.2 with ⟨rfl, rfl⟩ | ⟨g0, cap0, cur, rfl, hbg, hg, hnc, hcm, hcs, htake⟩
  · exact ⟨⟨hown.1, .inl ⟨rfl, rfl⟩⟩, .inr (fun k hk => h3.block k hk (by simp [Value.ownBlock]))⟩
  · by_cases hroom : n + m ≤ cap0
    · have hfit : n * i.size + news.length ≤ cur.size := by rw [hl, hcs, hsize, ← Nat.add_mul]; exact Nat.mul_le_mul_right _ hroom
      have hr' := run_append_room (P := P) w t ty e i ht hi g0 n cap0 cur hg ad m c news (by rw [hsize]; exact hl) hnews h1 hroom hfit
      rw [hr] at hr'
      injection hr' with e1 e2
      refine ⟨⟨hown.1, .inr ⟨g0, cap0, _, rfl, hbg, by rw [e2]; exact setRow_heap w g0 cur _ e _ hg, hnc, hcm, ?_, ?_⟩⟩, .inl (by injection e1 with e1; have := congrArg (Option.map Addr.block) e1; simpa [Value.ownBlock] using this.symm)⟩
      · simp only [List.size_toArray, List.length_append, List.length_take, List.length_drop, Array.length_toList]
        omega
      · rw [hsize]
        show List.take (n * size) (List.take (n * size) cur.toList ++ news ++ List.drop (n * size + news.length) cur.toList) = xs
        rw [htake, List.append_assoc]
        have := hown.1
        rw [← this]
        exact List.take_left
    · have holds : ∀ j u, xs[j]? = some u → w.cell? ((⟨g0, 0, none⟩ : Addr).add j) = some u := hown.cells (g := g0) rfl
      have hr' := run_append_grow (P := P) w t ty e i z ht hi hz ⟨g0, 0, none⟩ n cap0 xs (by rw [hsize]; exact hown.1) holds ad m c news (by rw [hsize]; exact hl) hnews (by omega) (by omega) (by rw [hby]; exact growslice_fits (by omega) hbytes)
      rw [hr] at hr'
      injection hr' with _ e2
      have hk : ∀ k, k < w.heap.size → w'.heap[k]? = w.heap[k]? := fun k hk => by rw [e2]; exact heap_alloc_old w.drew _ hk
      exact ⟨⟨hown.1, .inr ⟨g0, cap0, cur, rfl, hbg, (hk g0 (blk_lt hg)).trans hg, hnc, hcm, hcs, htake⟩⟩, .inr hk⟩
theorem wp_append_keep {o : Oper} {a : Act} {K : Act → World → Prop} {Q : Exit → Act → World → Prop} (s x : Operand) (t : TypeId)
    (ho : o.op = .call { callee := .builtin .append, args := #[s, x], argTypes := #[t, t] })
    (base : Nat) (e : TypeId) (i : TypeInfo) (z : Value) (size bytes : Nat) (ht : P.underlying t = some (.slice e)) (hi : P.info? e = some i) (hz : i.zero = some z)
    (hsize : i.size = size) (hby : i.bytes = bytes) (hzs : z.cells.size = size) (hsz : 0 < size)
    (v : Value) (n : Nat) (xs : List Value) (hs : a.eval s = v) (hown : w.ownsRow base e size v n xs)
    (ad : Addr) (m c : Nat) (news : List Value) (hx : a.eval x = .slice (some ad) m c) (hl : news.length = m * size) (hnews : ∀ j u, news[j]? = some u → w.cell? (ad.add j) = some u) (h1 : ∀ u ∈ news, u.oneCell' = true)
    (hm : 0 < m) (h63 : n + m ≤ maxLen) (hbytes : (n + m) * bytes ≤ 140737488355328) (hbase : base ≤ w.heap.size) (H : Nat) (hH : w.heap.size = H)
    (h : ∀ g cap w', w'.ownsRow base e size (.slice (some ⟨g, 0, none⟩) (n + m) cap) (n + m) (xs ++ news) → w.grownBy w' v.ownBlock → (v.ownBlock = some g ∨ g = H) → g < w'.heap.size → w'.ownsRow base e size v n xs → (v.ownBlock = some g ∨ ∀ k, k < w.heap.size → w'.heap[k]? = w.heap[k]?) → K (a.put o.dst (.slice (some ⟨g, 0, none⟩) (n + m) cap)) w') : o.wp P a w K Q := by
  obtain ⟨g, cap, w', hr, h2, h3, h4, h5, h6, h7⟩ := run_append_keep (P := P) w t o.type base e i z size bytes ht hi hz hsize hby hzs hsz v n xs hown ad m c news hl hnews h1 hm h63 hbytes hbase H hH
  unfold Oper.wp execOp
  simp only [ho, resolve, invoke, builtin, Sem.run_bind, Sem.run_pure, Result.andThen_ok, List.map_toArray, List.map_cons, List.map_nil, hs, hx, hr]
  exact h g cap w' h2 h3 h4 h5 h6 h7
theorem wpList_append_keep {ops : Array Oper} {rest : List Oper} {o : Oper} {a : Act} {Q : Exit → Act → World → Prop} (hgd : o.guard = none) (s x : Operand) (t : TypeId)
    (ho : o.op = .call { callee := .builtin .append, args := #[s, x], argTypes := #[t, t] })
    (base : Nat) (e : TypeId) (i : TypeInfo) (z : Value) (size bytes : Nat) (ht : P.underlying t = some (.slice e)) (hi : P.info? e = some i) (hz : i.zero = some z)
    (hsize : i.size = size) (hby : i.bytes = bytes) (hzs : z.cells.size = size) (hsz : 0 < size)
    (v : Value) (n : Nat) (xs : List Value) (hs : a.eval s = v) (hown : w.ownsRow base e size v n xs)
    (ad : Addr) (m c : Nat) (news : List Value) (hx : a.eval x = .slice (some ad) m c) (hl : news.length = m * size) (hnews : ∀ j u, news[j]? = some u → w.cell? (ad.add j) = some u) (h1 : ∀ u ∈ news, u.oneCell' = true)
    (hm : 0 < m) (h63 : n + m ≤ maxLen) (hbytes : (n + m) * bytes ≤ 140737488355328) (hbase : base ≤ w.heap.size) (H : Nat) (hH : w.heap.size = H)
    (h : ∀ g cap w', w'.ownsRow base e size (.slice (some ⟨g, 0, none⟩) (n + m) cap) (n + m) (xs ++ news) → w.grownBy w' v.ownBlock → (v.ownBlock = some g ∨ g = H) → g < w'.heap.size → w'.ownsRow base e size v n xs → (v.ownBlock = some g ∨ ∀ k, k < w.heap.size → w'.heap[k]? = w.heap[k]?) → wpList P ops Q rest (a.put o.dst (.slice (some ⟨g, 0, none⟩) (n + m) cap)) w') : wpList P ops Q (o :: rest) a w :=
  wpList_plain hgd fun _ hK => wp_append_keep w s x t ho base e i z size bytes ht hi hz hsize hby hzs hsz v n xs hs hown ad m c news hx hl hnews h1 hm h63 hbytes hbase H hH fun g cap w' h2 h3 h4 h5 h6 h7 => hK _ _ (h g cap w' h2 h3 h4 h5 h6 h7)
end
end Go.Annal
namespace Go.Annal
open Go.RowKit Go.Proofs Go.Proofs.YtjnmoddcodnadaaGreatDoor
theorem cells2_put (A R : List Ln) (y : Ln) (a : ByteArray) (m : Int) : ((cells2 (A ++ y :: R)).set (A.length * 2) (.string a)).set (A.length * 2 + 1) (.int .i64 m) = cells2 (A ++ (a, m) :: R) := by
  rw [cells2_append, cells2_append]
  have hl := cells2_len A
  rw [List.set_append_right _ _ (by omega), List.set_append_right _ _ (by omega)]
  rw [show A.length * 2 - (cells2 A).length = 0 by omega, show A.length * 2 + 1 - (cells2 A).length = 1 by omega]
  rfl
theorem cells2_rep (x : Ln) (k m : Nat) : cells2 (List.replicate k x) ++ cells2 (List.replicate m x) = cells2 (List.replicate (k + m) x) := by rw [← cells2_append, List.replicate_append_replicate]
end Go.Annal
namespace Go.Proofs.YtjnmoddcodnadaaGreatDoor
open Go.RowKit Go.Annal Go.Sort
theorem Tryz.infoLines : (Tryz.prog.info? 54).map (fun i => (i.zero, i.size, i.bytes)) = some (some (.slice none 0 0), 1, 24) := by kernel_rfl
theorem Tryz.infoInt : (Tryz.prog.info? 3).map (fun i => (i.zero, i.size, i.bytes)) = some (some (.int .i64 0), 1, 8) := by kernel_rfl
/-- A list that reads as one owns it. -/
theorem full_of_owns {w : World} {X : Nat} {e : TypeId} {sz n : Nat} {c : List Value} {v : Value} {xs : List Value} (h : w.ownsRow X e sz v n xs) (hn : n ≤ 2000000000) (hx : ∀ k, k < n → ∀ o, o < sz → xs[k * sz + o]? = c[o]?) : Full w e sz c (fun g => X ≤ g) v := by
  obtain ⟨ad, cap, g, rfl, h1, h2, h3⟩ := owns_view h
  refine ⟨ad, n, cap, rfl, hn, h1, fun hp => ?_⟩
  obtain ⟨rfl, hb, cs, hc⟩ := h2 hp
  refine ⟨g, cs, _, rfl, hc, hb, fun k hk o ho => ?_⟩
  have h4 : (k + 1) * sz ≤ n * sz := Nat.mul_le_mul_right _ hk
  rw [Nat.succ_mul] at h4
  rw [h3 _ (by omega), hx k hk o ho]
/-- One that was made before reads on, behind an append that writes the same. -/
theorem full_append {w w' : World} {X : Nat} {e : TypeId} {sz n m g cap : Nat} {c : List Value} {v y : Value} (hy : Full w e sz c (fun g => X ≤ g) y) (hlen : ∀ ad k cp, y = .slice ad k cp → k ≤ n + m) (hg : w.grownBy w' v.ownBlock) (hk : v.ownBlock = some g ∨ ∀ k, k < w.heap.size → w'.heap[k]? = w.heap[k]?) (hu : Full w' e sz c (fun g => X ≤ g) (.slice (some ⟨g, 0, none⟩) (n + m) cap)) : Full w' e sz c (fun g => X ≤ g) y := by
  obtain ⟨ad, k, cp, rfl, h1, h2, h3⟩ := hy
  refine ⟨ad, k, cp, rfl, h1, h2, fun hp => ?_⟩
  obtain ⟨gy, cs, fz, rfl, hc, hX, hcc⟩ := h3 hp
  have hle := hlen _ _ _ rfl
  by_cases hs : w'.heap[gy]? = w.heap[gy]?
  · exact ⟨gy, cs, fz, rfl, hs.trans hc, hX, fun j hj o ho => (World.cell?_of_block (w := w) (a := ⟨gy, j * sz + o, none⟩) hs).trans (hcc j hj o ho)⟩
  · have hg1 : v.ownBlock = some gy := by
      by_cases e : v.ownBlock = some gy
      · exact e
      · exact absurd (hg.block gy (blk_lt hc) (fun h => e h.symm)) hs
    have hgg : g = gy := by
      rcases hk with h | h
      · rw [h] at hg1; exact Option.some.inj hg1
      · exact absurd (h gy (blk_lt hc)) hs
    subst hgg
    obtain ⟨ad', k', cp', e', _, _, q3⟩ := hu
    injection e' with e1 e2 e3
    subst e2
    obtain ⟨g', cs', fz', e4, hc', hX', hcc'⟩ := q3 (by omega)
    rw [e4] at e1
    injection e1 with e1
    injection e1 with e1
    subst e1
    exact ⟨g, cs', fz', rfl, hc', hX', fun j hj o ho => hcc' j (by omega) o ho⟩
theorem rep_get (x : Ln) (n k o : Nat) (hk : k < n) (ho : o < 2) : (cells2 (List.replicate n x))[k * 2 + o]? = [Value.string x.1, .int .i64 x.2][o]? := by
  rw [cells2_get _ k (by simpa using hk) o ho]
  simp [enc2]
/-- What the owner of a list has made of it: four lists that read alike. -/
structure Owned (w w' : World) (X : Nat) (e : TypeId) (sz : Nat) (c : List Value) (v v1 v2 v3 : Value) : Prop where
  f0 : Full w' e sz c (fun g => X ≤ g) v
  f1 : Full w' e sz c (fun g => X ≤ g) v1
  f2 : Full w' e sz c (fun g => X ≤ g) v2
  f3 : Full w' e sz c (fun g => X ≤ g) v3
set_option maxHeartbeats 4000000 in
set_option maxRecDepth 100000 in
/-- ownLines, ahead of any invariant: what it makes of the memory. -/
theorem ownLines_any (H X L nl : Nat) (v vb vl vi vt v0 v1 : Value) (l : List Ln) (ls ms : List Value) (w : World) (hbk : w.heap[L]? = some (.cells #[vb, vl, vi, vt, v0, v1] 52 (0, 0)))
    (hrl : w.ownsRow H 54 1 vl nl ls) (hr0 : w.ownsRow H 3 1 v0 nl ms) (hv : w.ownsRow X 58 2 v l.length (cells2 l)) (hn : l.length ≤ 1000) (hnl : nl ≤ 100000000) (hXw : X ≤ w.heap.size) (hHw : H ≤ w.heap.size) :
    Calls Tryz.prog 88 #[.pointer (some ⟨L, 0, none⟩), v] w fun r w' => r = .returned (.tuple #[]) ∧ ∃ u1 u2 u3 vl' v0',
      w'.heap[L]? = some (.cells #[vb, vl', vi, vt, v0', v1] 52 (0, 0)) ∧ w'.ownsRow H 54 1 vl' (nl + 4) (ls ++ [v, u1, u2, u3]) ∧ w'.ownsRow H 3 1 v0' (nl + 4) (ms ++ [.int .i64 (-1 - (nl : Int)), .int .i64 (-1 - (nl : Int)), .int .i64 (-1 - (nl : Int)), .int .i64 (-1 - (nl : Int))]) ∧
      Owned w w' X 58 2 [.string markB, .int .i64 (-1 - (nl : Int))] v u1 u2 u3 ∧ Turn (fun b => v.ownBlock = some b ∨ vl.ownBlock = some b ∨ b = L ∨ v0.ownBlock = some b) w w' ∧ (∀ b, vl'.ownBlock = some b → vl.ownBlock = some b ∨ w.heap.size ≤ b) ∧ (∀ b, v0'.ownBlock = some b → v0.ownBlock = some b ∨ w.heap.size ≤ b) := by
  obtain ⟨ad0, c0, g0, e0, c0e, ha0, hc0⟩ := owns_view hr0
  obtain ⟨adv, cv, gv, ev, cve, hav, hcv⟩ := owns_view hv
  subst e0 ev
  have x1 := blk_cell' hbk (o := 1) rfl
  have x4 := blk_cell' hbk (o := 4) rfl
  obtain ⟨m, hm⟩ : ∃ m : Int, m = -1 - (nl : Int) := ⟨_, rfl⟩
  obtain ⟨W0, hW0⟩ : ∃ W0, W0 = w.alloc (.cells #[.string ⟨#[109, 97, 114, 107]⟩, .int .i64 m] 58) := ⟨_, rfl⟩
  have hT0 : Turn (fun _ => False) w W0 := by rw [hW0]; exact (Turn.refl _ w).alloc _
  have hb0 : W0.heap[w.heap.size]? = some (.cells #[.string ⟨#[109, 97, 114, 107]⟩, .int .i64 m] 58 (0, 0)) := by rw [hW0]; exact heap_alloc_new w _
  have hv0 := owns_turn hv hT0 (fun _ _ h => h)
  have hvb : (Value.slice adv l.length cv).ownBlock ≠ some w.heap.size := fun e => by have := (hv.lt _ e).2; omega
  have hvk : ∀ {k : Nat} {cs : Array Value} {t : TypeId} {fz : Nat × Nat}, w.heap[k]? = some (.cells cs t fz) → t ≠ 58 → (Value.slice adv l.length cv).ownBlock ≠ some k := by
    intro k cs t fz hc ht e
    obtain ⟨c', fz', hc'⟩ := owns_kind hv k e
    rw [hc] at hc'; simp at hc'; exact ht hc'.2.1
  have hvL : ¬ (Value.slice adv l.length cv).ownBlock = some L := hvk hbk (by decide)
  have hvl : ∀ g, vl.ownBlock = some g → ¬ (Value.slice adv l.length cv).ownBlock = some g := fun g e => by obtain ⟨c, fz, hc⟩ := owns_kind hrl g e; exact hvk hc (by decide)
  have hlL : vl.ownBlock ≠ some L := fun e => by
    obtain ⟨c, fz, hc⟩ := owns_kind hrl L e
    rw [hbk] at hc; simp at hc
  have hvm : ∀ g, (Value.slice ad0 nl c0).ownBlock = some g → ¬ (Value.slice adv l.length cv).ownBlock = some g := fun g e => by obtain ⟨c, fz, hc⟩ := owns_kind hr0 g e; exact hvk hc (by decide)
  have HV : Hid (type_of% hv0) := hv0
  have HB0 : Hid (type_of% hb0) := hb0
  have HW0 : Hid (type_of% hW0) := hW0
  have HM : Hid (type_of% hm) := hm
  clear hv0 hb0 hv hm hW0 hvk
  go_enter Tryz.func88, Tryz.ntmps88
  go_wp2
  rw [← HM.out, ← HW0.out]
  go_loopw [6] (fun iv wr => ∃ k : Nat, k ≤ l.length ∧ iv = .int .i64 k ∧ Hid (wr.ownsRow X 58 2 (.slice adv l.length cv) l.length (cells2 (List.replicate k (⟨#[109, 97, 114, 107]⟩, m) ++ l.drop k))) ∧ Hid (Turn (fun b => (Value.slice adv l.length cv).ownBlock = some b) W0 wr)) (fun iv _ => l.length - (intOf iv).toNat)
  case atStart => exact ⟨0, Nat.zero_le _, rfl, HV, Turn.refl _ _⟩
  case round =>
    obtain ⟨k, hk, rfl, hown, hT⟩ := hrel
    have hb1 := hT.out.blk HB0.out hvb
    have b0 := blk_cell' hb1 (o := 0) rfl
    have b1 := blk_cell' hb1 (o := 1) rfl
    by_cases hlt : k < l.length
    · have hlt' : (k : Int) < (l.length : Int) := by omega
      have hk0 : (0 : Int) ≤ (k : Int) := by omega
      obtain ⟨rfl, _, _⟩ := hav (by omega)
      have hdr : l.drop k = l[k] :: l.drop (k + 1) := List.drop_eq_getElem_cons hlt
      have ho := hown.out
      rw [hdr] at ho
      have hst := ((ho.stored (k * 2) (.string ⟨#[109, 97, 114, 107]⟩)).1.stored (k * 2 + 1) (.int .i64 m)).1
      have hcs := cells2_put (List.replicate k (⟨#[109, 97, 114, 107]⟩, m)) (l.drop (k + 1)) l[k] ⟨#[109, 97, 114, 107]⟩ m
      rw [List.length_replicate] at hcs
      rw [hcs] at hst
      have f0 := ho.frozenAt (k * 2)
      have f1 := ho.frozenAt (k * 2 + 1)
      have hk2 : k * 2 < (cells2 (List.replicate k (⟨#[109, 97, 114, 107]⟩, m) ++ l[k] :: l.drop (k + 1))).length := by rw [cells2_len]; simp; omega
      have hk3 : k * 2 + 1 < (cells2 (List.replicate k (⟨#[109, 97, 114, 107]⟩, m) ++ l[k] :: l.drop (k + 1))).length := by rw [cells2_len]; simp; omega
      have y0 := (ho.cellAt (k * 2) (by omega)).trans (List.getElem?_eq_getElem hk2)
      have y1 := (ho.cellAt (k * 2 + 1) (by omega)).trans (List.getElem?_eq_getElem hk3)
      have HS : Hid (type_of% hst) := hst
      generalize (cells2 (List.replicate k (⟨#[109, 97, 114, 107]⟩, m) ++ l[k] :: l.drop (k + 1)))[k * 2] = o0 at y0
      generalize (cells2 (List.replicate k (⟨#[109, 97, 114, 107]⟩, m) ++ l[k] :: l.drop (k + 1)))[k * 2 + 1] = o1 at y1
      have hdrop : List.replicate k ((⟨#[109, 97, 114, 107]⟩ : ByteArray), m) ++ (⟨#[109, 97, 114, 107]⟩, m) :: l.drop (k + 1) = List.replicate (k + 1) (⟨#[109, 97, 114, 107]⟩, m) ++ l.drop (k + 1) := by rw [List.replicate_succ', List.append_assoc]; rfl
      have HDR : Hid (type_of% hdrop) := hdrop
      clear hst hcs ho hdr hk2 hk3 hown hdrop
      go_wp2
      exact ⟨⟨k + 1, by omega, by go_num, by show Hid _; rw [← HDR.out]; exact HS.out, show Hid _ from (hT.out.set ⟨gv, k * 2, none⟩ _ (fun _ => rfl)).set ⟨gv, k * 2 + 1, none⟩ _ (fun _ => rfl)⟩, by simp [intOf]; omega⟩
    · have hlt' : ¬ (k : Int) < (l.length : Int) := by omega
      obtain rfl : k = l.length := by omega
      have ho := hown.out
      rw [List.drop_length, List.append_nil] at ho
      obtain ⟨i0, hi, hz0, hz1, hz2⟩ := info_parts Tryz.infoLine
      have hwx : w.heap.size < wr.heap.size := blk_lt hb1
      have hTw : Turn (fun b => (Value.slice adv l.length cv).ownBlock = some b) w wr := (hT0.mono (fun _ _ h => h.elim)).trans hT.out
      obtain ⟨i5, hi5, hz05, hz15, hz25⟩ := info_parts Tryz.infoLines
      clear hcv hc0 hown hav ha0
      go_wp2_with (first
        | (at_builtin; refine wpList_append_keep _ rfl (.tmp 29) (.tmp 31) 54 rfl X 58 i0 _ 2 24 Tryz.underlying54 hi hz0 hz1 hz2 rfl (by decide) (.slice adv l.length cv) l.length _ rfl (ho.alloc _) ⟨wr.heap.size, 0, none⟩ 1 1 [.string ⟨#[109, 97, 114, 107]⟩, .int .i64 m] rfl rfl (World.news_of_block (cs := #[.string ⟨#[109, 97, 114, 107]⟩, .int .i64 m]) (heap_alloc_new wr _)) (by simp [Value.oneCell']) (by decide) (by unfold maxLen; omega) (by omega) (by simp; omega) (wr.heap.size + 1) (by simp) ?_; intro g1 cap1 w1 hown1 hg1 hat1 hlt1 hkeep1 hch1; have hbx1 : w1.heap[w.heap.size]? = some (.cells #[.string ⟨#[109, 97, 114, 107]⟩, .int .i64 m] 58 (0, 0)) := (hg1.block _ (by simp; omega) (Ne.symm hvb)).trans (Grew.blk ((Grew.refl wr).alloc _) hb1); have hsz1 : w.heap.size < w1.heap.size := blk_lt hbx1; have bb10 := blk_cell' hbx1 (o := 0) rfl; have bb11 := blk_cell' hbx1 (o := 1) rfl; have T1 := Turn.of_grown (hTw.alloc (.cells #[.string ⟨#[109, 97, 114, 107]⟩, .int .i64 m] 58)) hg1 (fun k hk _ => hk))
        | (at_builtin; refine wpList_append_keep _ rfl (.tmp 33) (.tmp 36) 54 rfl X 58 i0 _ 2 24 Tryz.underlying54 hi hz0 hz1 hz2 rfl (by decide) (.slice adv l.length cv) l.length _ rfl (hkeep1.alloc _) ⟨w1.heap.size, 0, none⟩ 2 2 [.string ⟨#[109, 97, 114, 107]⟩, .int .i64 m, .string ⟨#[109, 97, 114, 107]⟩, .int .i64 m] rfl rfl (World.news_of_block (cs := #[.string ⟨#[109, 97, 114, 107]⟩, .int .i64 m, .string ⟨#[109, 97, 114, 107]⟩, .int .i64 m]) (heap_alloc_new w1 _)) (by simp [Value.oneCell']) (by decide) (by unfold maxLen; omega) (by omega) (by simp; omega) (w1.heap.size + 1) (by simp) ?_; intro g2 cap2 w2 hown2 hg2 hat2 hlt2 hkeep2 hch2; have hbx2 : w2.heap[w.heap.size]? = some (.cells #[.string ⟨#[109, 97, 114, 107]⟩, .int .i64 m] 58 (0, 0)) := (hg2.block _ (by simp; omega) (Ne.symm hvb)).trans (Grew.blk ((Grew.refl w1).alloc _) hbx1); have hsz2 : w.heap.size < w2.heap.size := blk_lt hbx2; have bb20 := blk_cell' hbx2 (o := 0) rfl; have bb21 := blk_cell' hbx2 (o := 1) rfl; have T2 := Turn.of_grown (T1.alloc (.cells #[.string ⟨#[109, 97, 114, 107]⟩, .int .i64 m, .string ⟨#[109, 97, 114, 107]⟩, .int .i64 m] 58)) hg2 (fun k hk _ => hk))
        | (at_builtin; refine wpList_append_keep _ rfl (.tmp 38) (.tmp 42) 54 rfl X 58 i0 _ 2 24 Tryz.underlying54 hi hz0 hz1 hz2 rfl (by decide) (.slice adv l.length cv) l.length _ rfl (hkeep2.alloc _) ⟨w2.heap.size, 0, none⟩ 3 3 [.string ⟨#[109, 97, 114, 107]⟩, .int .i64 m, .string ⟨#[109, 97, 114, 107]⟩, .int .i64 m, .string ⟨#[109, 97, 114, 107]⟩, .int .i64 m] rfl rfl (World.news_of_block (cs := #[.string ⟨#[109, 97, 114, 107]⟩, .int .i64 m, .string ⟨#[109, 97, 114, 107]⟩, .int .i64 m, .string ⟨#[109, 97, 114, 107]⟩, .int .i64 m]) (heap_alloc_new w2 _)) (by simp [Value.oneCell']) (by decide) (by unfold maxLen; omega) (by omega) (by simp; omega) (w2.heap.size + 1) (by simp) ?_; intro g3 cap3 w3 hown3 hg3 hat3 hlt3 hkeep3 hch3; have hbx3 : w3.heap[w.heap.size]? = some (.cells #[.string ⟨#[109, 97, 114, 107]⟩, .int .i64 m] 58 (0, 0)) := (hg3.block _ (by simp; omega) (Ne.symm hvb)).trans (Grew.blk ((Grew.refl w2).alloc _) hbx2); have hsz3 : w.heap.size < w3.heap.size := blk_lt hbx3; have bb30 := blk_cell' hbx3 (o := 0) rfl; have bb31 := blk_cell' hbx3 (o := 1) rfl; have T3 := Turn.of_grown (T2.alloc (.cells #[.string ⟨#[109, 97, 114, 107]⟩, .int .i64 m, .string ⟨#[109, 97, 114, 107]⟩, .int .i64 m, .string ⟨#[109, 97, 114, 107]⟩, .int .i64 m] 58)) hg3 (fun k hk _ => hk); have hL3 := T3.blk hbk hvL; have hrl3 := owns_turn hrl T3 hvl; have cL31 := blk_cell' hL3 (o := 1) rfl; have fL31 := blk_free hL3 1)
        | (at_builtin; refine wpList_append_lies _ rfl (.tmp 48) (.tmp 53) 48 rfl H 54 i5 _ 1 24 Tryz.underlying48 hi5 hz05 hz15 hz25 rfl (by decide) vl nl ls rfl (hrl3.alloc _) ⟨w3.heap.size, 0, none⟩ 4 4 [.slice adv l.length cv, .slice (some ⟨g1, 0, none⟩) (l.length + 1) cap1, .slice (some ⟨g2, 0, none⟩) (l.length + 2) cap2, .slice (some ⟨g3, 0, none⟩) (l.length + 3) cap3] rfl rfl (World.news_of_block (cs := #[.slice adv l.length cv, .slice (some ⟨g1, 0, none⟩) (l.length + 1) cap1, .slice (some ⟨g2, 0, none⟩) (l.length + 2) cap2, .slice (some ⟨g3, 0, none⟩) (l.length + 3) cap3]) (heap_alloc_new w3 _)) (by simp [Value.oneCell']) (by decide) (by unfold maxLen; omega) (by omega) (by simp; omega) (w3.heap.size + 1) (by simp) ?_; intro g4 cap4 w4 hown4 hg4 hat4 hlt4; have hL4 : w4.heap[L]? = some (.cells #[vb, vl, vi, vt, .slice ad0 nl c0, v1] 52 (0, 0)) := (hg4.block _ (by simp; have := blk_lt hL3; omega) (Ne.symm hlL)).trans (Grew.blk ((Grew.refl w3).alloc _) hL3); have cL41 := blk_cell' hL4 (o := 1) rfl; have fL41 := blk_free hL4 1; have hL5 : (w4.setCell ⟨L, 1, none⟩ (.slice (some ⟨g4, 0, none⟩) (nl + 4) cap4)).heap[L]? = some (.cells #[vb, .slice (some ⟨g4, 0, none⟩) (nl + 4) cap4, vi, vt, .slice ad0 nl c0, v1] 52 (0, 0)) := blk_set hL4 1 _; have cL54 := blk_cell' hL5 (o := 4) rfl; have fL54 := blk_free hL5 4))
      have hT4 : Turn (fun b => (Value.slice adv l.length cv).ownBlock = some b ∨ vl.ownBlock = some b ∨ b = L) w (w4.setCell ⟨L, 1, none⟩ (.slice (some ⟨g4, 0, none⟩) (nl + 4) cap4)) := (Turn.of_grown ((T3.mono (fun _ _ h => .inl h)).alloc _) hg4 (fun k hk _ => .inr (.inl hk))).set _ _ (fun _ => .inr (.inr rfl))
      have hr05 := owns_turn hr0 hT4 (fun g e hs => hs.elim (fun h => hvm g e h) (fun hs => hs.elim (fun h => by
        obtain ⟨c, fz, hc⟩ := owns_kind hr0 g e
        obtain ⟨c', fz', hc'⟩ := owns_kind hrl g h
        rw [hc] at hc'; simp at hc') (fun h => by
        obtain ⟨c, fz, hc⟩ := owns_kind hr0 g e
        rw [h, hbk] at hc; simp at hc)))
      have hown5 : (w4.setCell ⟨L, 1, none⟩ (.slice (some ⟨g4, 0, none⟩) (nl + 4) cap4)).ownsRow H 54 1 (.slice (some ⟨g4, 0, none⟩) (nl + 4) cap4) (nl + 4) (ls ++ [.slice adv l.length cv, .slice (some ⟨g1, 0, none⟩) (l.length + 1) cap1, .slice (some ⟨g2, 0, none⟩) (l.length + 2) cap2, .slice (some ⟨g3, 0, none⟩) (l.length + 3) cap3]) := ownsRow_setCell_other hown4 (a := ⟨L, 1, none⟩) (fun e => by
        obtain ⟨c, fz, hc⟩ := owns_kind hown4 L e
        rw [hL4] at hc; simp at hc) _
      have hHs : H ≤ (w4.setCell ⟨L, 1, none⟩ (.slice (some ⟨g4, 0, none⟩) (nl + 4) cap4)).heap.size := Nat.le_trans hHw hT4.size
      obtain ⟨W5, hW5⟩ : ∃ W5, w4.setCell ⟨L, 1, none⟩ (.slice (some ⟨g4, 0, none⟩) (nl + 4) cap4) = W5 := ⟨_, rfl⟩
      rw [hW5] at hT4 hr05 hown5 hL5 cL54 fL54 hHs ⊢
      obtain ⟨i6, hi6, hz06, hz16, hz26⟩ := info_parts Tryz.infoInt
      have hb6 : (W5.alloc (.cells #[.int .i64 m, .int .i64 m, .int .i64 m, .int .i64 m] 3)).drew.heap[W5.heap.size]? = some (.cells #[.int .i64 m, .int .i64 m, .int .i64 m, .int .i64 m] 3 (0, 0)) := heap_alloc_new W5 _
      have hmL : (Value.slice ad0 nl c0).ownBlock ≠ some L := fun e => by
        obtain ⟨c, fz, hc⟩ := owns_kind hr05 L e
        rw [hL5] at hc; simp at hc
      have hLlt := blk_lt hL5
      go_region_law ((refine step_append_lies _ (by rfl) _ _ _ (by rfl) H 3 i6 _ 1 8 Tryz.underlying40 hi6 hz06 hz16 hz26 rfl (by decide) (.slice ad0 nl c0) nl ms (by rfl) (by exact (hr05.alloc _).drew) ⟨W5.heap.size, 0, none⟩ 4 4 [.int .i64 m, .int .i64 m, .int .i64 m, .int .i64 m] (by rfl) rfl (World.news_of_block (cs := #[.int .i64 m, .int .i64 m, .int .i64 m, .int .i64 m]) hb6) (by simp [Value.oneCell']) (by decide) (by unfold maxLen; omega) (by omega) (by simp; omega) (W5.heap.size + 1) (by simp) ?_; intro g6 cap6 w6 hown6 hg6 hat6 hlt6; have hL6 : w6.heap[L]? = some (.cells #[vb, .slice (some ⟨g4, 0, none⟩) (nl + 4) cap4, vi, vt, .slice ad0 nl c0, v1] 52 (0, 0)) := (hg6.block _ (by simp; omega) (Ne.symm hmL)).trans (Grew.blk ((Grew.refl W5).alloc _).drew hL5); have cL64 := blk_cell' hL6 (o := 4) rfl; have fL64 := blk_free hL6 4))
      all_goals go_wp2
      all_goals go_end0
      all_goals
        have hsz5 := hT4.size
        have E : ∀ k : Nat, cells2 (List.replicate l.length ((⟨#[109, 97, 114, 107]⟩ : ByteArray), m)) ++ cells2 (List.replicate k (⟨#[109, 97, 114, 107]⟩, m)) = cells2 (List.replicate (l.length + k) (⟨#[109, 97, 114, 107]⟩, m)) := fun k => cells2_rep _ _ _
        have F1 : Full w1 58 2 [.string markB, .int .i64 m] (fun g => X ≤ g) (.slice (some ⟨g1, 0, none⟩) (l.length + 1) cap1) := full_of_owns hown1 (by omega) (fun k hk o ho => by rw [show ([Value.string ⟨#[109, 97, 114, 107]⟩, .int .i64 m] : List Value) = cells2 (List.replicate 1 ((⟨#[109, 97, 114, 107]⟩ : ByteArray), m)) from rfl, E]; exact rep_get _ _ _ _ hk ho)
        have F2 : Full w2 58 2 [.string markB, .int .i64 m] (fun g => X ≤ g) (.slice (some ⟨g2, 0, none⟩) (l.length + 2) cap2) := full_of_owns hown2 (by omega) (fun k hk o ho => by rw [show ([Value.string ⟨#[109, 97, 114, 107]⟩, .int .i64 m, .string ⟨#[109, 97, 114, 107]⟩, .int .i64 m] : List Value) = cells2 (List.replicate 2 ((⟨#[109, 97, 114, 107]⟩ : ByteArray), m)) from rfl, E]; exact rep_get _ _ _ _ hk ho)
        have F3 : Full w3 58 2 [.string markB, .int .i64 m] (fun g => X ≤ g) (.slice (some ⟨g3, 0, none⟩) (l.length + 3) cap3) := full_of_owns hown3 (by omega) (fun k hk o ho => by rw [show ([Value.string ⟨#[109, 97, 114, 107]⟩, .int .i64 m, .string ⟨#[109, 97, 114, 107]⟩, .int .i64 m, .string ⟨#[109, 97, 114, 107]⟩, .int .i64 m] : List Value) = cells2 (List.replicate 3 ((⟨#[109, 97, 114, 107]⟩ : ByteArray), m)) from rfl, E]; exact rep_get _ _ _ _ hk ho)
        have F0 : Full w3 58 2 [.string markB, .int .i64 m] (fun g => X ≤ g) (.slice adv l.length cv) := full_of_owns hkeep3 (by omega) (fun k hk o ho => rep_get _ _ _ _ hk ho)
        have A : ∀ (W : World) (o : Obj) (y : Value), Full W 58 2 [.string markB, .int .i64 m] (fun g => X ≤ g) y → Full (W.alloc o) 58 2 [.string markB, .int .i64 m] (fun g => X ≤ g) y := fun W o y h => h.turn (S := fun _ => False) ((Turn.refl _ W).alloc o) (fun _ _ _ _ _ h => h) (fun _ _ h => h)
        have F1' := full_append (A _ _ _ F1) (fun ad k cp e => by injection e; omega) hg2 hch2 F2
        have F1'' := full_append (A _ _ _ F1') (fun ad k cp e => by injection e; omega) hg3 hch3 F3
        have F2' := full_append (A _ _ _ F2) (fun ad k cp e => by injection e; omega) hg3 hch3 F3
        have T7 : Turn (fun b => vl.ownBlock = some b ∨ b = L ∨ (Value.slice ad0 nl c0).ownBlock = some b) w3 (w6.setCell ⟨L, 4, none⟩ (.slice (some ⟨g6, 0, none⟩) (nl + 4) cap6)) := by
          have T5 : Turn (fun b => vl.ownBlock = some b ∨ b = L ∨ (Value.slice ad0 nl c0).ownBlock = some b) w3 W5 := by
            rw [← hW5]
            exact (Turn.of_grown ((Turn.refl _ w3).alloc _) hg4 (fun k hk _ => .inl hk)).set _ _ (fun _ => .inr (.inl rfl))
          exact (Turn.of_grown (T5.alloc _).drew hg6 (fun k hk _ => .inr (.inr hk))).set _ _ (fun _ => .inr (.inl rfl))
        have hr03 := owns_turn hr0 T3 hvm
        have K : ∀ (g : Nat) (cs : Array Value) (fz : Nat × Nat), w3.heap[g]? = some (.cells cs 58 fz) → X ≤ g → ¬ (vl.ownBlock = some g ∨ g = L ∨ (Value.slice ad0 nl c0).ownBlock = some g) := by
          rintro g cs fz hc _ (h | h | h)
          · obtain ⟨c', fz', hc'⟩ := owns_kind hrl3 g h
            rw [hc] at hc'; simp at hc'
          · rw [h, hL3] at hc; simp at hc
          · obtain ⟨c', fz', hc'⟩ := owns_kind hr03 g h
            rw [hc] at hc'; simp at hc'
        have hm := HM.out
        rw [← hm]
        refine ⟨rfl, _, _, _, .slice (some ⟨g4, 0, none⟩) (nl + 4) cap4, .slice (some ⟨g6, 0, none⟩) (nl + 4) cap6, blk_set hL6 4 _, ?_, ?_, ⟨F0.turn T7 K (fun _ _ h => h), F1''.turn T7 K (fun _ _ h => h), F2'.turn T7 K (fun _ _ h => h), F3.turn T7 K (fun _ _ h => h)⟩, ?_, ?_, ?_⟩
        · have q1 : w6.ownsRow H 54 1 (.slice (some ⟨g4, 0, none⟩) (nl + 4) cap4) (nl + 4) _ := ((hown5.alloc _).drew).kept hg6 (.inr (fun e => by
            obtain ⟨c, fz, hc⟩ := owns_kind hown5 g4 rfl
            obtain ⟨c', fz', hc'⟩ := owns_kind hr05 g4 e.symm
            rw [hc] at hc'; simp at hc'))
          exact ownsRow_setCell_other q1 (a := ⟨L, 4, none⟩) (fun e => by
            obtain ⟨c, fz, hc⟩ := owns_kind q1 L e
            rw [hL6] at hc; simp at hc) _
        · exact ownsRow_setCell_other hown6 (a := ⟨L, 4, none⟩) (fun e => by
            obtain ⟨c, fz, hc⟩ := owns_kind hown6 L e
            rw [hL6] at hc; simp at hc) _
        · exact (T3.mono (fun _ _ h => .inl h)).trans (T7.mono (fun _ _ h => .inr h))
        · intro b e
          have : g4 = b := Option.some.inj e
          subst this
          rcases hat4 with h | h
          · exact .inl h
          · exact .inr (by have := T3.size; omega)
        · intro b e
          have : g6 = b := Option.some.inj e
          subst this
          rcases hat6 with h | h
          · exact .inl h
          · exact .inr (by omega)
end Go.Proofs.YtjnmoddcodnadaaGreatDoor
namespace Go.Annal
open Go.RowKit Go.Proofs Go.Proofs.YtjnmoddcodnadaaGreatDoor
theorem cells3_set (A R : List It) (y : It) (a b c : Int) : (((cells3 (A ++ y :: R)).set (A.length * 3) (.int .i64 a)).set (A.length * 3 + 1) (.int .i64 b)).set (A.length * 3 + 2) (.int .i64 c) = cells3 (A ++ (a, b, c) :: R) := by
  rw [cells3_append, cells3_append]
  have hl := cells3_len A
  rw [List.set_append_right _ _ (by omega), List.set_append_right _ _ (by omega), List.set_append_right _ _ (by omega)]
  rw [show A.length * 3 - (cells3 A).length = 0 by omega, show A.length * 3 + 1 - (cells3 A).length = 1 by omega, show A.length * 3 + 2 - (cells3 A).length = 2 by omega]
  rfl
theorem cells3_rep (x : It) (k m : Nat) : cells3 (List.replicate k x) ++ cells3 (List.replicate m x) = cells3 (List.replicate (k + m) x) := by rw [← cells3_append, List.replicate_append_replicate]
end Go.Annal
namespace Go.Proofs.YtjnmoddcodnadaaGreatDoor
open Go.RowKit Go.Annal Go.Sort
theorem Tryz.infoItems : (Tryz.prog.info? 104).map (fun i => (i.zero, i.size, i.bytes)) = some (some (.slice none 0 0), 1, 24) := by kernel_rfl
theorem rep_get3 (x : It) (n k o : Nat) (hk : k < n) (ho : o < 3) : (cells3 (List.replicate n x))[k * 3 + o]? = [Value.int .i64 x.1, .int .i64 x.2.1, .int .i64 x.2.2][o]? := by
  rw [cells3_get _ k (by simpa using hk) o ho]
  simp [enc3]
set_option maxHeartbeats 4000000 in
set_option maxRecDepth 100000 in
/-- ownItems, ahead of any invariant: what it makes of the memory. -/
theorem ownItems_any (H X L nl : Nat) (v vb vl vi vt v0 v1 : Value) (l : List It) (ls ms : List Value) (w : World) (hbk : w.heap[L]? = some (.cells #[vb, vi, vl, vt, v1, v0] 52 (0, 0)))
    (hrl : w.ownsRow H 104 1 vl nl ls) (hr0 : w.ownsRow H 3 1 v0 nl ms) (hv : w.ownsRow X 106 3 v l.length (cells3 l)) (hn : l.length ≤ 1000) (hnl : nl ≤ 100000000) (hXw : X ≤ w.heap.size) (hHw : H ≤ w.heap.size) :
    Calls Tryz.prog 92 #[.pointer (some ⟨L, 0, none⟩), v] w fun r w' => r = .returned (.tuple #[]) ∧ ∃ u1 u2 u3 vl' v0',
      w'.heap[L]? = some (.cells #[vb, vi, vl', vt, v1, v0'] 52 (0, 0)) ∧ w'.ownsRow H 104 1 vl' (nl + 4) (ls ++ [v, u1, u2, u3]) ∧ w'.ownsRow H 3 1 v0' (nl + 4) (ms ++ [.int .i64 (-1 - (nl : Int)), .int .i64 (-1 - (nl : Int)), .int .i64 (-1 - (nl : Int)), .int .i64 (-1 - (nl : Int))]) ∧
      Owned w w' X 106 3 [.int .i64 (-1 - (nl : Int)), .int .i64 (-1 - (nl : Int)), .int .i64 (-1 - (nl : Int))] v u1 u2 u3 ∧ Turn (fun b => v.ownBlock = some b ∨ vl.ownBlock = some b ∨ b = L ∨ v0.ownBlock = some b) w w' ∧ (∀ b, vl'.ownBlock = some b → vl.ownBlock = some b ∨ w.heap.size ≤ b) ∧ (∀ b, v0'.ownBlock = some b → v0.ownBlock = some b ∨ w.heap.size ≤ b) := by
  obtain ⟨ad0, c0, g0, e0, c0e, ha0, hc0⟩ := owns_view hr0
  obtain ⟨adv, cv, gv, ev, cve, hav, hcv⟩ := owns_view hv
  subst e0 ev
  have x1 := blk_cell' hbk (o := 2) rfl
  have x4 := blk_cell' hbk (o := 5) rfl
  obtain ⟨m, hm⟩ : ∃ m : Int, m = -1 - (nl : Int) := ⟨_, rfl⟩
  obtain ⟨W0, hW0⟩ : ∃ W0, W0 = w.alloc (.cells #[.int .i64 m, .int .i64 m, .int .i64 m] 106) := ⟨_, rfl⟩
  have hT0 : Turn (fun _ => False) w W0 := by rw [hW0]; exact (Turn.refl _ w).alloc _
  have hb0 : W0.heap[w.heap.size]? = some (.cells #[.int .i64 m, .int .i64 m, .int .i64 m] 106 (0, 0)) := by rw [hW0]; exact heap_alloc_new w _
  have hv0 := owns_turn hv hT0 (fun _ _ h => h)
  have hvb : (Value.slice adv l.length cv).ownBlock ≠ some w.heap.size := fun e => by have := (hv.lt _ e).2; omega
  have hvk : ∀ {k : Nat} {cs : Array Value} {t : TypeId} {fz : Nat × Nat}, w.heap[k]? = some (.cells cs t fz) → t ≠ 106 → (Value.slice adv l.length cv).ownBlock ≠ some k := by
    intro k cs t fz hc ht e
    obtain ⟨c', fz', hc'⟩ := owns_kind hv k e
    rw [hc] at hc'; simp at hc'; exact ht hc'.2.1
  have hvL : ¬ (Value.slice adv l.length cv).ownBlock = some L := hvk hbk (by decide)
  have hvl : ∀ g, vl.ownBlock = some g → ¬ (Value.slice adv l.length cv).ownBlock = some g := fun g e => by obtain ⟨c, fz, hc⟩ := owns_kind hrl g e; exact hvk hc (by decide)
  have hlL : vl.ownBlock ≠ some L := fun e => by
    obtain ⟨c, fz, hc⟩ := owns_kind hrl L e
    rw [hbk] at hc; simp at hc
  have hvm : ∀ g, (Value.slice ad0 nl c0).ownBlock = some g → ¬ (Value.slice adv l.length cv).ownBlock = some g := fun g e => by obtain ⟨c, fz, hc⟩ := owns_kind hr0 g e; exact hvk hc (by decide)
  have HV : Hid (type_of% hv0) := hv0
  have HB0 : Hid (type_of% hb0) := hb0
  have HW0 : Hid (type_of% hW0) := hW0
  have HM : Hid (type_of% hm) := hm
  clear hv0 hb0 hv hm hW0 hvk
  go_enter Tryz.func92, Tryz.ntmps92
  go_wp2
  rw [← HM.out, ← HW0.out]
  go_loopw [6] (fun iv wr => ∃ k : Nat, k ≤ l.length ∧ iv = .int .i64 k ∧ Hid (wr.ownsRow X 106 3 (.slice adv l.length cv) l.length (cells3 (List.replicate k (m, m, m) ++ l.drop k))) ∧ Hid (Turn (fun b => (Value.slice adv l.length cv).ownBlock = some b) W0 wr)) (fun iv _ => l.length - (intOf iv).toNat)
  case atStart => exact ⟨0, Nat.zero_le _, rfl, HV, Turn.refl _ _⟩
  case round =>
    obtain ⟨k, hk, rfl, hown, hT⟩ := hrel
    have hb1 := hT.out.blk HB0.out hvb
    have b0 := blk_cell' hb1 (o := 0) rfl
    have b1 := blk_cell' hb1 (o := 1) rfl
    have b2 := blk_cell' hb1 (o := 2) rfl
    by_cases hlt : k < l.length
    · have hlt' : (k : Int) < (l.length : Int) := by omega
      have hk0 : (0 : Int) ≤ (k : Int) := by omega
      obtain ⟨rfl, _, _⟩ := hav (by omega)
      have hdr : l.drop k = l[k] :: l.drop (k + 1) := List.drop_eq_getElem_cons hlt
      have ho := hown.out
      rw [hdr] at ho
      have hst := (((ho.stored (k * 3) (.int .i64 m)).1.stored (k * 3 + 1) (.int .i64 m)).1.stored (k * 3 + 2) (.int .i64 m)).1
      have hcs := cells3_set (List.replicate k (m, m, m)) (l.drop (k + 1)) l[k] m m m
      rw [List.length_replicate] at hcs
      rw [hcs] at hst
      have f0 := ho.frozenAt (k * 3)
      have f1 := ho.frozenAt (k * 3 + 1)
      have f2 := ho.frozenAt (k * 3 + 2)
      have hk2 : ∀ o, o < 3 → k * 3 + o < (cells3 (List.replicate k (m, m, m) ++ l[k] :: l.drop (k + 1))).length := fun o ho => by rw [cells3_len]; simp; omega
      obtain ⟨o0, y0⟩ : ∃ v, wr.cell? ⟨gv, k * 3, none⟩ = some v := ⟨_, (ho.cellAt (k * 3) (by omega)).trans (List.getElem?_eq_getElem (hk2 0 (by omega)))⟩
      obtain ⟨o1, y1⟩ : ∃ v, wr.cell? ⟨gv, k * 3 + 1, none⟩ = some v := ⟨_, (ho.cellAt (k * 3 + 1) (by omega)).trans (List.getElem?_eq_getElem (hk2 1 (by omega)))⟩
      obtain ⟨o2, y2⟩ : ∃ v, wr.cell? ⟨gv, k * 3 + 2, none⟩ = some v := ⟨_, (ho.cellAt (k * 3 + 2) (by omega)).trans (List.getElem?_eq_getElem (hk2 2 (by omega)))⟩
      have HS : Hid (type_of% hst) := hst
      have hdrop : List.replicate k (m, m, m) ++ (m, m, m) :: l.drop (k + 1) = List.replicate (k + 1) (m, m, m) ++ l.drop (k + 1) := by rw [List.replicate_succ', List.append_assoc]; rfl
      have HDR : Hid (type_of% hdrop) := hdrop
      clear hst hcs ho hdr hk2 hown hdrop
      go_wp2
      exact ⟨⟨k + 1, by omega, by go_num, by show Hid _; rw [← HDR.out]; exact HS.out, show Hid _ from ((hT.out.set ⟨gv, k * 3, none⟩ _ (fun _ => rfl)).set ⟨gv, k * 3 + 1, none⟩ _ (fun _ => rfl)).set ⟨gv, k * 3 + 2, none⟩ _ (fun _ => rfl)⟩, by simp [intOf]; omega⟩
    · have hlt' : ¬ (k : Int) < (l.length : Int) := by omega
      obtain rfl : k = l.length := by omega
      have ho := hown.out
      rw [List.drop_length, List.append_nil] at ho
      obtain ⟨i0, hi, hz0, hz1, hz2⟩ := info_parts Tryz.infoItem
      have hwx : w.heap.size < wr.heap.size := blk_lt hb1
      have hTw : Turn (fun b => (Value.slice adv l.length cv).ownBlock = some b) w wr := (hT0.mono (fun _ _ h => h.elim)).trans hT.out
      obtain ⟨i5, hi5, hz05, hz15, hz25⟩ := info_parts Tryz.infoItems
      clear hcv hc0 hown hav ha0
      go_wp2_with (first
        | (at_builtin; refine wpList_append_keep _ rfl (.tmp 31) (.tmp 33) 104 rfl X 106 i0 _ 3 24 Tryz.underlying104 hi hz0 hz1 hz2 rfl (by decide) (.slice adv l.length cv) l.length _ rfl (ho.alloc _) ⟨wr.heap.size, 0, none⟩ 1 1 [.int .i64 m, .int .i64 m, .int .i64 m] rfl rfl (World.news_of_block (cs := #[.int .i64 m, .int .i64 m, .int .i64 m]) (heap_alloc_new wr _)) (by simp [Value.oneCell']) (by decide) (by unfold maxLen; omega) (by omega) (by simp; omega) (wr.heap.size + 1) (by simp) ?_; intro g1 cap1 w1 hown1 hg1 hat1 hlt1 hkeep1 hch1; have hbx1 : w1.heap[w.heap.size]? = some (.cells #[.int .i64 m, .int .i64 m, .int .i64 m] 106 (0, 0)) := (hg1.block _ (by simp; omega) (Ne.symm hvb)).trans (Grew.blk ((Grew.refl wr).alloc _) hb1); have hsz1 : w.heap.size < w1.heap.size := blk_lt hbx1; have bb10 := blk_cell' hbx1 (o := 0) rfl; have bb11 := blk_cell' hbx1 (o := 1) rfl; have bb12 := blk_cell' hbx1 (o := 2) rfl; have T1 := Turn.of_grown (hTw.alloc (.cells #[.int .i64 m, .int .i64 m, .int .i64 m] 106)) hg1 (fun k hk _ => hk))
        | (at_builtin; refine wpList_append_keep _ rfl (.tmp 35) (.tmp 38) 104 rfl X 106 i0 _ 3 24 Tryz.underlying104 hi hz0 hz1 hz2 rfl (by decide) (.slice adv l.length cv) l.length _ rfl (hkeep1.alloc _) ⟨w1.heap.size, 0, none⟩ 2 2 [.int .i64 m, .int .i64 m, .int .i64 m, .int .i64 m, .int .i64 m, .int .i64 m] rfl rfl (World.news_of_block (cs := #[.int .i64 m, .int .i64 m, .int .i64 m, .int .i64 m, .int .i64 m, .int .i64 m]) (heap_alloc_new w1 _)) (by simp [Value.oneCell']) (by decide) (by unfold maxLen; omega) (by omega) (by simp; omega) (w1.heap.size + 1) (by simp) ?_; intro g2 cap2 w2 hown2 hg2 hat2 hlt2 hkeep2 hch2; have hbx2 : w2.heap[w.heap.size]? = some (.cells #[.int .i64 m, .int .i64 m, .int .i64 m] 106 (0, 0)) := (hg2.block _ (by simp; omega) (Ne.symm hvb)).trans (Grew.blk ((Grew.refl w1).alloc _) hbx1); have hsz2 : w.heap.size < w2.heap.size := blk_lt hbx2; have bb20 := blk_cell' hbx2 (o := 0) rfl; have bb21 := blk_cell' hbx2 (o := 1) rfl; have bb22 := blk_cell' hbx2 (o := 2) rfl; have T2 := Turn.of_grown (T1.alloc (.cells #[.int .i64 m, .int .i64 m, .int .i64 m, .int .i64 m, .int .i64 m, .int .i64 m] 106)) hg2 (fun k hk _ => hk))
        | (at_builtin; refine wpList_append_keep _ rfl (.tmp 40) (.tmp 44) 104 rfl X 106 i0 _ 3 24 Tryz.underlying104 hi hz0 hz1 hz2 rfl (by decide) (.slice adv l.length cv) l.length _ rfl (hkeep2.alloc _) ⟨w2.heap.size, 0, none⟩ 3 3 [.int .i64 m, .int .i64 m, .int .i64 m, .int .i64 m, .int .i64 m, .int .i64 m, .int .i64 m, .int .i64 m, .int .i64 m] rfl rfl (World.news_of_block (cs := #[.int .i64 m, .int .i64 m, .int .i64 m, .int .i64 m, .int .i64 m, .int .i64 m, .int .i64 m, .int .i64 m, .int .i64 m]) (heap_alloc_new w2 _)) (by simp [Value.oneCell']) (by decide) (by unfold maxLen; omega) (by omega) (by simp; omega) (w2.heap.size + 1) (by simp) ?_; intro g3 cap3 w3 hown3 hg3 hat3 hlt3 hkeep3 hch3; have hbx3 : w3.heap[w.heap.size]? = some (.cells #[.int .i64 m, .int .i64 m, .int .i64 m] 106 (0, 0)) := (hg3.block _ (by simp; omega) (Ne.symm hvb)).trans (Grew.blk ((Grew.refl w2).alloc _) hbx2); have hsz3 : w.heap.size < w3.heap.size := blk_lt hbx3; have bb30 := blk_cell' hbx3 (o := 0) rfl; have bb31 := blk_cell' hbx3 (o := 1) rfl; have bb32 := blk_cell' hbx3 (o := 2) rfl; have T3 := Turn.of_grown (T2.alloc (.cells #[.int .i64 m, .int .i64 m, .int .i64 m, .int .i64 m, .int .i64 m, .int .i64 m, .int .i64 m, .int .i64 m, .int .i64 m] 106)) hg3 (fun k hk _ => hk); have hL3 := T3.blk hbk hvL; have hrl3 := owns_turn hrl T3 hvl; have cL31 := blk_cell' hL3 (o := 2) rfl; have fL31 := blk_free hL3 2)
        | (at_builtin; refine wpList_append_lies _ rfl (.tmp 50) (.tmp 55) 49 rfl H 104 i5 _ 1 24 Tryz.underlying49 hi5 hz05 hz15 hz25 rfl (by decide) vl nl ls rfl (hrl3.alloc _) ⟨w3.heap.size, 0, none⟩ 4 4 [.slice adv l.length cv, .slice (some ⟨g1, 0, none⟩) (l.length + 1) cap1, .slice (some ⟨g2, 0, none⟩) (l.length + 2) cap2, .slice (some ⟨g3, 0, none⟩) (l.length + 3) cap3] rfl rfl (World.news_of_block (cs := #[.slice adv l.length cv, .slice (some ⟨g1, 0, none⟩) (l.length + 1) cap1, .slice (some ⟨g2, 0, none⟩) (l.length + 2) cap2, .slice (some ⟨g3, 0, none⟩) (l.length + 3) cap3]) (heap_alloc_new w3 _)) (by simp [Value.oneCell']) (by decide) (by unfold maxLen; omega) (by omega) (by simp; omega) (w3.heap.size + 1) (by simp) ?_; intro g4 cap4 w4 hown4 hg4 hat4 hlt4; have hL4 : w4.heap[L]? = some (.cells #[vb, vi, vl, vt, v1, .slice ad0 nl c0] 52 (0, 0)) := (hg4.block _ (by simp; have := blk_lt hL3; omega) (Ne.symm hlL)).trans (Grew.blk ((Grew.refl w3).alloc _) hL3); have cL41 := blk_cell' hL4 (o := 2) rfl; have fL41 := blk_free hL4 2; have hL5 : (w4.setCell ⟨L, 2, none⟩ (.slice (some ⟨g4, 0, none⟩) (nl + 4) cap4)).heap[L]? = some (.cells #[vb, vi, .slice (some ⟨g4, 0, none⟩) (nl + 4) cap4, vt, v1, .slice ad0 nl c0] 52 (0, 0)) := blk_set hL4 2 _; have cL54 := blk_cell' hL5 (o := 5) rfl; have fL54 := blk_free hL5 5))
      have hT4 : Turn (fun b => (Value.slice adv l.length cv).ownBlock = some b ∨ vl.ownBlock = some b ∨ b = L) w (w4.setCell ⟨L, 2, none⟩ (.slice (some ⟨g4, 0, none⟩) (nl + 4) cap4)) := (Turn.of_grown ((T3.mono (fun _ _ h => .inl h)).alloc _) hg4 (fun k hk _ => .inr (.inl hk))).set _ _ (fun _ => .inr (.inr rfl))
      have hr05 := owns_turn hr0 hT4 (fun g e hs => hs.elim (fun h => hvm g e h) (fun hs => hs.elim (fun h => by
        obtain ⟨c, fz, hc⟩ := owns_kind hr0 g e
        obtain ⟨c', fz', hc'⟩ := owns_kind hrl g h
        rw [hc] at hc'; simp at hc') (fun h => by
        obtain ⟨c, fz, hc⟩ := owns_kind hr0 g e
        rw [h, hbk] at hc; simp at hc)))
      have hown5 : (w4.setCell ⟨L, 2, none⟩ (.slice (some ⟨g4, 0, none⟩) (nl + 4) cap4)).ownsRow H 104 1 (.slice (some ⟨g4, 0, none⟩) (nl + 4) cap4) (nl + 4) (ls ++ [.slice adv l.length cv, .slice (some ⟨g1, 0, none⟩) (l.length + 1) cap1, .slice (some ⟨g2, 0, none⟩) (l.length + 2) cap2, .slice (some ⟨g3, 0, none⟩) (l.length + 3) cap3]) := ownsRow_setCell_other hown4 (a := ⟨L, 2, none⟩) (fun e => by
        obtain ⟨c, fz, hc⟩ := owns_kind hown4 L e
        rw [hL4] at hc; simp at hc) _
      have hHs : H ≤ (w4.setCell ⟨L, 2, none⟩ (.slice (some ⟨g4, 0, none⟩) (nl + 4) cap4)).heap.size := Nat.le_trans hHw hT4.size
      obtain ⟨W5, hW5⟩ : ∃ W5, w4.setCell ⟨L, 2, none⟩ (.slice (some ⟨g4, 0, none⟩) (nl + 4) cap4) = W5 := ⟨_, rfl⟩
      rw [hW5] at hT4 hr05 hown5 hL5 cL54 fL54 hHs ⊢
      obtain ⟨i6, hi6, hz06, hz16, hz26⟩ := info_parts Tryz.infoInt
      have hb6 : (W5.alloc (.cells #[.int .i64 m, .int .i64 m, .int .i64 m, .int .i64 m] 3)).drew.heap[W5.heap.size]? = some (.cells #[.int .i64 m, .int .i64 m, .int .i64 m, .int .i64 m] 3 (0, 0)) := heap_alloc_new W5 _
      have hmL : (Value.slice ad0 nl c0).ownBlock ≠ some L := fun e => by
        obtain ⟨c, fz, hc⟩ := owns_kind hr05 L e
        rw [hL5] at hc; simp at hc
      have hLlt := blk_lt hL5
      go_region_law ((refine step_append_lies _ (by rfl) _ _ _ (by rfl) H 3 i6 _ 1 8 Tryz.underlying40 hi6 hz06 hz16 hz26 rfl (by decide) (.slice ad0 nl c0) nl ms (by rfl) (by exact (hr05.alloc _).drew) ⟨W5.heap.size, 0, none⟩ 4 4 [.int .i64 m, .int .i64 m, .int .i64 m, .int .i64 m] (by rfl) rfl (World.news_of_block (cs := #[.int .i64 m, .int .i64 m, .int .i64 m, .int .i64 m]) hb6) (by simp [Value.oneCell']) (by decide) (by unfold maxLen; omega) (by omega) (by simp; omega) (W5.heap.size + 1) (by simp) ?_; intro g6 cap6 w6 hown6 hg6 hat6 hlt6; have hL6 : w6.heap[L]? = some (.cells #[vb, vi, .slice (some ⟨g4, 0, none⟩) (nl + 4) cap4, vt, v1, .slice ad0 nl c0] 52 (0, 0)) := (hg6.block _ (by simp; omega) (Ne.symm hmL)).trans (Grew.blk ((Grew.refl W5).alloc _).drew hL5); have cL64 := blk_cell' hL6 (o := 5) rfl; have fL64 := blk_free hL6 5))
      all_goals go_wp2
      all_goals go_end0
      all_goals
        have hsz5 := hT4.size
        have E : ∀ k : Nat, cells3 (List.replicate l.length (m, m, m)) ++ cells3 (List.replicate k (m, m, m)) = cells3 (List.replicate (l.length + k) (m, m, m)) := fun k => cells3_rep _ _ _
        have F1 : Full w1 106 3 [.int .i64 m, .int .i64 m, .int .i64 m] (fun g => X ≤ g) (.slice (some ⟨g1, 0, none⟩) (l.length + 1) cap1) := full_of_owns hown1 (by omega) (fun k hk o ho => by rw [show ([Value.int .i64 m, .int .i64 m, .int .i64 m] : List Value) = cells3 (List.replicate 1 (m, m, m)) from rfl, E]; exact rep_get3 _ _ _ _ hk ho)
        have F2 : Full w2 106 3 [.int .i64 m, .int .i64 m, .int .i64 m] (fun g => X ≤ g) (.slice (some ⟨g2, 0, none⟩) (l.length + 2) cap2) := full_of_owns hown2 (by omega) (fun k hk o ho => by rw [show ([Value.int .i64 m, .int .i64 m, .int .i64 m, .int .i64 m, .int .i64 m, .int .i64 m] : List Value) = cells3 (List.replicate 2 (m, m, m)) from rfl, E]; exact rep_get3 _ _ _ _ hk ho)
        have F3 : Full w3 106 3 [.int .i64 m, .int .i64 m, .int .i64 m] (fun g => X ≤ g) (.slice (some ⟨g3, 0, none⟩) (l.length + 3) cap3) := full_of_owns hown3 (by omega) (fun k hk o ho => by rw [show ([Value.int .i64 m, .int .i64 m, .int .i64 m, .int .i64 m, .int .i64 m, .int .i64 m, .int .i64 m, .int .i64 m, .int .i64 m] : List Value) = cells3 (List.replicate 3 (m, m, m)) from rfl, E]; exact rep_get3 _ _ _ _ hk ho)
        have F0 : Full w3 106 3 [.int .i64 m, .int .i64 m, .int .i64 m] (fun g => X ≤ g) (.slice adv l.length cv) := full_of_owns hkeep3 (by omega) (fun k hk o ho => rep_get3 _ _ _ _ hk ho)
        have A : ∀ (W : World) (o : Obj) (y : Value), Full W 106 3 [.int .i64 m, .int .i64 m, .int .i64 m] (fun g => X ≤ g) y → Full (W.alloc o) 106 3 [.int .i64 m, .int .i64 m, .int .i64 m] (fun g => X ≤ g) y := fun W o y h => h.turn (S := fun _ => False) ((Turn.refl _ W).alloc o) (fun _ _ _ _ _ h => h) (fun _ _ h => h)
        have F1' := full_append (A _ _ _ F1) (fun ad k cp e => by injection e; omega) hg2 hch2 F2
        have F1'' := full_append (A _ _ _ F1') (fun ad k cp e => by injection e; omega) hg3 hch3 F3
        have F2' := full_append (A _ _ _ F2) (fun ad k cp e => by injection e; omega) hg3 hch3 F3
        have T7 : Turn (fun b => vl.ownBlock = some b ∨ b = L ∨ (Value.slice ad0 nl c0).ownBlock = some b) w3 (w6.setCell ⟨L, 5, none⟩ (.slice (some ⟨g6, 0, none⟩) (nl + 4) cap6)) := by
          have T5 : Turn (fun b => vl.ownBlock = some b ∨ b = L ∨ (Value.slice ad0 nl c0).ownBlock = some b) w3 W5 := by
            rw [← hW5]
            exact (Turn.of_grown ((Turn.refl _ w3).alloc _) hg4 (fun k hk _ => .inl hk)).set _ _ (fun _ => .inr (.inl rfl))
          exact (Turn.of_grown (T5.alloc _).drew hg6 (fun k hk _ => .inr (.inr hk))).set _ _ (fun _ => .inr (.inl rfl))
        have hr03 := owns_turn hr0 T3 hvm
        have K : ∀ (g : Nat) (cs : Array Value) (fz : Nat × Nat), w3.heap[g]? = some (.cells cs 106 fz) → X ≤ g → ¬ (vl.ownBlock = some g ∨ g = L ∨ (Value.slice ad0 nl c0).ownBlock = some g) := by
          rintro g cs fz hc _ (h | h | h)
          · obtain ⟨c', fz', hc'⟩ := owns_kind hrl3 g h
            rw [hc] at hc'; simp at hc'
          · rw [h, hL3] at hc; simp at hc
          · obtain ⟨c', fz', hc'⟩ := owns_kind hr03 g h
            rw [hc] at hc'; simp at hc'
        have hm := HM.out
        rw [← hm]
        refine ⟨rfl, _, _, _, .slice (some ⟨g4, 0, none⟩) (nl + 4) cap4, .slice (some ⟨g6, 0, none⟩) (nl + 4) cap6, blk_set hL6 5 _, ?_, ?_, ⟨F0.turn T7 K (fun _ _ h => h), F1''.turn T7 K (fun _ _ h => h), F2'.turn T7 K (fun _ _ h => h), F3.turn T7 K (fun _ _ h => h)⟩, ?_, ?_, ?_⟩
        · have q1 : w6.ownsRow H 104 1 (.slice (some ⟨g4, 0, none⟩) (nl + 4) cap4) (nl + 4) _ := ((hown5.alloc _).drew).kept hg6 (.inr (fun e => by
            obtain ⟨c, fz, hc⟩ := owns_kind hown5 g4 rfl
            obtain ⟨c', fz', hc'⟩ := owns_kind hr05 g4 e.symm
            rw [hc] at hc'; simp at hc'))
          exact ownsRow_setCell_other q1 (a := ⟨L, 5, none⟩) (fun e => by
            obtain ⟨c, fz, hc⟩ := owns_kind q1 L e
            rw [hL6] at hc; simp at hc) _
        · exact ownsRow_setCell_other hown6 (a := ⟨L, 5, none⟩) (fun e => by
            obtain ⟨c, fz, hc⟩ := owns_kind hown6 L e
            rw [hL6] at hc; simp at hc) _
        · exact (T3.mono (fun _ _ h => .inl h)).trans (T7.mono (fun _ _ h => .inr h))
        · intro b e
          have : g4 = b := Option.some.inj e
          subst this
          rcases hat4 with h | h
          · exact .inl h
          · exact .inr (by have := T3.size; omega)
        · intro b e
          have : g6 = b := Option.some.inj e
          subst this
          rcases hat6 with h | h
          · exact .inl h
          · exact .inr (by omega)
end Go.Proofs.YtjnmoddcodnadaaGreatDoor
namespace Go.Proofs.YtjnmoddcodnadaaGreatDoor
open Go.RowKit Go.Annal Go.Sort
/-- Blocks of S that were there are of one of these types. -/
def KindIn (w : World) (S : Nat → Prop) (ts : List TypeId) : Prop := ∀ b, S b → b < w.heap.size → ∃ cs t fz, w.heap[b]? = some (.cells cs t fz) ∧ t ∈ ts
theorem KindIn.no {w : World} {S : Nat → Prop} {ts : List TypeId} (h : KindIn w S ts) {b : Nat} {cs : Array Value} {t : TypeId} {fz : Nat × Nat} (hb : w.heap[b]? = some (.cells cs t fz)) (ht : t ∉ ts) : ¬ S b := fun hs => by
  obtain ⟨cs', t', fz', hc, hm⟩ := h b hs (blk_lt hb)
  rw [hb] at hc
  injection hc with hc
  injection hc with _ hc
  exact ht (hc ▸ hm)
theorem KindIn.row {w : World} {S : Nat → Prop} {ts : List TypeId} (h : KindIn w S ts) {B : Nat} {e : TypeId} {sz n : Nat} {v : Value} {xs : List Value} (hv : w.ownsRow B e sz v n xs) (ht : e ∉ ts) : ∀ g, v.ownBlock = some g → ¬ S g := fun g hg => by
  obtain ⟨c, fz, hc⟩ := owns_kind hv g hg
  exact h.no hc ht
theorem KindIn.prog {w : World} {S : Nat → Prop} {ts : List TypeId} (h : KindIn w S ts) {B : Nat} {s : St} {Fp : Nat → Prop} (hp : ProgIs w B s Fp) (ht : ∀ t ∈ ts, ¬ progK t) : ∀ k, Fp k → ¬ S k := fun k hk => by
  obtain ⟨cs, t, fz, hc, hkk⟩ := hp.kind hk
  exact h.no hc (fun hm => ht t hm hkk)
theorem KindIn.doc {w : World} {S : Nat → Prop} {ts : List TypeId} (h : KindIn w S ts) {R : Nat} {s : St} {Fd : Nat → Prop} (hp : DocIs w R s Fd) (ht : ∀ t ∈ ts, ¬ docK t) : ∀ k, Fd k → ¬ S k := fun k hk => by
  obtain ⟨cs, t, hc, hkk⟩ := hp.kind hk
  exact h.no hc (fun hm => ht t hm hkk)
theorem LawIs.dlt {H : Nat} {w : World} {L : Nat} {d : Ls} (h : LawIs H w L d) {j k : Nat} (hj : j < d.nb) (hk : d.Fd j k) : k < w.heap.size := by
  obtain ⟨cs, t, hc, _⟩ := (h.dc j hj).kind hk
  exact blk_lt hc
theorem LawIs.plt {H : Nat} {w : World} {L : Nat} {d : Ls} (h : LawIs H w L d) {j k : Nat} (hj : j < d.nb) (hk : d.Fp j k) : k < w.heap.size := by
  obtain ⟨cs, t, _, hc, _⟩ := (h.pr j hj).kind hk
  exact blk_lt hc
def put4 {α : Type} (n : Nat) (f : Nat → α) (a b c e : α) (i : Nat) : α := if i < n then f i else if i = n then a else if i = n + 1 then b else if i = n + 2 then c else e
theorem put4_map {α β : Type} (n : Nat) (f : Nat → α) (a b c e : α) (h : α → β) : (List.range (n + 4)).map (fun i => h (put4 n f a b c e i)) = (List.range n).map (fun i => h (f i)) ++ [h a, h b, h c, h e] := by
  rw [show n + 4 = n + 1 + 1 + 1 + 1 by omega, List.range_succ, List.range_succ, List.range_succ, List.range_succ]
  simp only [List.map_append, List.append_assoc, List.map_cons, List.map_nil, List.cons_append, List.nil_append]
  congr 1
  · apply List.map_congr_left
    intro i hi
    have : i < n := by simpa using hi
    simp [put4, this]
  · simp [put4, show ¬ (n + 1 < n) by omega, show ¬ (n + 2 < n) by omega, show ¬ (n + 3 < n) by omega]
def Ls.addLines (d : Ls) (v u1 u2 u3 vl' v0' : Value) : Ls := { d with nl := d.nl + 4, lv := put4 d.nl d.lv v u1 u2 u3, lm := put4 d.nl d.lm (-1 - (d.nl : Int)) (-1 - (d.nl : Int)) (-1 - (d.nl : Int)) (-1 - (d.nl : Int)), vl := vl', v0 := v0' }
def Ls.addItems (d : Ls) (v u1 u2 u3 vi' v1' : Value) : Ls := { d with ni := d.ni + 4, iv := put4 d.ni d.iv v u1 u2 u3, im := put4 d.ni d.im (-1 - (d.ni : Int)) (-1 - (d.ni : Int)) (-1 - (d.ni : Int)) (-1 - (d.ni : Int)), vi := vi', v1 := v1' }
theorem put4_full {w : World} {e : TypeId} {sz : Nat} {P : Nat → Prop} {n : Nat} {f : Nat → Value} {g : Nat → Int} {a b c d : Value} {m : Int} (C : Int → List Value) (h : ∀ i, i < n → Full w e sz (C (g i)) P (f i)) (ha : Full w e sz (C m) P a) (hb : Full w e sz (C m) P b) (hc : Full w e sz (C m) P c) (hd : Full w e sz (C m) P d) :
    ∀ i, i < n + 4 → Full w e sz (C (put4 n g m m m m i)) P (put4 n f a b c d i) := by
  intro i hi
  unfold put4
  by_cases h1 : i < n
  · rw [if_pos h1, if_pos h1]; exact h i h1
  · rw [if_neg h1, if_neg h1]
    by_cases h2 : i = n
    · rw [if_pos h2, if_pos h2]; exact ha
    · rw [if_neg h2, if_neg h2]
      by_cases h3 : i = n + 1
      · rw [if_pos h3, if_pos h3]; exact hb
      · rw [if_neg h3, if_neg h3]
        by_cases h4 : i = n + 2
        · rw [if_pos h4, if_pos h4]; exact hc
        · rw [if_neg h4, if_neg h4]; exact hd
/-- A list of lines that came out is its owner's. -/
theorem lawOwnLines (H L : Nat) (d : Ls) (v : Value) (l : List Ln) (w0 w : World) (h : LawIs H w0 L d) (hb : Below w0.heap.size w0 w) (hv : w.ownsRow w0.heap.size 58 2 v l.length (cells2 l)) (hn : l.length ≤ 1000) (hnl : d.nl ≤ 100000000) :
    Calls Tryz.prog 88 #[.pointer (some ⟨L, 0, none⟩), v] w fun r w' => r = .returned (.tuple #[]) ∧ ∃ u1 u2 u3 vl' v0', LawIs H w' L (d.addLines v u1 u2 u3 vl' v0') ∧ Turn (fun b => H ≤ b) w w' := by
  have hw := h.mv hb
  have hbs := hb.size
  have hLt := blk_lt h.bk
  have hHw : H ≤ w.heap.size := by have := h.lo; omega
  refine (ownLines_any H w0.heap.size L d.nl v d.vb d.vl d.vi d.vt d.v0 d.v1 l _ _ w hw.bk hw.rl hw.r0 hv hn hnl hbs hHw).mono ?_
  rintro r w' ⟨rfl, u1, u2, u3, vl', v0', hL', hrl', hr0', hO, hT, hl', h0'⟩
  refine ⟨rfl, u1, u2, u3, vl', v0', ?_, ?_⟩
  · have T : Turn (fun b => v.ownBlock = some b ∨ d.vl.ownBlock = some b ∨ b = L ∨ d.v0.ownBlock = some b) w0 w' := (Turn.of_below hb).trans hT
    have hK : KindIn w0 (fun b => v.ownBlock = some b ∨ d.vl.ownBlock = some b ∨ b = L ∨ d.v0.ownBlock = some b) [54, 52, 3] := by
      rintro b (hb' | hb' | rfl | hb') hlt
      · have := (hv.lt b hb').1; omega
      · obtain ⟨c, fz, hc⟩ := owns_kind h.rl b hb'; exact ⟨c, _, fz, hc, by decide⟩
      · exact ⟨_, _, _, h.bk, by decide⟩
      · obtain ⟨c, fz, hc⟩ := owns_kind h.r0 b hb'; exact ⟨c, _, fz, hc, by decide⟩
    have hap : ∀ g, w0.heap.size ≤ g → d.apart g := fun g hg j hj hk => by
      rcases hk with hk | hk
      · have := h.dlt hj hk; omega
      · have := h.plt hj hk; omega
    have hnew : ∀ {y : Value}, Full w' 58 2 [.string markB, .int .i64 (-1 - (d.nl : Int))] (fun g => w0.heap.size ≤ g) y → Full w' 58 2 [.string markB, .int .i64 (-1 - (d.nl : Int))] d.apart y := fun hy => hy.turn (S := fun _ => False) (Turn.refl _ _) (fun _ _ _ _ _ h => h) (fun g _ hg => hap g hg)
    have hold : ∀ {c : List Value} {y : Value}, Full w0 58 2 c d.apart y → Full w' 58 2 c d.apart y := fun hy => hy.turn T (fun g cs fz hc _ => hK.no hc (by decide)) (fun _ _ h => h)
    have hltt : ∀ k, d.vt.ownBlock = some k → k < w.heap.size := fun k e => (hw.rt.lt k e).2
    have hlt1 : ∀ k, d.v1.ownBlock = some k → k < w.heap.size := fun k e => (hw.r1.lt k e).2
    refine ⟨h.lo, hL', owns_turn h.rb T (hK.row h.rb (by decide)), ?_, owns_turn h.ri T (hK.row h.ri (by decide)), owns_turn h.rt T ?_, ?_, owns_turn h.r1 T ?_, ?_, ?_, fun i hi => (h.pr i hi).turn T (hK.prog (h.pr i hi) (by decide)), fun i hi => (h.dc i hi).turn T (hK.doc (h.dc i hi) (by decide)), h.ok, h.pp, h.dd, h.pd, h.pH, h.dH, ?_, fun i hi => (h.ci i hi).turn T (fun g cs fz hc _ => hK.no hc (by decide)) (fun _ _ h => h), fun i hi => hold (h.ct i hi)⟩
    · show w'.ownsRow H _ 1 vl' (d.nl + 4) ((List.range (d.nl + 4)).map (fun i => id (put4 d.nl d.lv v u1 u2 u3 i)))
      rw [put4_map]
      exact hrl'
    · rintro g hg (e | e | e | e)
      · have := (hv.lt g e).1; have := (h.rt.lt g hg).2; omega
      · exact h.a1 g e hg
      · obtain ⟨c, fz, hc⟩ := owns_kind h.rt g hg
        rw [e, h.bk] at hc; simp at hc
      · obtain ⟨c, fz, hc⟩ := owns_kind h.rt g hg
        obtain ⟨c', fz', hc'⟩ := owns_kind h.r0 g e
        rw [hc] at hc'; simp at hc'
    · show w'.ownsRow H _ 1 v0' (d.nl + 4) ((List.range (d.nl + 4)).map (fun i => Value.int .i64 (put4 d.nl d.lm _ _ _ _ i)))
      rw [put4_map d.nl d.lm _ _ _ _ (fun x => Value.int .i64 x)]
      exact hr0'
    · rintro g hg (e | e | e | e)
      · have := (hv.lt g e).1; have := (h.r1.lt g hg).2; omega
      · obtain ⟨c, fz, hc⟩ := owns_kind h.r1 g hg
        obtain ⟨c', fz', hc'⟩ := owns_kind h.rl g e
        rw [hc] at hc'; simp at hc'
      · obtain ⟨c, fz, hc⟩ := owns_kind h.r1 g hg
        rw [e, h.bk] at hc; simp at hc
      · exact h.a2 g e hg
    · intro k hk hk'
      rcases hl' k hk with e | e
      · exact h.a1 k e hk'
      · have := hltt k hk'; omega
    · intro k hk hk'
      rcases h0' k hk with e | e
      · exact h.a2 k e hk'
      · have := hlt1 k hk'; omega
    · exact put4_full (fun x => [.string markB, .int .i64 x]) (fun i hi => hold (h.cl i hi)) (hnew hO.f0) (hnew hO.f1) (hnew hO.f2) (hnew hO.f3)
  · refine hT.mono (fun k _ hk => ?_)
    rcases hk with e | e | e | e
    · have := (hv.lt k e).1; have := h.lo; omega
    · exact (h.rl.lt k e).1
    · rw [e]; exact h.lo
    · exact (h.r0.lt k e).1
/-- A list of items that came out is its owner's. -/
theorem lawOwnItems (H L : Nat) (d : Ls) (v : Value) (l : List It) (w0 w : World) (h : LawIs H w0 L d) (hb : Below w0.heap.size w0 w) (hv : w.ownsRow w0.heap.size 106 3 v l.length (cells3 l)) (hn : l.length ≤ 1000) (hnl : d.ni ≤ 100000000) :
    Calls Tryz.prog 92 #[.pointer (some ⟨L, 0, none⟩), v] w fun r w' => r = .returned (.tuple #[]) ∧ ∃ u1 u2 u3 vl' v0', LawIs H w' L (d.addItems v u1 u2 u3 vl' v0') ∧ Turn (fun b => H ≤ b) w w' := by
  have hw := h.mv hb
  have hbs := hb.size
  have hLt := blk_lt h.bk
  have hHw : H ≤ w.heap.size := by have := h.lo; omega
  refine (ownItems_any H w0.heap.size L d.ni v d.vb d.vi d.vl d.vt d.v1 d.v0 l _ _ w hw.bk hw.ri hw.r1 hv hn hnl hbs hHw).mono ?_
  rintro r w' ⟨rfl, u1, u2, u3, vl', v0', hL', hrl', hr0', hO, hT, hl', h0'⟩
  refine ⟨rfl, u1, u2, u3, vl', v0', ?_, ?_⟩
  · have T : Turn (fun b => v.ownBlock = some b ∨ d.vi.ownBlock = some b ∨ b = L ∨ d.v1.ownBlock = some b) w0 w' := (Turn.of_below hb).trans hT
    have hK : KindIn w0 (fun b => v.ownBlock = some b ∨ d.vi.ownBlock = some b ∨ b = L ∨ d.v1.ownBlock = some b) [104, 52, 3] := by
      rintro b (hb' | hb' | rfl | hb') hlt
      · have := (hv.lt b hb').1; omega
      · obtain ⟨c, fz, hc⟩ := owns_kind h.ri b hb'; exact ⟨c, _, fz, hc, by decide⟩
      · exact ⟨_, _, _, h.bk, by decide⟩
      · obtain ⟨c, fz, hc⟩ := owns_kind h.r1 b hb'; exact ⟨c, _, fz, hc, by decide⟩
    have hap : ∀ g, w0.heap.size ≤ g → d.apart g := fun g hg j hj hk => by
      rcases hk with hk | hk
      · have := h.dlt hj hk; omega
      · have := h.plt hj hk; omega
    have hnew : ∀ {y : Value}, Full w' 106 3 [.int .i64 (-1 - (d.ni : Int)), .int .i64 (-1 - (d.ni : Int)), .int .i64 (-1 - (d.ni : Int))] (fun g => w0.heap.size ≤ g) y → Full w' 106 3 [.int .i64 (-1 - (d.ni : Int)), .int .i64 (-1 - (d.ni : Int)), .int .i64 (-1 - (d.ni : Int))] d.apart y := fun hy => hy.turn (S := fun _ => False) (Turn.refl _ _) (fun _ _ _ _ _ h => h) (fun g _ hg => hap g hg)
    have hold : ∀ {c : List Value} {y : Value}, Full w0 106 3 c d.apart y → Full w' 106 3 c d.apart y := fun hy => hy.turn T (fun g cs fz hc _ => hK.no hc (by decide)) (fun _ _ h => h)
    have hlt0 : ∀ k, d.v0.ownBlock = some k → k < w.heap.size := fun k e => (hw.r0.lt k e).2
    refine ⟨h.lo, hL', owns_turn h.rb T (hK.row h.rb (by decide)), owns_turn h.rl T (hK.row h.rl (by decide)), ?_, owns_turn h.rt T (hK.row h.rt (by decide)), owns_turn h.r0 T ?_, ?_, h.a1, ?_, fun i hi => (h.pr i hi).turn T (hK.prog (h.pr i hi) (by decide)), fun i hi => (h.dc i hi).turn T (hK.doc (h.dc i hi) (by decide)), h.ok, h.pp, h.dd, h.pd, h.pH, h.dH, fun i hi => (h.cl i hi).turn T (fun g cs fz hc _ => hK.no hc (by decide)) (fun _ _ h => h), ?_, fun i hi => (h.ct i hi).turn T (fun g cs fz hc _ => hK.no hc (by decide)) (fun _ _ h => h)⟩
    · show w'.ownsRow H _ 1 vl' (d.ni + 4) ((List.range (d.ni + 4)).map (fun i => id (put4 d.ni d.iv v u1 u2 u3 i)))
      rw [put4_map]
      exact hrl'
    · rintro g hg (e | e | e | e)
      · have := (hv.lt g e).1; have := (h.r0.lt g hg).2; omega
      · obtain ⟨c, fz, hc⟩ := owns_kind h.r0 g hg
        obtain ⟨c', fz', hc'⟩ := owns_kind h.ri g e
        rw [hc] at hc'; simp at hc'
      · obtain ⟨c, fz, hc⟩ := owns_kind h.r0 g hg
        rw [e, h.bk] at hc; simp at hc
      · exact h.a2 g hg e
    · show w'.ownsRow H _ 1 v0' (d.ni + 4) ((List.range (d.ni + 4)).map (fun i => Value.int .i64 (put4 d.ni d.im _ _ _ _ i)))
      rw [put4_map d.ni d.im _ _ _ _ (fun x => Value.int .i64 x)]
      exact hr0'
    · intro k hk hk'
      rcases h0' k hk' with e | e
      · exact h.a2 k hk e
      · have := hlt0 k hk; omega
    · exact put4_full (fun x => [.int .i64 x, .int .i64 x, .int .i64 x]) (fun i hi => hold (h.ci i hi)) (hnew hO.f0) (hnew hO.f1) (hnew hO.f2) (hnew hO.f3)
  · refine hT.mono (fun k _ hk => ?_)
    rcases hk with e | e | e | e
    · have := (hv.lt k e).1; have := h.lo; omega
    · exact (h.ri.lt k e).1
    · rw [e]; exact h.lo
    · exact (h.r1.lt k e).1
end Go.Proofs.YtjnmoddcodnadaaGreatDoor
namespace Go.Proofs.YtjnmoddcodnadaaGreatDoor
open Go.RowKit Go.Annal Go.Sort
/-- What a step leaves: more of everything, at most so much. -/
structure Ls.Grows (d d' : Ls) : Prop where
  nb : d.nb ≤ d'.nb ∧ d'.nb ≤ d.nb + 1
  nl : d'.nl ≤ d.nl + 4
  ni : d'.ni ≤ d.ni + 4
  nt : d'.nt ≤ d.nt + 1
/-- The arguments of a step, as they lie behind a call's begin. -/
structure ArgAt (W : World) (b B R : Nat) (kind kw A B' C : Int) (name : ByteArray) (lv : Value) : Prop where
  p0 : W.cell? ⟨b, 0, none⟩ = some (.pointer (some ⟨B, 0, none⟩))
  p1 : W.cell? ⟨b, 1, none⟩ = some (.pointer (some ⟨R, 0, none⟩))
  o0 : W.cell? ⟨b + 1, 0, none⟩ = some (.int .i64 kind)
  o1 : W.cell? ⟨b + 1, 1, none⟩ = some (.int .i64 kw)
  o2 : W.cell? ⟨b + 1, 2, none⟩ = some (.string name)
  o3 : W.cell? ⟨b + 1, 3, none⟩ = some (.int .i64 A)
  o4 : W.cell? ⟨b + 1, 4, none⟩ = some (.int .i64 B')
  o5 : W.cell? ⟨b + 1, 5, none⟩ = some (.int .i64 C)
  o6 : W.cell? ⟨b + 1, 6, none⟩ = some lv
theorem ArgAt.mv {W W' : World} {b B R : Nat} {kind kw A B' C : Int} {name : ByteArray} {lv : Value} (h : ArgAt W b B R kind kw A B' C name lv) (hb : Below W.heap.size W W') : ArgAt W' b B R kind kw A B' C name lv :=
  ⟨cell_later hb h.p0, cell_later hb h.p1, cell_later hb h.o0, cell_later hb h.o1, cell_later hb h.o2, cell_later hb h.o3, cell_later hb h.o4, cell_later hb h.o5, cell_later hb h.o6⟩
theorem argAt (w : World) (B R : Nat) (kind kw A B' C : Int) (name : ByteArray) (lv : Value) :
    ArgAt ((w.alloc (.cells #[.pointer (some ⟨B, 0, none⟩), .pointer (some ⟨R, 0, none⟩)] 94)).alloc (.cells #[.int .i64 kind, .int .i64 kw, .string name, .int .i64 A, .int .i64 B', .int .i64 C, lv] 56)) w.heap.size B R kind kw A B' C name lv := by
  have h1 : ((w.alloc (.cells #[.pointer (some ⟨B, 0, none⟩), .pointer (some ⟨R, 0, none⟩)] 94)).alloc (.cells #[.int .i64 kind, .int .i64 kw, .string name, .int .i64 A, .int .i64 B', .int .i64 C, lv] 56)).heap[w.heap.size]? = some (.cells #[.pointer (some ⟨B, 0, none⟩), .pointer (some ⟨R, 0, none⟩)] 94 (0, 0)) := Grew.blk ((Grew.refl _).alloc _) (heap_alloc_new w _)
  have h2 := heap_alloc_new (w.alloc (.cells #[.pointer (some ⟨B, 0, none⟩), .pointer (some ⟨R, 0, none⟩)] 94)) (.cells #[.int .i64 kind, .int .i64 kw, .string name, .int .i64 A, .int .i64 B', .int .i64 C, lv] 56)
  rw [World.size_alloc] at h2
  exact ⟨blk_cell' h1 rfl, blk_cell' h1 rfl, blk_cell' h2 rfl, blk_cell' h2 rfl, blk_cell' h2 rfl, blk_cell' h2 rfl, blk_cell' h2 rfl, blk_cell' h2 rfl, blk_cell' h2 rfl⟩
set_option maxHeartbeats 1000000 in
set_option maxRecDepth 100000 in
theorem asks_bal (H L i : Nat) (d : Ls) (kw A B C : Int) (name : ByteArray) (lv : Value) (w : World) (h : LawIs H w L d) (hi : i < d.nb) :
    Calls Tryz.prog 45 #[.pointer (some ⟨L, 0, none⟩), .agg #[.pointer (some ⟨d.B i, 0, none⟩), .pointer (some ⟨d.R i, 0, none⟩)], .agg #[.int .i64 4, .int .i64 kw, .string name, .int .i64 A, .int .i64 B, .int .i64 C, lv]] w fun r w' => r = .returned (.bool true) ∧ LawIs H w' L d ∧ Below w.heap.size w w' := by
  have HL : Hid (LawIs H w L d) := h
  have hA := argAt w (d.B i) (d.R i) 4 kw A B C name lv
  obtain ⟨W0, hW0⟩ : ∃ W0, W0 = (w.alloc (.cells #[.pointer (some ⟨d.B i, 0, none⟩), .pointer (some ⟨d.R i, 0, none⟩)] 94)).alloc (.cells #[.int .i64 4, .int .i64 kw, .string name, .int .i64 A, .int .i64 B, .int .i64 C, lv] 56) := ⟨_, rfl⟩
  rw [← hW0] at hA
  have hb0 : Below w.heap.size w W0 := by rw [hW0]; exact (((Grew.refl w).alloc _).alloc _).below
  have HA : Hid (type_of% hA) := hA
  have HW : Hid (type_of% hW0) := hW0
  have C1 : Hid (type_of% (progBal (d.B i) (d.st i) (d.Fp i) name A B W0 ((h.mv hb0).pr i hi) (h.ok i hi))) := progBal (d.B i) (d.st i) (d.Fp i) name A B W0 ((h.mv hb0).pr i hi) (h.ok i hi)
  have C2 : Hid (∀ W, Below w.heap.size w W → Calls Tryz.prog 84 #[.pointer (some ⟨d.R i, 0, none⟩), .string name, .int .i64 A, .int .i64 B] W fun r w' => r = .returned (.tuple #[.int .i64 ((d.st i).bal name A B), .int .i64 ((d.st i).balE name A B)]) ∧ w' = W) := fun W hW => docBal (d.R i) (d.st i) (d.Fd i) name A B W ((HL.out.mv hW).dc i hi) (HL.out.ok i hi)
  clear h hA hW0
  generalize (d.st i).bal name A B = bl at C1 C2
  generalize (d.st i).balE name A B = be at C1 C2
  generalize d.B i = Bi at *
  generalize d.R i = Ri at *
  go_enter Tryz.func45, Tryz.ntmps45
  go_wp2_with (first
    | (go_at_call 34; rw [← HW.out]; refine Calls.mono C1.out ?_; rintro e w1 ⟨rfl, hb1⟩; obtain ⟨p0, p1, o0, o1, o2, o3, o4, o5, o6⟩ := HA.out.mv hb1; have hb2 : Below w.heap.size w w1 := hb0.trans (hb1.mono hb0.size))
    | (go_at_call 84; refine Calls.mono (C2.out _ hb2) ?_; rintro e wx ⟨rfl, hw⟩; rw [hw]; clear hw wx)
    | (go_at_call 40; refine Calls.mono (num_any _ _) ?_; rintro e wx ⟨rfl, hw⟩; rw [hw]; clear hw wx))
  go_ret
  exact ⟨rfl, HL.out.mv hb2, hb2⟩
end Go.Proofs.YtjnmoddcodnadaaGreatDoor
