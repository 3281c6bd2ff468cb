import Derived.Test.YtjnmoddcodnadaaGreatDoorG46
import Derived.Deep.RegionHeld3
import Derived.Test.YtjnmoddcodnadaaGreatDoorRows
import Derived.WalkKit
import Derived.ProofKit
import Derived.OpenShut
import Derived.Carry
import Derived.Deep.Slices
import Derived.Test.YtjnmoddcodnadaaGreatDoorG45
import Derived.ChangeMaps5
set_option linter.unusedVariables false
set_option linter.unusedSimpArgs false
namespace Go.Proofs.YtjnmoddcodnadaaGreatDoor
open Go.RowKit Go.Annal Go.Sort
set_option maxHeartbeats 4000000 in
set_option maxRecDepth 100000 in
theorem step_none (R B : Nat) (s : St) (Fp : Nat → Prop) (q : K5) (w : World) (h : RunIs w R B s Fp) (hk : KOk s) (hne : s.ne < 60) (hq : q.ok) (hK : pickI q.kind 8 = 5) (h0 : s.ne = 0) :
    Calls Tryz.prog 13 #[.pointer (some ⟨R, 0, none⟩), .agg q.v] w fun r w' => r = .returned (.bool true) ∧ SteppedTo w w' R B (s.kstep q) Fp := by
  have hks : s.kstep q = s := by
    unfold St.kstep
    rw [if_neg (by omega), if_neg (by omega), if_neg (by omega), if_neg (by omega)]
  rw [hks]
  obtain ⟨hq1, hq2, hq3, hq4, hq5⟩ := id hq
  have hd := pickI_bd q.day 12 (by decide)
  have hlk := hk.lk
  have hka : Grew w (w.alloc (.cells q.v 38)) := (Grew.refl _).alloc _
  have hbp := heap_alloc_new w (.cells q.v 38)
  have p0 : (w.alloc (.cells q.v 38)).cell? ⟨w.heap.size, 0, none⟩ = some (.int .i64 q.kind) := blk_cell' hbp rfl
  have p1 : (w.alloc (.cells q.v 38)).cell? ⟨w.heap.size, 1, none⟩ = some (.int .i64 q.day) := blk_cell' hbp rfl
  have p2 : (w.alloc (.cells q.v 38)).cell? ⟨w.heap.size, 2, none⟩ = some (.int .i64 q.a) := blk_cell' hbp rfl
  have rB := hka.cell' (blk_cell' h.rn (o := 0) rfl)
  have rN := hka.cell' (blk_cell' h.rn (o := 1) rfl)
  have hkb := hka.below
  obtain ⟨W1, hW1⟩ : ∃ W1, w.alloc (.cells q.v 38) = W1 := ⟨_, rfl⟩
  have hW1' : w.alloc (.cells #[.int .i64 q.kind, .int .i64 q.day, .int .i64 q.a, .int .i64 q.b, .int .i64 q.c] 38) = W1 := hW1
  rw [hW1] at hka hbp p0 p1 p2 rB rN hkb
  have hn0 : ¬ (0 : Int) < (s.ne : Int) := by omega
  have HH : Hid (type_of% h) := h
  clear h hk hq hbp hks
  show Calls _ _ #[_, .agg #[.int .i64 q.kind, .int .i64 q.day, .int .i64 q.a, .int .i64 q.b, .int .i64 q.c]] _ _
  go_enter Tryz.func13, Tryz.ntmps13
  go_wp2_with (go_at_call 14; refine Calls.mono (pickK_any _ _ _ (by omega) (by omega) (by omega) (by omega)) ?_; rintro e wx ⟨rfl, hw⟩; rw [hw]; clear hw wx)
  go_ret
  exact ⟨rfl, stepped_same HH.out hkb⟩
set_option maxHeartbeats 4000000 in
set_option maxRecDepth 100000 in
theorem step_lock (R B : Nat) (s : St) (Fp : Nat → Prop) (q : K5) (w : World) (h : RunIs w R B s Fp) (hk : KOk s) (hne : s.ne < 60) (hq : q.ok) (hK : pickI q.kind 8 = 6) :
    Calls Tryz.prog 13 #[.pointer (some ⟨R, 0, none⟩), .agg q.v] w fun r w' => r = .returned (.bool true) ∧ SteppedTo w w' R B (s.kstep q) Fp := by
  have hks : s.kstep q = s.afterLock (pickI q.day 12) := by
    unfold St.kstep
    rw [if_neg (by omega), if_neg (by omega), if_pos hK]
  rw [hks]
  obtain ⟨hq1, hq2, hq3, hq4, hq5⟩ := id hq
  have hd := pickI_bd q.day 12 (by decide)
  have hlk := hk.lk
  have hka : Grew w (w.alloc (.cells q.v 38)) := (Grew.refl _).alloc _
  have hbp := heap_alloc_new w (.cells q.v 38)
  have p0 : (w.alloc (.cells q.v 38)).cell? ⟨w.heap.size, 0, none⟩ = some (.int .i64 q.kind) := blk_cell' hbp rfl
  have p1 : (w.alloc (.cells q.v 38)).cell? ⟨w.heap.size, 1, none⟩ = some (.int .i64 q.day) := blk_cell' hbp rfl
  have p2 : (w.alloc (.cells q.v 38)).cell? ⟨w.heap.size, 2, none⟩ = some (.int .i64 q.a) := blk_cell' hbp rfl
  have rB := hka.cell' (blk_cell' h.rn (o := 0) rfl)
  have rN := hka.cell' (blk_cell' h.rn (o := 1) rfl)
  have hkb := hka.below
  obtain ⟨W1, hW1⟩ : ∃ W1, w.alloc (.cells q.v 38) = W1 := ⟨_, rfl⟩
  have hW1' : w.alloc (.cells #[.int .i64 q.kind, .int .i64 q.day, .int .i64 q.a, .int .i64 q.b, .int .i64 q.c] 38) = W1 := hW1
  rw [hW1] at hka hbp p0 p1 p2 rB rN hkb
  have hpe := hk.lockE (day := pickI q.day 12) hd.1 (by omega)
  have HP : Hid (∀ W2, Below w.heap.size w W2 → Calls Tryz.prog 31 #[.pointer (some ⟨B, 0, none⟩), .int .i64 (pickI q.day 12)] W2 fun r w' => r = .returned (.int .i64 (s.lockE (pickI q.day 12))) ∧ w'.heap[R]? = some (.cells #[.pointer (some ⟨B, 0, none⟩), .int .i64 s.ne, .int .i64 s.lk] 31 (0, 0)) ∧ Hid (∃ Fp', ProgIs w' B (s.afterLock (pickI q.day 12)) Fp' ∧ Turn Fp W2 w' ∧ ∀ b, Fp' b → Fp b ∨ W2.heap.size ≤ b)) := fun W2 hW => by
    refine (progLock B s Fp (pickI q.day 12) W2 (h.pg.turn (S := fun _ => False) (Turn.of_below hW) (fun _ _ h => h)) hk.ok).mono ?_
    rintro r w' ⟨rfl, Fp', q1, q2, q3⟩
    exact ⟨rfl, run_kept h hW q2, ⟨Fp', q1, q2, q3⟩⟩
  have HH : Hid (type_of% h) := h
  have HPE : Hid (type_of% hpe) := hpe
  clear h hk hq hbp hks hpe
  by_cases hl : pickI q.day 12 ≤ s.lk
  · have e11 : s.lockE (pickI q.day 12) = 11 := by rw [HPE.out, if_pos hl]
    have ea : Hid (s.afterLock (pickI q.day 12) = s) := by show _ = _; unfold St.afterLock; rw [e11]; rfl
    rw [e11] at HP
    show Calls _ _ #[_, .agg #[.int .i64 q.kind, .int .i64 q.day, .int .i64 q.a, .int .i64 q.b, .int .i64 q.c]] _ _
    go_enter Tryz.func13, Tryz.ntmps13
    go_wp2_with (first
      | (go_at_call 14; refine Calls.mono (pickK_any _ _ _ (by omega) (by omega) (by omega) (by omega)) ?_; rintro e wx ⟨rfl, hw⟩; rw [hw]; clear hw wx)
      | (go_at_call 31; refine Calls.mono (HP.out _ hkb) ?_; rintro e w3 ⟨rfl, hrn, hq3⟩; have x0 := blk_cell' hrn (o := 0) rfl; have x1 := blk_cell' hrn (o := 1) rfl; have x2 := blk_cell' hrn (o := 2) rfl; have z1 := blk_free hrn 1; have z2 := blk_free hrn 2))
    go_ret
    refine ⟨by first | rfl | (simp; done), ?_⟩
    obtain ⟨Fp', q1, q2, q3⟩ := hq3.out
    rw [ea.out] at q1 ⊢
    exact stepped_by HH.out hkb q1 q2 q3 hrn (Turn.refl _ _)
  · have e0 : s.lockE (pickI q.day 12) = 0 := by rw [HPE.out, if_neg hl]
    have ea : Hid ((s.afterLock (pickI q.day 12)).ne = s.ne ∧ (s.afterLock (pickI q.day 12)).lk = pickI q.day 12) := by show _ ∧ _; unfold St.afterLock; rw [if_pos e0]; exact ⟨rfl, rfl⟩
    rw [e0] at HP
    show Calls _ _ #[_, .agg #[.int .i64 q.kind, .int .i64 q.day, .int .i64 q.a, .int .i64 q.b, .int .i64 q.c]] _ _
    go_enter Tryz.func13, Tryz.ntmps13
    go_wp2_with (first
      | (go_at_call 14; refine Calls.mono (pickK_any _ _ _ (by omega) (by omega) (by omega) (by omega)) ?_; rintro e wx ⟨rfl, hw⟩; rw [hw]; clear hw wx)
      | (go_at_call 31; refine Calls.mono (HP.out _ hkb) ?_; rintro e w3 ⟨rfl, hrn, hq3⟩; have x0 := blk_cell' hrn (o := 0) rfl; have x1 := blk_cell' hrn (o := 1) rfl; have x2 := blk_cell' hrn (o := 2) rfl; have z1 := blk_free hrn 1; have z2 := blk_free hrn 2))
    go_ret
    refine ⟨by first | rfl | (simp; done), ?_⟩
    obtain ⟨Fp', q1, q2, q3⟩ := hq3.out
    exact stepped_by HH.out hkb q1 q2 q3 (by rw [ea.out.1, ea.out.2]; exact blk_set hrn 2 _) ((Turn.refl _ _).set _ _ (fun _ => rfl))
end Go.Proofs.YtjnmoddcodnadaaGreatDoor
namespace Go.Annal
open Go.Proofs.YtjnmoddcodnadaaGreatDoor
/-- The j-th of all balances: by names, then by days. -/
def tabF (s : St) (known : Int) (j : Nat) : Int := enS s.dy s.la s.lm (nmK (j / 13)) ((j % 13 : Nat) : Int) s.ln known.toNat
def tabL (s : St) (known : Int) (n : Nat) : List Value := (List.range n).map (fun j => .int .i64 (tabF s known j))
theorem tabL_snoc (s : St) (known : Int) (n : Nat) : tabL s known (n + 1) = tabL s known n ++ [.int .i64 (tabF s known n)] := by
  unfold tabL; rw [List.range_succ, List.map_append]; rfl
theorem KOk.bal {s : St} (h : KOk s) {known : Int} (k0 : 0 ≤ known) (k1 : known ≤ s.ne) {i d : Nat} (hi : i < 6) (hd : d ≤ 12) : s.balE (nmK i) d known = 0 ∧ s.bal (nmK i) d known = tabF s known (i * 13 + d) := by
  have he : s.balE (nmK i) d known = 0 := by
    unfold St.balE
    rw [h.there hi]
    have h1 : dayB (d : Int) = true := by unfold dayB; simp; omega
    have h2 : knownB known s.ne = true := by unfold knownB; simp; omega
    rw [h1, h2]; rfl
  refine ⟨he, ?_⟩
  unfold St.bal okOr
  rw [if_pos he]
  unfold tabF
  rw [show (i * 13 + d) / 13 = i by omega, show (i * 13 + d) % 13 = d by omega]
end Go.Annal
namespace Go.Proofs.YtjnmoddcodnadaaGreatDoor
open Go.RowKit Go.Annal Go.Sort
theorem Tryz.infoInt : (Tryz.prog.info? 3).map (fun i => (i.zero, i.size, i.bytes)) = some (some (.int .i64 0), 1, 8) := by kernel_rfl
set_option maxHeartbeats 4000000 in
set_option maxRecDepth 100000 in
theorem table_b (R B : Nat) (s : St) (Fp : Nat → Prop) (known : Int) (w : World) (rB : w.cell? ⟨R, 0, none⟩ = some (.pointer (some ⟨B, 0, none⟩))) (pg : ProgIs w B s Fp) (hk : KOk s) (k0 : 0 ≤ known) (k1 : known ≤ s.ne) :
    Calls Tryz.prog 15 #[.pointer (some ⟨R, 0, none⟩), .int .i64 known] w fun r w' => ∃ v, r = .returned (.tuple #[v, .bool true]) ∧ Hid (w'.ownsRow w.heap.size 3 1 v 78 (tabL s known 78) ∧ Below w.heap.size w w') := by
  obtain ⟨i0, hi, hz0, hz1, hz2⟩ := info_parts Tryz.infoInt
  have CN : Hid (∀ W, _) := fun W => namesK_any W
  have HB : Hid (∀ (i d : Nat) W, i < 6 → d ≤ 12 → Below w.heap.size w W → Calls Tryz.prog 34 #[.pointer (some ⟨B, 0, none⟩), .string (nmK i), .int .i64 d, .int .i64 known] W fun r w' => r = .returned (.tuple #[.int .i64 (tabF s known (i * 13 + d)), .int .i64 0]) ∧ Below W.heap.size W w') := fun i d W hi hd hW => by
    have := progBal B s Fp (nmK i) d known W (pg.turn (S := fun _ => False) (Turn.of_below hW) (fun _ _ h => h)) hk.ok
    rw [(hk.bal k0 k1 hi hd).1, (hk.bal k0 k1 hi hd).2] at this
    exact this
  clear pg hk
  go_enter Tryz.func15, Tryz.ntmps15
  go_wp2_with (go_at_call 33; refine Calls.mono (CN.out _) ?_; rintro e w1 ⟨rfl, hw1⟩)
  have hg1 : Grew w w1 := by rw [hw1]; exact (Grew.refl _).alloc _
  have hb1 := hg1.below
  have hN1 : w1.heap[w.heap.size]? = some (.cells nmCells 9 (0, 0)) := by rw [hw1]; exact heap_alloc_new w _
  have hs1 : w1.heap.size = w.heap.size + 1 := by rw [hw1, World.size_alloc]
  have rB1 := hg1.cell' rB
  rw [← hw1]
  clear hw1
  have HW : Hid (∀ wr, Below w1.heap.size w1 wr → Below w.heap.size w wr ∧ wr.cell? ⟨R, 0, none⟩ = some (.pointer (some ⟨B, 0, none⟩)) ∧ ∀ i, i < 6 → wr.cell? ⟨w.heap.size, i, none⟩ = some (.string (nmK i))) := fun wr hb => ⟨hb1.trans (hb.mono hb1.size), cell_later hb rB1, fun i hi => blk_cell' ((hb.block _ (blk_lt hN1)).trans hN1) (nmCells_get i hi)⟩
  clear rB1 hN1 CN
  go_loopw [6, 8, 9, 10, 11, 12] (fun s6 s8 s9 _ _ _ wr => ∃ i : Nat, i ≤ 6 ∧ s9 = .int .i64 i ∧ s8 = .bool true ∧ Hid (wr.ownsRow w1.heap.size 3 1 s6 (i * 13) (tabL s known (i * 13))) ∧ Hid (Below w1.heap.size w1 wr)) (fun _ _ s9 _ _ _ _ => 6 - (intOf s9).toNat)
  case atStart => exact ⟨0, by omega, rfl, rfl, ⟨rfl, .inl ⟨rfl, rfl⟩⟩, Below.refl _ _⟩
  case round =>
    obtain ⟨i, hi6, rfl, rfl, ho, hb⟩ := hrel
    by_cases hlt : i < 6
    · have hlt' : (i : Int) < 6 := by omega
      have hi0 : (0 : Int) ≤ (i : Int) := by omega
      go_wp2
      go_loopw [6, 8, 10, 11, 12] (fun s6 s8 s10 _ _ wr => ∃ d : Nat, d ≤ 13 ∧ s10 = .int .i64 d ∧ s8 = .bool true ∧ Hid (wr.ownsRow w1.heap.size 3 1 s6 (i * 13 + d) (tabL s known (i * 13 + d))) ∧ Hid (Below w1.heap.size w1 wr)) (fun _ _ s10 _ _ _ => 13 - (intOf s10).toNat)
      case atStart => exact ⟨0, by omega, rfl, rfl, ho, hb⟩
      case round =>
        clear ho hb
        obtain ⟨d, hd13, rfl, rfl, ho, hb⟩ := hrel
        by_cases hdl : d < 13
        · have hdl' : (d : Int) ≤ 12 := by omega
          obtain ⟨hbw, cR, cN⟩ := HW.out _ hb.out
          have cN' := cN i hlt
          have CB : Hid (∀ W, Below w.heap.size w W → _) := fun W hW => HB.out i d W hlt (by omega) hW
          have hsz := hb.out.size
          clear cN
          go_wp2
          go_region_with (go_at_call 34; refine Calls.mono (CB.out _ hbw.drew) ?_; rintro e w3 ⟨rfl, hb3⟩; have hb13 : Below w1.heap.size w1 w3 := hb.out.trans ((below_drew hb3).mono hsz); have ho3 := owns_mv ho.out (below_drew hb3))
          all_goals go_wp2_with (at_builtin; go_loud (refine wpList_append_src rfl _ _ 40 rfl w1.heap.size 3 i0 _ 1 8 Tryz.underlying40 hi hz0 hz1 hz2 rfl (by decide) _ _ _ rfl (ho3.alloc _) _ 1 [.int .i64 (tabF s known (i * 13 + d))] rfl (src_new1 _ _ _) (by simp [Value.oneCell']) (by unfold maxLen; omega) (by omega) (by have := hb13.size; simp; omega) ?_); intro v4 w4 ho4 hg4; go_loud (have hb14 := (hb13.alloc hb13.size (.cells #[.int .i64 (tabF s known (i * 13 + d))] 3)).grown hg4 (by have := hb13.size; simp; omega) (fun x hx => (ho3.lt x hx).1)))
          all_goals exact ⟨⟨d + 1, by omega, by go_num, rfl, by rw [← Nat.add_assoc, tabL_snoc]; exact ho4, hb14⟩, by simp [intOf]; omega⟩
        · have hdl' : ¬ (d : Int) ≤ 12 := by omega
          obtain rfl : d = 13 := by omega
          go_wp2
          exact ⟨⟨i + 1, by omega, by go_num, rfl, by rw [show (i + 1) * 13 = i * 13 + 13 by omega]; exact ho, hb⟩, by simp [intOf]; omega⟩
    · have hlt' : ¬ (i : Int) < 6 := by omega
      obtain rfl : i = 6 := by omega
      go_wp2
      go_ret2
      exact ⟨_, rfl, owns_le ho.out (by omega), (HW.out _ hb.out).1⟩
theorem table_any (R B : Nat) (s : St) (Fp : Nat → Prop) (known : Int) (w : World) (h : RunIs w R B s Fp) (hk : KOk s) (k0 : 0 ≤ known) (k1 : known ≤ s.ne) :
    Calls Tryz.prog 15 #[.pointer (some ⟨R, 0, none⟩), .int .i64 known] w fun r w' => ∃ v, r = .returned (.tuple #[v, .bool true]) ∧ Hid (w'.ownsRow w.heap.size 3 1 v 78 (tabL s known 78) ∧ Below w.heap.size w w') :=
  table_b R B s Fp known w (blk_cell' h.rn rfl) h.pg hk k0 k1
end Go.Proofs.YtjnmoddcodnadaaGreatDoor
namespace Go.Annal
open Go.Proofs.YtjnmoddcodnadaaGreatDoor
/-- A book behind n steps. -/
def krun (qs : Nat → K5) : Nat → St
  | 0 => kn 6
  | n + 1 => (krun qs n).kstep (qs n)
theorem krun_ok (qs : Nat → K5) : ∀ n, KOk (krun qs n) ∧ (krun qs n).ne ≤ n
  | 0 => ⟨kn_kok, by rw [show krun qs 0 = kn 6 from rfl, (kn_is 6 (by omega)).1.ne]; exact Nat.le_refl _⟩
  | n + 1 => by
    obtain ⟨h1, h2⟩ := krun_ok qs n
    have := h1.step (qs n)
    exact ⟨this.1, by have := this.2.2; show ((krun qs n).kstep (qs n)).ne ≤ n + 1; omega⟩
/-- And behind m more. -/
def kmore (s : St) (qs : Nat → K5) : Nat → St
  | 0 => s
  | n + 1 => (kmore s qs n).kstep (qs n)
theorem kmore_ok {s : St} (h : KOk s) (qs : Nat → K5) : ∀ n, KOk (kmore s qs n) ∧ s.Le (kmore s qs n) ∧ (kmore s qs n).ne ≤ s.ne + n
  | 0 => ⟨h, St.Le.refl s, Nat.le_refl _⟩
  | n + 1 => by
    obtain ⟨h1, h2, h3⟩ := kmore_ok h qs n
    have := h1.step (qs n)
    exact ⟨this.1, h2.trans this.2.1, by have := this.2.2; show ((kmore s qs n).kstep (qs n)).ne ≤ s.ne + (n + 1); omega⟩
end Go.Annal
namespace Go.Annal
open Go.RowKit Go.Proofs.YtjnmoddcodnadaaGreatDoor
/-- A book that its text gives back. -/
def Reads (s : St) : Prop := ∃ p : List ByteArray, (∀ l ∈ p, Whole l.data.toList) ∧ (p.map (·.data.toList)).flatten = s.tx.data.toList ∧ runL St.new p = some s
theorem Reads.new : Reads St.new := ⟨[], (fun _ h => by cases h), rfl, rfl⟩
theorem Reads.read {s : St} (h : Reads s) : runL St.new (lns s.tx) = some s := by
  obtain ⟨p, h1, h2, h3⟩ := h
  have : lns s.tx = p := by
    apply lns_of_list
    have := lnsL_wholes (p.map (·.data.toList)) [] (fun l hl => by
      obtain ⟨y, hy, rfl⟩ := List.mem_map.1 hl
      exact h1 y hy)
    rw [List.append_nil, h2] at this
    rw [this]
    exact List.append_nil _
  rw [this]; exact h3
theorem redoF_whole (s : St) (x : ByteArray) : redoF s (x ++ ⟨#[10]⟩) = doF s x := by
  unfold redoF
  have e : (x ++ (⟨#[10]⟩ : ByteArray)).data.toList = x.data.toList ++ [10] := by rw [ba_app]
  have hs : Lib.hasSuffix (x.data.toList ++ [10]) [10] = true := List.isSuffixOf_iff_suffix.2 ⟨_, rfl⟩
  rw [e, if_pos hs]
  congr 1
  apply ba_data
  show (Lib.trimSuffix (x.data.toList ++ [10]) [10]).toArray.toList = _
  unfold Lib.trimSuffix
  rw [if_pos hs]
  simp
theorem Reads.step {s t : St} (h : Reads s) (x : ByteArray) (hx : (10 : UInt8) ∉ x.data.toList) (he : doF s x = (0, t)) : Reads t := by
  obtain ⟨p, h1, h2, h3⟩ := h
  have ht : t.tx = s.tx ++ x ++ ⟨#[10]⟩ := by
    have := doF_tx (s := s) x (by rw [he])
    rwa [he] at this
  refine ⟨p ++ [x ++ ⟨#[10]⟩], fun l hl => ?_, ?_, ?_⟩
  · rcases List.mem_append.1 hl with hl | hl
    · exact h1 l hl
    · rw [List.mem_singleton.1 hl]
      exact ⟨x.data.toList, by rw [ba_app], hx⟩
  · rw [ht, List.map_append, List.flatten_append, h2]
    simp
  · rw [runL_append, h3]
    show runL s [x ++ ⟨#[10]⟩] = some t
    unfold runL
    rw [redoF_whole, he]
    rfl
theorem index_at (c : UInt8) : ∀ (a b : List UInt8), c ∉ a → Lib.index (a ++ c :: b) [c] = a.length
  | [], b, _ => by simp [Lib.index]
  | d :: a, b, h => by
    simp only [List.mem_cons, not_or] at h
    have ih := index_at c a b h.2
    show Lib.index (d :: (a ++ c :: b)) [c] = _
    unfold Lib.index
    rw [if_neg (by simp; exact h.1), ih, if_neg (by simp)]
    simp
theorem cut_make (a b : ByteArray) (h : (32 : UInt8) ∉ a.data.toList) : wd (a ++ ⟨#[32]⟩ ++ b) = a ∧ rs (a ++ ⟨#[32]⟩ ++ b) = b ∧ fd (a ++ ⟨#[32]⟩ ++ b) = true := by
  have e : (a ++ (⟨#[32]⟩ : ByteArray) ++ b).data.toList = a.data.toList ++ 32 :: b.data.toList := by rw [ba_app, ba_app]; simp
  have hi := index_at 32 a.data.toList b.data.toList h
  have hc : Lib.cut (a.data.toList ++ 32 :: b.data.toList) [32] = (a.data.toList, b.data.toList, true) := by
    have h1 : (a.data.toList ++ 32 :: b.data.toList).take a.data.toList.length = a.data.toList := List.take_left
    have h2 : (a.data.toList ++ 32 :: b.data.toList).drop (a.data.toList.length + 1) = b.data.toList := by rw [← List.drop_drop, List.drop_left]; rfl
    unfold Lib.cut
    rw [hi, if_pos (by omega), Int.toNat_natCast, h1]
    exact congrArg (fun z => (a.data.toList, z, true)) h2
  refine ⟨?_, ?_, ?_⟩
  · unfold wd; rw [e, hc]
  · unfold rs; rw [e, hc]
  · unfold fd; rw [e, hc]
theorem cut_none (a : ByteArray) (h : (32 : UInt8) ∉ a.data.toList) : wd a = a ∧ rs a = ⟨#[]⟩ ∧ fd a = false := by
  have hi := (index_no 32 a.data.toList).2 h
  have hc : Lib.cut a.data.toList [32] = (a.data.toList, [], false) := by
    unfold Lib.cut
    rw [hi, if_neg (by decide)]
  refine ⟨?_, ?_, ?_⟩
  · unfold wd; rw [hc]
  · unfold rs; rw [hc]
  · unfold fd; rw [hc]
/-- A number's text. -/
def dB (v : Int) : ByteArray := ⟨(digZ v).toArray⟩
/-- A number that is read as it is written. -/
structure NumB (v : Int) : Prop where
  num : numB (dB v) = some v
  blank : (32 : UInt8) ∉ (dB v).data.toList
  line : (10 : UInt8) ∉ (dB v).data.toList
def numsB (i : Nat) : Bool := decide (numB (dB ((i : Int) - 1000)) = some ((i : Int) - 1000)) && !((dB ((i : Int) - 1000)).data.toList.contains 32) && !((dB ((i : Int) - 1000)).data.toList.contains 10)
theorem numsB_all : (List.range 2001).all numsB = true := by kernel_rfl
theorem numB_small {v : Int} (h1 : -1000 ≤ v) (h2 : v ≤ 1000) : NumB v := by
  have h := List.all_eq_true.1 numsB_all (v + 1000).toNat (by simp; omega)
  unfold numsB at h
  rw [show (((v + 1000).toNat : Int) - 1000) = v by omega] at h
  simp only [Bool.and_eq_true, Bool.not_eq_true', decide_eq_true_eq] at h
  refine ⟨h.1.1, fun hm => ?_, fun hm => ?_⟩
  · have := h.1.2
    rw [List.contains_iff_mem.2 hm] at this; cases this
  · have := h.2
    rw [List.contains_iff_mem.2 hm] at this; cases this
/-- A name as a word. -/
structure NameB (x : ByteArray) : Prop where
  name : isName x = true
  blank : (32 : UInt8) ∉ x.data.toList
  line : (10 : UInt8) ∉ x.data.toList
theorem nmK_word : ∀ i, i < 6 → NameB (nmK i) := fun i hi => by
  have h1 : ∀ i, i < 6 → isName (nmK i) = true := nmK_name
  have h2 : ∀ i, i < 6 → (32 : UInt8) ∉ (nmK i).data.toList := by decide +kernel
  have h3 : ∀ i, i < 6 → (10 : UInt8) ∉ (nmK i).data.toList := by decide +kernel
  exact ⟨h1 i hi, h2 i hi, h3 i hi⟩
theorem Reads.open' {s : St} (h : Reads s) {x : ByteArray} {k : Int} (hx : NameB x) (hk : NumB k) : Reads (s.afterOpen x k) := by
  by_cases he : s.openE x k = 0
  · refine h.step (⟨#[111]⟩ ++ ⟨#[32]⟩ ++ (x ++ ⟨#[32]⟩ ++ dB k)) ?_ ?_
    · simp only [ba_app, List.mem_append, not_or]
      exact ⟨⟨by decide, by decide⟩, ⟨hx.line, by decide⟩, hk.line⟩
    · obtain ⟨a1, a2, a3⟩ := cut_make ⟨#[111]⟩ (x ++ ⟨#[32]⟩ ++ dB k) (by decide)
      obtain ⟨b1, b2, b3⟩ := cut_make x (dB k) hx.blank
      obtain ⟨c1, c2, c3⟩ := cut_none (dB k) hk.blank
      unfold doF
      rw [a1, if_pos rfl, a2, a3, b1, b2, b3, c1, c3, hk.num, hx.name]
      simp [he]
  · unfold St.afterOpen
    rw [if_neg he]; exact h
theorem Reads.rev {s : St} (h : Reads s) {e : Int} (hk : NumB e) : Reads (s.afterRev e) := by
  by_cases he : s.revE e = 0
  · refine h.step (⟨#[114]⟩ ++ ⟨#[32]⟩ ++ dB e) ?_ ?_
    · simp only [ba_app, List.mem_append, not_or]
      exact ⟨⟨by decide, by decide⟩, hk.line⟩
    · obtain ⟨a1, a2, a3⟩ := cut_make ⟨#[114]⟩ (dB e) (by decide)
      obtain ⟨c1, c2, c3⟩ := cut_none (dB e) hk.blank
      unfold doF
      rw [a1, if_neg (by decide), if_neg (by decide), if_pos rfl, a2, a3, c1, c3, hk.num]
      simp [he]
  · unfold St.afterRev
    rw [if_neg he]; exact h
theorem Reads.lock {s : St} (h : Reads s) {e : Int} (hk : NumB e) : Reads (s.afterLock e) := by
  by_cases he : s.lockE e = 0
  · refine h.step (⟨#[108]⟩ ++ ⟨#[32]⟩ ++ dB e) ?_ ?_
    · simp only [ba_app, List.mem_append, not_or]
      exact ⟨⟨by decide, by decide⟩, hk.line⟩
    · obtain ⟨a1, a2, a3⟩ := cut_make ⟨#[108]⟩ (dB e) (by decide)
      obtain ⟨c1, c2, c3⟩ := cut_none (dB e) hk.blank
      unfold doF
      rw [a1, if_neg (by decide), if_neg (by decide), if_neg (by decide), if_pos rfl, a2, a3, c1, c3, hk.num]
      simp [he]
  · unfold St.afterLock
    rw [if_neg he]; exact h
theorem Reads.close {s : St} (h : Reads s) {e : Int} {x : ByteArray} (hk : NumB e) (hx : NameB x) : Reads (s.afterClose e x) := by
  by_cases he : s.closeE e x = 0
  · refine h.step (⟨#[99]⟩ ++ ⟨#[32]⟩ ++ (dB e ++ ⟨#[32]⟩ ++ x)) ?_ ?_
    · simp only [ba_app, List.mem_append, not_or]
      exact ⟨⟨by decide, by decide⟩, ⟨hk.line, by decide⟩, hx.line⟩
    · obtain ⟨a1, a2, a3⟩ := cut_make ⟨#[99]⟩ (dB e ++ ⟨#[32]⟩ ++ x) (by decide)
      obtain ⟨b1, b2, b3⟩ := cut_make (dB e) x hk.blank
      obtain ⟨c1, c2, c3⟩ := cut_none x hx.blank
      unfold doF
      rw [a1, if_neg (by decide), if_neg (by decide), if_neg (by decide), if_neg (by decide), if_pos rfl, a2, a3, b1, b2, b3, c1, c3, hk.num, hx.name]
      simp [he]
  · unfold St.afterClose
    rw [if_neg he]; exact h
/-- What stands behind the day. -/
def restT : List Ln → ByteArray
  | [] => ⟨#[]⟩
  | y :: r => y.1 ++ ⟨#[32]⟩ ++ (dB y.2 ++ match r with | [] => ⟨#[]⟩ | z :: q => ⟨#[32]⟩ ++ restT (z :: q))
theorem restT_size : ∀ L, L.length ≤ (restT L).size
  | [] => Nat.zero_le _
  | [y] => by
    simp only [restT, ByteArray.size_append]
    have : (⟨#[32]⟩ : ByteArray).size = 1 := rfl
    simp; omega
  | y :: z :: q => by
    have ih := restT_size (z :: q)
    have : (⟨#[32]⟩ : ByteArray).size = 1 := rfl
    rw [restT]
    simp only [ByteArray.size_append, List.length_cons] at *
    omega
theorem restT_line : ∀ L : List Ln, (∀ y ∈ L, NameB y.1 ∧ NumB y.2) → (10 : UInt8) ∉ (restT L).data.toList
  | [], _ => by simp [restT]
  | [y], h => by
    have := h y List.mem_cons_self
    rw [restT]
    simp only [ba_app, List.mem_append, not_or]
    exact ⟨⟨this.1.line, by decide⟩, this.2.line, by simp⟩
  | y :: z :: q, h => by
    have := h y List.mem_cons_self
    have ih := restT_line (z :: q) (fun x hx => h x (List.mem_cons_of_mem _ hx))
    rw [restT]
    simp only [ba_app, List.mem_append, not_or]
    exact ⟨⟨this.1.line, by decide⟩, this.2.line, by decide, ih⟩
theorem pairs_back : ∀ (L : List Ln) (f : Nat), L ≠ [] → L.length < f → (∀ y ∈ L, NameB y.1 ∧ NumB y.2) → pairsF f (restT L) true false = some L
  | [], _, h, _, _ => absurd rfl h
  | [y], f, _, hf, h => by
    obtain ⟨h1, h2⟩ := h y List.mem_cons_self
    obtain ⟨f, rfl⟩ : ∃ g, f = g + 2 := ⟨f - 2, by simp at hf; omega⟩
    have e : restT [y] = y.1 ++ ⟨#[32]⟩ ++ dB y.2 := by rw [restT]; apply ba_data; simp
    obtain ⟨b1, b2, b3⟩ := cut_make y.1 (dB y.2) h1.blank
    obtain ⟨c1, c2, c3⟩ := cut_none (dB y.2) h2.blank
    rw [e, pairsF]
    rw [b1, b2, b3, c1, c2, c3, h1.name, h2.num]
    simp [pairsF]
  | y :: z :: q, f, _, hf, h => by
    obtain ⟨h1, h2⟩ := h y List.mem_cons_self
    obtain ⟨f, rfl⟩ : ∃ g, f = g + 1 := ⟨f - 1, by simp at hf; omega⟩
    have e : restT (y :: z :: q) = y.1 ++ ⟨#[32]⟩ ++ (dB y.2 ++ ⟨#[32]⟩ ++ restT (z :: q)) := by rw [restT]; simp only [ByteArray.append_assoc]
    obtain ⟨b1, b2, b3⟩ := cut_make y.1 (dB y.2 ++ ⟨#[32]⟩ ++ restT (z :: q)) h1.blank
    obtain ⟨c1, c2, c3⟩ := cut_make (dB y.2) (restT (z :: q)) h2.blank
    have ih := pairs_back (z :: q) f (by simp) (by simp at hf ⊢; omega) (fun x hx => h x (List.mem_cons_of_mem _ hx))
    rw [e, pairsF]
    rw [b1, b2, b3, c1, c2, c3, h1.name, h2.num]
    simp [ih]
theorem Reads.post {s : St} (h : Reads s) {e : Int} {L : List Ln} (hk : NumB e) (h0 : L ≠ []) (hL : ∀ y ∈ L, NameB y.1 ∧ NumB y.2) : Reads (s.afterPost e (lnA L) (lnM L) L.length) := by
  by_cases he : s.postE e (lnA L) (lnM L) L.length = 0
  · refine h.step (⟨#[112]⟩ ++ ⟨#[32]⟩ ++ (dB e ++ ⟨#[32]⟩ ++ restT L)) ?_ ?_
    · simp only [ba_app, List.mem_append, not_or]
      exact ⟨⟨by decide, by decide⟩, ⟨hk.line, by decide⟩, restT_line L hL⟩
    · obtain ⟨a1, a2, a3⟩ := cut_make ⟨#[112]⟩ (dB e ++ ⟨#[32]⟩ ++ restT L) (by decide)
      obtain ⟨b1, b2, b3⟩ := cut_make (dB e) (restT L) hk.blank
      have hp := pairs_back L ((restT L).size + 1) h0 (Nat.lt_succ_of_le (restT_size L)) hL
      unfold doF
      rw [a1, if_neg (by decide), if_pos rfl, a2, a3, b1, b2, b3, hk.num]
      simp only [Option.isSome_some, Bool.not_true, Bool.or_self]
      rw [hp]
      simp [he]
  · unfold St.afterPost
    rw [if_neg he]; exact h
/-- The lines of a step as a list. -/
def lsL (q : K5) : List Ln := (List.range (lsN q)).map (fun j => (lsA q j, lsM q j))
theorem lsL_len (q : K5) : (lsL q).length = lsN q := by unfold lsL; simp
theorem lsA_out (q : K5) (j : Nat) (h : ¬ j < lsN q) : lsA q j = ⟨#[]⟩ ∧ lsM q j = 0 := by
  have hn : 2 ≤ lsN q := by unfold lsN; split <;> omega
  constructor
  · unfold lsA
    rw [if_neg (by omega), if_neg (by omega), if_neg h]
  · unfold lsM
    rw [if_neg (by omega), if_neg (by omega), if_neg h]
theorem lsL_at (q : K5) : lnA (lsL q) = lsA q ∧ lnM (lsL q) = lsM q := by
  have e : ∀ j, (lsL q).getD j (⟨#[]⟩, 0) = (lsA q j, lsM q j) := fun j => by
    by_cases hj : j < lsN q
    · unfold lsL
      rw [List.getD_eq_getElem?_getD, List.getElem?_map, List.getElem?_range hj]
      rfl
    · obtain ⟨h1, h2⟩ := lsA_out q j hj
      rw [h1, h2, List.getD_eq_getElem?_getD, List.getElem?_eq_none (by rw [lsL_len]; omega)]
      rfl
  exact ⟨funext fun j => by unfold lnA; rw [e], funext fun j => by unfold lnM; rw [e]⟩
theorem lsL_ok (q : K5) : ∀ y ∈ lsL q, NameB y.1 ∧ NumB y.2 := fun y hy => by
  unfold lsL at hy
  obtain ⟨j, hj, rfl⟩ := List.mem_map.1 hy
  have hj' : j < lsN q := by simpa using hj
  have := ls_amt q j hj'
  exact ⟨ls_three q NameB nmK_word j hj', numB_small this.2.1 this.2.2⟩
theorem Reads.kstep {s : St} (h : Reads s) (hn : s.ne ≤ 60) (q : K5) : Reads (s.kstep q) := by
  have hd := pickI_bd q.day (n := 12) (by decide)
  have ha := pickI_bd q.a (n := 3) (by decide)
  unfold St.kstep
  split
  · have := h.post (e := pickI q.day 12) (L := lsL q) (numB_small (by omega) (by omega)) (fun e => by
      have := congrArg List.length e
      rw [lsL_len] at this
      have hn : 2 ≤ lsN q := by unfold lsN; split <;> omega
      simp at this; omega) (lsL_ok q)
    rwa [(lsL_at q).1, (lsL_at q).2, lsL_len] at this
  · split
    · rename_i hh
      have := pickI_bd q.a (n := s.ne) (by omega)
      exact h.rev (numB_small (by omega) (by omega))
    · split
      · exact h.lock (numB_small (by omega) (by omega))
      · split
        · exact h.close (numB_small (by omega) (by omega)) (nmK_word _ (by omega))
        · exact h
theorem kn_reads : ∀ i, i ≤ 6 → Reads (kn i)
  | 0, _ => Reads.new
  | i + 1, h => (kn_reads i (by omega)).open' (nmK_word i (by omega)) (by split <;> exact numB_small (by decide) (by decide))
theorem krun_reads (qs : Nat → K5) : ∀ n, n ≤ 60 → Reads (krun qs n)
  | 0, _ => kn_reads 6 (Nat.le_refl _)
  | n + 1, h => (krun_reads qs n (by omega)).kstep (by have := (krun_ok qs n).2; omega) (qs n)
end Go.Annal
namespace Go.Proofs.YtjnmoddcodnadaaGreatDoor
open Go.RowKit Go.Annal Go.Sort
theorem turn_two (R : Nat) (w : World) (v u : Value) : Turn (fun b => b = R) w ((w.setCell ⟨R, 1, none⟩ v).setCell ⟨R, 2, none⟩ u) := (((Turn.refl (fun b => b = R) w).set ⟨R, 1, none⟩ v (fun _ => rfl)).set ⟨R, 2, none⟩ u (fun _ => rfl))
theorem drew_size (w : World) : w.drew.heap.size = w.heap.size := rfl
set_option maxHeartbeats 4000000 in
set_option maxRecDepth 100000 in
theorem step_close (R B : Nat) (s : St) (Fp : Nat → Prop) (q : K5) (w : World) (h : RunIs w R B s Fp) (hk : KOk s) (hne : s.ne < 60) (hq : q.ok) (hK : pickI q.kind 8 = 7) :
    Calls Tryz.prog 13 #[.pointer (some ⟨R, 0, none⟩), .agg q.v] w fun r w' => r = .returned (.bool true) ∧ SteppedTo w w' R B (s.kstep q) Fp := by
  have hks : s.kstep q = s.afterClose (pickI q.day 12) (nmK (pickI q.a 3).toNat) := by
    unfold St.kstep
    rw [if_neg (by omega), if_neg (by omega), if_neg (by omega), if_pos hK]
  rw [hks]
  obtain ⟨hq1, hq2, hq3, hq4, hq5⟩ := id hq
  have hd := pickI_bd q.day 12 (by decide)
  have hlk := hk.lk
  have hka : Grew w (w.alloc (.cells q.v 38)) := (Grew.refl _).alloc _
  have hbp := heap_alloc_new w (.cells q.v 38)
  have p0 : (w.alloc (.cells q.v 38)).cell? ⟨w.heap.size, 0, none⟩ = some (.int .i64 q.kind) := blk_cell' hbp rfl
  have p1 : (w.alloc (.cells q.v 38)).cell? ⟨w.heap.size, 1, none⟩ = some (.int .i64 q.day) := blk_cell' hbp rfl
  have p2 : (w.alloc (.cells q.v 38)).cell? ⟨w.heap.size, 2, none⟩ = some (.int .i64 q.a) := blk_cell' hbp rfl
  have rB : (w.alloc (.cells q.v 38)).cell? ⟨R, 0, none⟩ = some (.pointer (some ⟨B, 0, none⟩)) := hka.cell' (blk_cell' h.rn (o := 0) rfl)
  have rN : (w.alloc (.cells q.v 38)).cell? ⟨R, 1, none⟩ = some (.int .i64 s.ne) := hka.cell' (blk_cell' h.rn (o := 1) rfl)
  have hkb := hka.below
  obtain ⟨W1, hW1⟩ : ∃ W1, w.alloc (.cells q.v 38) = W1 := ⟨_, rfl⟩
  have hW1' : w.alloc (.cells #[.int .i64 q.kind, .int .i64 q.day, .int .i64 q.a, .int .i64 q.b, .int .i64 q.c] 38) = W1 := hW1
  rw [hW1] at hka hbp p0 p1 p2 rB rN hkb
  have hpa := pickI_bd q.a 3 (by decide)
  obtain ⟨i, hi⟩ : ∃ i : Nat, pickI q.a 3 = i := ⟨(pickI q.a 3).toNat, by omega⟩
  rw [hi] at hpa
  rw [hi, Int.toNat_natCast]
  have hi0 : (0 : Int) ≤ (i : Int) := by omega
  have hi6 : (i : Int) < 6 := by omega
  have hpe := hk.closeE (day := pickI q.day 12) (i := i) hd.1 (by omega) (by omega) hne
  have CN : Hid (∀ W, _) := fun W => namesK_any W
  have HP : Hid (∀ W2, Below w.heap.size w W2 → W2.cell? ⟨w.heap.size, 2, none⟩ = some (.int .i64 q.a) → Calls Tryz.prog 32 #[.pointer (some ⟨B, 0, none⟩), .int .i64 (pickI q.day 12), .string (nmK i)] W2 fun r w' => r = .returned (.tuple #[.int .i64 (s.closeN (pickI q.day 12) (nmK i)), .int .i64 (s.closeE (pickI q.day 12) (nmK i))]) ∧ w'.heap[R]? = some (.cells #[.pointer (some ⟨B, 0, none⟩), .int .i64 s.ne, .int .i64 s.lk] 31 (0, 0)) ∧ w'.cell? ⟨w.heap.size, 2, none⟩ = some (.int .i64 q.a) ∧ Hid (∃ Fp', ProgIs w' B (s.afterClose (pickI q.day 12) (nmK i)) Fp' ∧ Turn Fp W2 w' ∧ ∀ b, Fp' b → Fp b ∨ W2.heap.size ≤ b)) := fun W2 hW hp2 => by
    refine (progClose B s Fp (pickI q.day 12) (nmK i) W2 (h.pg.turn (S := fun _ => False) (Turn.of_below hW) (fun _ _ h => h)) hk.ok).mono ?_
    rintro r w' ⟨rfl, Fp', q1, q2, q3⟩
    exact ⟨rfl, run_kept h hW q2, (World.cell?_of_block (w := W2) (q2.block w.heap.size (World.block_lt_of_cell? _ _ hp2) (fun hF => by have := h.pg.lt hF; omega))).trans hp2, ⟨Fp', q1, q2, q3⟩⟩
  obtain ⟨N, hN⟩ : ∃ N, s.closeN (pickI q.day 12) (nmK i) = N := ⟨_, rfl⟩
  obtain ⟨E, hE⟩ : ∃ E, s.closeE (pickI q.day 12) (nmK i) = E := ⟨_, rfl⟩
  obtain ⟨t, ht⟩ : ∃ t, s.afterClose (pickI q.day 12) (nmK i) = t := ⟨_, rfl⟩
  have HC : Hid ((pickI q.day 12 ≤ s.lk ∧ E = 11 ∧ N = 0 ∧ t = s) ∨ (¬ pickI q.day 12 ≤ s.lk ∧ E = 7 ∧ N = 0 ∧ t = s) ∨ (¬ pickI q.day 12 ≤ s.lk ∧ E = 0 ∧ N = (s.ne : Int) + 1 ∧ t.ne = s.ne + 1 ∧ t.lk = pickI q.day 12)) := by
    show _ ∨ _
    rw [← hN, ← hE, ← ht]
    by_cases hl : pickI q.day 12 ≤ s.lk
    · have e11 : s.closeE (pickI q.day 12) (nmK i) = 11 := by rw [hpe, if_pos hl]
      refine .inl ⟨hl, e11, ?_, ?_⟩
      · unfold St.closeN; rw [e11]; rfl
      · unfold St.afterClose; rw [e11]; rfl
    · rw [if_neg hl] at hpe
      cases hz : (s.closeL0 (pickI q.day 12)).isEmpty
      · have e0 : s.closeE (pickI q.day 12) (nmK i) = 0 := by rw [hpe, hz]; rfl
        refine .inr (.inr ⟨hl, e0, ?_, ?_⟩)
        · unfold St.closeN; rw [if_pos e0]
        · unfold St.afterClose; rw [if_pos e0]; exact ⟨rfl, rfl⟩
      · have e7 : s.closeE (pickI q.day 12) (nmK i) = 7 := by rw [hpe, hz]; rfl
        refine .inr (.inl ⟨hl, e7, ?_, ?_⟩)
        · unfold St.closeN; rw [e7]; rfl
        · unfold St.afterClose; rw [e7]; rfl
  rw [hN, hE, ht] at HP
  rw [ht]
  clear hN hE ht
  have HH : Hid (type_of% h) := h
  have cellN : ∀ {Wx w2 : World}, w2 = Wx.alloc (.cells nmCells 9) → w2.cell? ⟨Wx.heap.size, i, none⟩ = some (.string (nmK i)) := fun {Wx w2} e => by
    rw [e]; exact blk_cell' (heap_alloc_new Wx _) (nmCells_get i (by omega))
  clear h hk hq hbp hks hpe hW1
  show Calls _ _ #[_, .agg #[.int .i64 q.kind, .int .i64 q.day, .int .i64 q.a, .int .i64 q.b, .int .i64 q.c]] _ _
  go_enter Tryz.func13, Tryz.ntmps13
  go_wp2_with (go_at_call 14; with_reducible refine Calls.mono (pickK_any _ _ _ (by omega) (by omega) (by omega) (by omega)) ?_; rintro e wx ⟨rfl, hw⟩; rw [hw]; clear hw wx)
  go_region_with (first
      | (go_at_call 14; with_reducible refine Calls.mono (pickK_any _ _ _ (by omega) (by omega) (by omega) (by omega)) ?_; rintro e wx ⟨rfl, hw⟩; rw [hw]; clear hw wx)
      | (go_at_call 33; with_reducible refine Calls.mono (CN.out _) ?_; rintro e w2 ⟨rfl, hw2⟩; have hb2 : Grew W1 w2 := (by rw [hw2]; first | exact ((Grew.refl W1).drew).alloc _ | exact (Grew.refl W1).alloc _); have hg02 := hka.trans hb2; have cN := cellN hw2; (try rw [drew_size] at cN); have rB2 : w2.cell? ⟨R, 0, none⟩ = some (.pointer (some ⟨B, 0, none⟩)) := hb2.cell' rB; have p22 := hb2.cell' p2; clear hw2)
      | (go_at_call 32; with_reducible refine Calls.mono (HP.out _ ?_ ?_) ?_; (first | exact hg02.below | exact hg02.drew.below); (exact p22); rintro e w3 ⟨rfl, hrn, y2, hq3⟩; have x0 := blk_cell' hrn (o := 0) rfl; have x1 := blk_cell' hrn (o := 1) rfl; have x2 := blk_cell' hrn (o := 2) rfl; have z1 := blk_free hrn 1; have z2 := blk_free hrn 2))
  all_goals
    obtain ⟨hl, rfl, rfl, rfl⟩ | ⟨hl, rfl, rfl, rfl⟩ | ⟨hl, rfl, rfl, ea⟩ := HC.out
    · go_wp2
      go_ret
      refine ⟨by first | rfl | (simp; done), ?_⟩
      obtain ⟨Fp', q1, q2, q3⟩ := hq3.out
      exact stepped_by HH.out hg02.below q1 q2 q3 hrn (Turn.refl _ _)
    · go_wp2
      go_ret
      refine ⟨by first | rfl | (simp; done), ?_⟩
      obtain ⟨Fp', q1, q2, q3⟩ := hq3.out
      exact stepped_by HH.out hg02.below q1 q2 q3 hrn (Turn.refl _ _)
    · have eA : Hid _ := ea
      clear ea
      go_wp2
      go_ret
      refine ⟨by first | rfl | (simp; done), ?_⟩
      obtain ⟨Fp', q1, q2, q3⟩ := hq3.out
      refine stepped_by HH.out hg02.below q1 q2 q3 (w'' := _) ?_ (turn_two R w3 _ _)
      rw [eA.out.1, eA.out.2]
      exact blk_set (blk_set hrn 1 (.int .i64 ((s.ne : Int) + 1))) 2 _
end Go.Proofs.YtjnmoddcodnadaaGreatDoor
namespace Go.Proofs.YtjnmoddcodnadaaGreatDoor
open Go.RowKit Go.Annal Go.Sort
set_option maxHeartbeats 4000000 in
set_option maxRecDepth 100000 in
theorem step_rev (R B : Nat) (s : St) (Fp : Nat → Prop) (q : K5) (w : World) (h : RunIs w R B s Fp) (hk : KOk s) (hne : s.ne < 60) (hq : q.ok) (hK : pickI q.kind 8 = 5) (h0 : 0 < s.ne) :
    Calls Tryz.prog 13 #[.pointer (some ⟨R, 0, none⟩), .agg q.v] w fun r w' => r = .returned (.bool true) ∧ SteppedTo w w' R B (s.kstep q) Fp := by
  have hks : s.kstep q = s.afterRev (1 + pickI q.a s.ne) := by
    unfold St.kstep
    rw [if_neg (by omega), if_pos ⟨hK, h0⟩]
  rw [hks]
  obtain ⟨hq1, hq2, hq3, hq4, hq5⟩ := id hq
  have hd := pickI_bd q.day 12 (by decide)
  have hlk := hk.lk
  have hka : Grew w (w.alloc (.cells q.v 38)) := (Grew.refl _).alloc _
  have hbp := heap_alloc_new w (.cells q.v 38)
  have p0 : (w.alloc (.cells q.v 38)).cell? ⟨w.heap.size, 0, none⟩ = some (.int .i64 q.kind) := blk_cell' hbp rfl
  have p1 : (w.alloc (.cells q.v 38)).cell? ⟨w.heap.size, 1, none⟩ = some (.int .i64 q.day) := blk_cell' hbp rfl
  have p2 : (w.alloc (.cells q.v 38)).cell? ⟨w.heap.size, 2, none⟩ = some (.int .i64 q.a) := blk_cell' hbp rfl
  have rB : (w.alloc (.cells q.v 38)).cell? ⟨R, 0, none⟩ = some (.pointer (some ⟨B, 0, none⟩)) := hka.cell' (blk_cell' h.rn (o := 0) rfl)
  have rN : (w.alloc (.cells q.v 38)).cell? ⟨R, 1, none⟩ = some (.int .i64 s.ne) := hka.cell' (blk_cell' h.rn (o := 1) rfl)
  have hkb := hka.below
  obtain ⟨W1, hW1⟩ : ∃ W1, w.alloc (.cells q.v 38) = W1 := ⟨_, rfl⟩
  have hW1' : w.alloc (.cells #[.int .i64 q.kind, .int .i64 q.day, .int .i64 q.a, .int .i64 q.b, .int .i64 q.c] 38) = W1 := hW1
  rw [hW1] at hka hbp p0 p1 p2 rB rN hkb
  have hn0 : (0 : Int) < (s.ne : Int) := by omega
  have hpa := pickI_bd q.a s.ne hn0
  have hpe := hk.revE (entry := 1 + pickI q.a s.ne) (by omega) (by omega) hne
  have HP : Hid (∀ W2, Below w.heap.size w W2 → W2.cell? ⟨w.heap.size, 2, none⟩ = some (.int .i64 q.a) → Calls Tryz.prog 30 #[.pointer (some ⟨B, 0, none⟩), .int .i64 (1 + pickI q.a s.ne)] W2 fun r w' => r = .returned (.tuple #[.int .i64 (s.revN (1 + pickI q.a s.ne)), .int .i64 (s.revE (1 + pickI q.a s.ne))]) ∧ w'.heap[R]? = some (.cells #[.pointer (some ⟨B, 0, none⟩), .int .i64 s.ne, .int .i64 s.lk] 31 (0, 0)) ∧ w'.cell? ⟨w.heap.size, 2, none⟩ = some (.int .i64 q.a) ∧ Hid (∃ Fp', ProgIs w' B (s.afterRev (1 + pickI q.a s.ne)) Fp' ∧ Turn Fp W2 w' ∧ ∀ b, Fp' b → Fp b ∨ W2.heap.size ≤ b)) := fun W2 hW hp2 => by
    refine (progRev B s Fp (1 + pickI q.a s.ne) W2 (h.pg.turn (S := fun _ => False) (Turn.of_below hW) (fun _ _ h => h)) hk.ok).mono ?_
    rintro r w' ⟨rfl, Fp', q1, q2, q3⟩
    exact ⟨rfl, run_kept h hW q2, (World.cell?_of_block (w := W2) (q2.block w.heap.size (World.block_lt_of_cell? _ _ hp2) (fun hF => by have := h.pg.lt hF; omega))).trans hp2, ⟨Fp', q1, q2, q3⟩⟩
  have HH : Hid (type_of% h) := h
  have HPE : Hid (type_of% hpe) := hpe
  clear h hk hq hbp hks hpe
  clear hW1
  obtain ⟨hpa1, hpa2⟩ := hpa
  have hwr : IntKind.i64.wrap (1 + pickI q.a s.ne) = 1 + pickI q.a s.ne := wrap_id _ (by omega) (by omega)
  cases hg : s.gn (1 + pickI q.a s.ne - 1).toNat
  · have e0 : s.revE (1 + pickI q.a s.ne) = 0 := by rw [HPE.out, hg]; rfl
    have en : s.revN (1 + pickI q.a s.ne) = (s.ne : Int) + 1 := by unfold St.revN; rw [if_pos e0]
    have ea : Hid ((s.afterRev (1 + pickI q.a s.ne)).ne = s.ne + 1 ∧ (s.afterRev (1 + pickI q.a s.ne)).lk = s.lk) := by show _ ∧ _; unfold St.afterRev; rw [if_pos e0]; exact ⟨rfl, rfl⟩
    rw [e0, en] at HP
    clear hg
    show Calls _ _ #[_, .agg #[.int .i64 q.kind, .int .i64 q.day, .int .i64 q.a, .int .i64 q.b, .int .i64 q.c]] _ _
    go_enter Tryz.func13, Tryz.ntmps13
    go_wp2_with (go_at_call 14; refine Calls.mono (pickK_any _ _ _ (by omega) (by omega) (by omega) (by omega)) ?_; rintro e wx ⟨rfl, hw⟩; rw [hw]; clear hw wx)
    go_region_held3 (fun w' => w'.cell? ⟨R, 0, none⟩ = some (.pointer (some ⟨B, 0, none⟩)) ∧ w'.cell? ⟨R, 1, none⟩ = some (.int .i64 s.ne) ∧ w'.cell? ⟨w.heap.size, 2, none⟩ = some (.int .i64 q.a)) (first | exact ⟨x0, x1, y2⟩ | exact ⟨rB, rN, p2⟩ | go_keep)
      (first
        | (go_at_call 14; with_reducible refine Calls.mono (pickK_any _ _ _ (by omega) (by omega) (by omega) (by omega)) ?_; rintro e wx ⟨rfl, hw⟩; rw [hw]; clear hw wx)
        | (go_at_call 30; (try rw [hwr]); go_loud (with_reducible refine Calls.mono (HP.out _ ?_ ?_) ?_); go_loud (first | exact (hka.drew).below | exact hka.below); go_loud (exact p2); rintro e w3 ⟨rfl, hrn, y2, hq3⟩; have x0 := blk_cell' hrn (o := 0) rfl; have x1 := blk_cell' hrn (o := 1) rfl; have x2 := blk_cell' hrn (o := 2) rfl; have z1 := blk_free hrn 1; have z2 := blk_free hrn 2))
    all_goals go_wp2
    all_goals go_ret
    all_goals
      refine ⟨by first | rfl | (simp; done), ?_⟩
      obtain ⟨Fp', q1, q2, q3⟩ := hq3.out
      exact stepped_by HH.out (hka.drew).below q1 q2 q3 (by rw [ea.out.1, ea.out.2]; exact blk_set hrn 1 (.int .i64 ((s.ne : Int) + 1))) ((Turn.refl _ _).set _ _ (fun _ => rfl))
  · have e12 : s.revE (1 + pickI q.a s.ne) = 12 := by rw [HPE.out, hg]; rfl
    have en : s.revN (1 + pickI q.a s.ne) = 0 := by unfold St.revN; rw [e12]; rfl
    have ea : Hid (s.afterRev (1 + pickI q.a s.ne) = s) := by show _ = _; unfold St.afterRev; rw [e12]; rfl
    rw [e12, en] at HP
    clear hg
    show Calls _ _ #[_, .agg #[.int .i64 q.kind, .int .i64 q.day, .int .i64 q.a, .int .i64 q.b, .int .i64 q.c]] _ _
    go_enter Tryz.func13, Tryz.ntmps13
    go_wp2_with (go_at_call 14; refine Calls.mono (pickK_any _ _ _ (by omega) (by omega) (by omega) (by omega)) ?_; rintro e wx ⟨rfl, hw⟩; rw [hw]; clear hw wx)
    go_region_held3 (fun w' => w'.cell? ⟨R, 0, none⟩ = some (.pointer (some ⟨B, 0, none⟩)) ∧ w'.cell? ⟨R, 1, none⟩ = some (.int .i64 s.ne) ∧ w'.cell? ⟨w.heap.size, 2, none⟩ = some (.int .i64 q.a)) (first | exact ⟨x0, x1, y2⟩ | exact ⟨rB, rN, p2⟩ | go_keep)
      (first
        | (go_at_call 14; with_reducible refine Calls.mono (pickK_any _ _ _ (by omega) (by omega) (by omega) (by omega)) ?_; rintro e wx ⟨rfl, hw⟩; rw [hw]; clear hw wx)
        | (go_at_call 30; (try rw [hwr]); go_loud (with_reducible refine Calls.mono (HP.out _ ?_ ?_) ?_); go_loud (first | exact (hka.drew).below | exact hka.below); go_loud (exact p2); rintro e w3 ⟨rfl, hrn, y2, hq3⟩; have x0 := blk_cell' hrn (o := 0) rfl; have x1 := blk_cell' hrn (o := 1) rfl; have x2 := blk_cell' hrn (o := 2) rfl; have z1 := blk_free hrn 1; have z2 := blk_free hrn 2))
    all_goals go_wp2
    all_goals go_ret
    all_goals
      refine ⟨by first | rfl | (simp; done), ?_⟩
      obtain ⟨Fp', q1, q2, q3⟩ := hq3.out
      rw [ea.out] at q1 ⊢
      exact stepped_by HH.out (hka.drew).below q1 q2 q3 hrn (Turn.refl _ _)
end Go.Proofs.YtjnmoddcodnadaaGreatDoor
namespace Go.Proofs.YtjnmoddcodnadaaGreatDoor
open Go.RowKit Go.Annal Go.Sort
/-- A step, whatever it is. -/
theorem step_any (R B : Nat) (s : St) (Fp : Nat → Prop) (q : K5) (w : World) (h : RunIs w R B s Fp) (hk : KOk s) (hne : s.ne < 60) (hq : q.ok) :
    Calls Tryz.prog 13 #[.pointer (some ⟨R, 0, none⟩), .agg q.v] w fun r w' => r = .returned (.bool true) ∧ SteppedTo w w' R B (s.kstep q) Fp := by
  have hb := pickI_bd q.kind 8 (by decide)
  by_cases h5 : pickI q.kind 8 < 5
  · exact step_post R B s Fp q w h hk hne hq h5
  · rcases (show pickI q.kind 8 = 5 ∨ pickI q.kind 8 = 6 ∨ pickI q.kind 8 = 7 by omega) with e | e | e
    · by_cases h0 : s.ne = 0
      · exact step_none R B s Fp q w h hk hne hq e h0
      · exact step_rev R B s Fp q w h hk hne hq e (by omega)
    · exact step_lock R B s Fp q w h hk hne hq e
    · exact step_close R B s Fp q w h hk hne hq e
/-- A run whose memory lies within S. -/
def RunAt (S : Nat → Prop) (w : World) (R : Nat) (s : St) : Prop := ∃ B Fp, RunIs w R B s Fp ∧ S R ∧ ∀ b, Fp b → S b
theorem RunAt.mv {S : Nat → Prop} {w w' : World} {R : Nat} {s : St} (h : RunAt S w R s) (hb : Below w.heap.size w w') : RunAt S w' R s := by
  obtain ⟨B, Fp, h1, h2, h3⟩ := h
  exact ⟨B, Fp, h1.mv hb, h2, h3⟩
theorem step_at (S : Nat → Prop) (R : Nat) (s : St) (q : K5) (w : World) (h : RunAt S w R s) (hS : ∀ b, w.heap.size ≤ b → S b) (hk : KOk s) (hne : s.ne < 60) (hq : q.ok) :
    Calls Tryz.prog 13 #[.pointer (some ⟨R, 0, none⟩), .agg q.v] w fun r w' => r = .returned (.bool true) ∧ Hid (RunAt S w' R (s.kstep q) ∧ Turn S w w') := by
  obtain ⟨B, Fp, h1, h2, h3⟩ := h
  refine (step_any R B s Fp q w h1 hk hne hq).mono ?_
  rintro r w' ⟨rfl, Fp', q1, q2, q3⟩
  refine ⟨rfl, ⟨B, Fp', q1, h2, fun b hb => (q3 b hb).elim (h3 b) (hS b)⟩, q2.mono (fun b _ hb => hb.elim (fun e => e ▸ h2) (h3 b))⟩
theorem turn_below {S : Nat → Prop} {w0 w w' : World} (h0 : Below w0.heap.size w0 w) (ht : Turn S w w') (hS : ∀ b, S b → w0.heap.size ≤ b) : Below w0.heap.size w0 w' :=
  ⟨ht.os.trans h0.os, ht.tape.trans h0.tape, ht.output.trans h0.output, Nat.le_trans h0.size ht.size, fun x hx => (ht.block x (Nat.lt_of_lt_of_le hx h0.size) (fun h => by have := hS x h; omega)).trans (h0.block x hx)⟩
/-- Steps that came in. -/
structure StepsV (w : World) (ad : Option Addr) (n : Nat) (qs : Nat → K5) : Prop where
  at' : 0 < n → ∃ g o, ad = some ⟨g, o, none⟩ ∧ (∀ k, k < n → w.cell? ⟨g, o + k * 5, none⟩ = some (.int .i64 (qs k).kind)) ∧ (∀ k, k < n → w.cell? ⟨g, o + k * 5 + 1, none⟩ = some (.int .i64 (qs k).day)) ∧ (∀ k, k < n → w.cell? ⟨g, o + k * 5 + 2, none⟩ = some (.int .i64 (qs k).a)) ∧ (∀ k, k < n → w.cell? ⟨g, o + k * 5 + 3, none⟩ = some (.int .i64 (qs k).b)) ∧ (∀ k, k < n → w.cell? ⟨g, o + k * 5 + 4, none⟩ = some (.int .i64 (qs k).c))
  ok : ∀ k, k < n → (qs k).ok
theorem StepsV.mv {w w' : World} {ad : Option Addr} {n : Nat} {qs : Nat → K5} (h : StepsV w ad n qs) (hb : Below w.heap.size w w') : StepsV w' ad n qs :=
  ⟨fun hn => by
    obtain ⟨g, o, e, c0, c1, c2, c3, c4⟩ := h.at' hn
    exact ⟨g, o, e, fun k hk => cell_later hb (c0 k hk), fun k hk => cell_later hb (c1 k hk), fun k hk => cell_later hb (c2 k hk), fun k hk => cell_later hb (c3 k hk), fun k hk => cell_later hb (c4 k hk)⟩, h.ok⟩
def lim (n m : Nat) : Nat := if n < m then n else m
theorem lim_le (n m : Nat) : lim n m ≤ n ∧ lim n m ≤ m := by unfold lim; split <;> omega
theorem lim_eq {n m i : Nat} (h : i ≤ n) (h' : i ≤ m) (hh : ¬ (i < n ∧ i < m)) : i = lim n m := by unfold lim; split <;> omega
end Go.Proofs.YtjnmoddcodnadaaGreatDoor
namespace Go.Proofs.YtjnmoddcodnadaaGreatDoor
open Go.RowKit Go.Annal Go.Sort
set_option maxHeartbeats 4000000 in
set_option maxRecDepth 100000 in
theorem run_any (ad : Option Addr) (n cap : Nat) (qs : Nat → K5) (w : World) (hS : StepsV w ad n qs) :
    Calls Tryz.prog 10 #[.slice ad n cap] w fun r w' => ∃ R, r = .returned (.pointer (some ⟨R, 0, none⟩)) ∧ Hid (RunAt (fun b => w.heap.size ≤ b) w' R (krun qs (lim n 40)) ∧ Below w.heap.size w w') := by
  have HS : Hid (type_of% hS) := hS
  have CF : Hid (∀ W, _) := fun W => fresh_any W
  clear hS
  go_enter Tryz.func10, Tryz.ntmps10
  go_wp2_with (go_at_call 20; with_reducible refine Calls.mono (CF.out _) ?_; rintro e w1 ⟨R, rfl, hf⟩)
  have HF : Hid (RunAt (fun b => w.heap.size ≤ b) w1 R (krun qs 0) ∧ Below w.heap.size w w1) := by
    obtain ⟨B, Fp, h1, h2, h3, h4⟩ := hf.out
    exact ⟨⟨B, Fp, h1, h2, h3⟩, h4⟩
  clear hf CF
  go_loopw [4, 5] (fun s3 _ wr => ∃ i : Nat, i ≤ n ∧ i ≤ 40 ∧ s3 = .int .i64 i ∧ Hid (RunAt (fun b => w.heap.size ≤ b) wr R (krun qs i) ∧ Below w.heap.size w wr)) (fun s3 _ _ => 40 - (intOf s3).toNat)
  case atStart => exact ⟨0, by omega, by omega, rfl, HF⟩
  case round =>
    obtain ⟨i, hin, hi40, rfl, hr⟩ := hrel
    clear HF
    have hi0 : (0 : Int) ≤ (i : Int) := by omega
    by_cases hlt : i < n ∧ i < 40
    · have hlt1 : (i : Int) < (n : Int) := by omega
      have hlt2 : (i : Int) < 40 := by omega
      obtain ⟨g, o, rfl, c0, c1, c2, c3, c4⟩ := HS.out.at' (by omega)
      have hb := hr.out.2
      have d0 := cell_later hb (c0 i hlt.1)
      have d1 := cell_later hb (c1 i hlt.1)
      have d2 := cell_later hb (c2 i hlt.1)
      have d3 := cell_later hb (c3 i hlt.1)
      have d4 := cell_later hb (c4 i hlt.1)
      have C1 : Hid (Calls Tryz.prog 13 #[.pointer (some ⟨R, 0, none⟩), .agg #[.int .i64 (qs i).kind, .int .i64 (qs i).day, .int .i64 (qs i).a, .int .i64 (qs i).b, .int .i64 (qs i).c]] wr fun r w' => r = .returned (.bool true) ∧ Hid (RunAt (fun b => w.heap.size ≤ b) w' R (krun qs (i + 1)) ∧ Below w.heap.size w w')) := by
        have ho := krun_ok qs i
        refine (step_at (fun b => w.heap.size ≤ b) R (krun qs i) (qs i) wr hr.out.1 (fun b h => Nat.le_trans hb.size h) ho.1 (by omega) (HS.out.ok i hlt.1)).mono ?_
        rintro r w' ⟨rfl, q1, q2⟩
        exact ⟨rfl, q1, turn_below hb q2 (fun _ h => h)⟩
      clear c0 c1 c2 c3 c4 hb HS
      go_wp2_with (go_at_call 13; with_reducible refine Calls.mono C1.out ?_; rintro e w5 ⟨rfl, h5⟩)
      exact ⟨⟨i + 1, by omega, by omega, by go_num, h5⟩, by simp [intOf]; omega⟩
    · have he : Hid (i = lim n 40) := lim_eq hin hi40 hlt
      by_cases h1 : i < n
      · have h1' : (i : Int) < (n : Int) := by omega
        have h2' : ¬ (i : Int) < 40 := by omega
        go_wp2
        go_ret
        refine ⟨R, rfl, ?_⟩
        rw [← he.out]
        exact hr
      · have h1' : ¬ (i : Int) < (n : Int) := by omega
        go_wp2
        go_ret
        refine ⟨R, rfl, ?_⟩
        rw [← he.out]
        exact hr
end Go.Proofs.YtjnmoddcodnadaaGreatDoor
namespace Go.Proofs.YtjnmoddcodnadaaGreatDoor
open Go.RowKit Go.Annal Go.Sort
/-- A table that lies in memory. -/
def TabAt (w : World) (g : Nat) (f : Nat → Int) : Prop := ∀ j, j < 78 → w.cell? ⟨g, j, none⟩ = some (.int .i64 (f j))
theorem TabAt.turn {S : Nat → Prop} {w w' : World} {g : Nat} {f : Nat → Int} (h : TabAt w g f) (ht : Turn S w w') (hs : ¬ S g) : TabAt w' g f := fun j hj =>
  (World.cell?_of_block (w := w) (ht.block g (World.block_lt_of_cell? _ _ (h j hj)) hs)).trans (h j hj)
theorem TabAt.mv {w w' : World} {g : Nat} {f : Nat → Int} (h : TabAt w g f) (hb : Below w.heap.size w w') : TabAt w' g f := fun j hj => cell_later hb (h j hj)
theorem TabAt.lt {w : World} {g : Nat} {f : Nat → Int} (h : TabAt w g f) : g < w.heap.size := World.block_lt_of_cell? _ _ (h 0 (by decide))
theorem table_at (S : Nat → Prop) (R : Nat) (s : St) (known : Int) (w : World) (h : RunAt S w R s) (hk : KOk s) (k0 : 0 ≤ known) (k1 : known ≤ s.ne) :
    Calls Tryz.prog 15 #[.pointer (some ⟨R, 0, none⟩), .int .i64 known] w fun r w' => ∃ g c, r = .returned (.tuple #[.slice (some ⟨g, 0, none⟩) 78 c, .bool true]) ∧ Hid (w.heap.size ≤ g ∧ TabAt w' g (tabF s known) ∧ RunAt S w' R s ∧ Below w.heap.size w w') := by
  obtain ⟨B, Fp, h1, h2, h3⟩ := id h
  refine (table_any R B s Fp known w h1 hk k0 k1).mono ?_
  rintro r w' ⟨v, rfl, ho, hb⟩
  rcases ho.2 with ⟨_, h0⟩ | ⟨g, cap, cur, rfl, hg, hc, hr⟩
  · exact absurd h0 (by decide)
  · refine ⟨g, cap, rfl, hg, fun j hj => ?_, h.mv hb, hb⟩
    rw [ho.cellAt j (by omega)]
    unfold tabL
    rw [List.getElem?_map, List.getElem?_range hj]
    rfl
theorem same_tab (ga gb ca cb : Nat) (f f' : Nat → Int) (w : World) (ha : TabAt w ga f) (hb : TabAt w gb f') (he : ∀ j, j < 78 → f j = f' j) :
    Calls Tryz.prog 16 #[.slice (some ⟨ga, 0, none⟩) 78 ca, .slice (some ⟨gb, 0, none⟩) 78 cb] w fun r w' => r = .returned (.bool true) ∧ Below w.heap.size w w' :=
  same_all ga gb 78 ca cb f w ha (fun j hj => by rw [hb j hj, he j hj]) (by decide)
theorem tab_known {s t : St} (h : s.Le t) {known : Int} (k0 : 0 ≤ known) (k1 : known ≤ s.ne) (j : Nat) : tabF t known j = tabF s known j := by
  unfold tabF
  exact St.known_le h _ _ (by omega)
/-- The memory of a run, but for what was made behind it. -/
def ofRun (R : Nat) (Fp : Nat → Prop) (n : Nat) (b : Nat) : Prop := b = R ∨ Fp b ∨ n ≤ b
theorem RunAt.only {S : Nat → Prop} {w w' : World} {R : Nat} {s : St} (h : RunAt S w R s) (hb : Below w.heap.size w w') : ∃ S', RunAt S' w' R s ∧ (∀ b, w'.heap.size ≤ b → S' b) ∧ (∀ b, S' b → S b ∨ w'.heap.size ≤ b) ∧ (∀ b, w.heap.size ≤ b → b < w'.heap.size → ¬ S' b) := by
  obtain ⟨B, Fp, h1, h2, h3⟩ := id h
  have hR := blk_lt h1.rn
  refine ⟨ofRun R Fp w'.heap.size, ⟨B, Fp, h1.mv hb, .inl rfl, fun b hb => .inr (.inl hb)⟩, fun b hb => .inr (.inr hb), fun b hb => ?_, fun b hb1 hb2 hs => ?_⟩
  · rcases hb with rfl | hb | hb
    · exact .inl h2
    · exact .inl (h3 b hb)
    · exact .inr hb
  · rcases hs with rfl | hs | hs
    · omega
    · have := h1.pg.lt hs; omega
    · omega
end Go.Proofs.YtjnmoddcodnadaaGreatDoor
namespace Go.Proofs.YtjnmoddcodnadaaGreatDoor
open Go.RowKit Go.Annal Go.Sort
theorem changed_at (w W : World) (h : Below w.heap.size w W) : Calls Tryz.prog 19 #[] W fun r w' => r = .returned (.bool true) ∧ Below w.heap.size w w' :=
  (changed_any W).mono fun _ _ ⟨hr, hb⟩ => ⟨hr, h.trans (hb.mono h.size)⟩
/-- A run behind steps that came in, and what it has. -/
theorem run_at (w0 w : World) (ad : Option Addr) (n cap : Nat) (qs : Nat → K5) (hS : StepsV w0 ad n qs) (h0 : Below w0.heap.size w0 w) :
    Calls Tryz.prog 10 #[.slice ad n cap] w fun r w' => ∃ R, r = .returned (.pointer (some ⟨R, 0, none⟩)) ∧ Hid (RunAt (fun b => w0.heap.size ≤ b) w' R (krun qs (lim n 40)) ∧ Below w0.heap.size w0 w') := by
  refine (run_any ad n cap qs w (hS.mv h0)).mono ?_
  rintro r w' ⟨R, rfl, hr⟩
  obtain ⟨⟨B, Fp, h1, h2, h3⟩, hb⟩ := hr.out
  exact ⟨R, rfl, ⟨B, Fp, h1, Nat.le_trans h0.size h2, fun b hb => Nat.le_trans h0.size (h3 b hb)⟩, h0.trans (hb.mono h0.size)⟩
theorem RunAt.n {S : Nat → Prop} {w : World} {R : Nat} {s : St} (h : RunAt S w R s) : w.cell? ⟨R, 1, none⟩ = some (.int .i64 s.ne) := by
  obtain ⟨B, Fp, h1, h2, h3⟩ := h
  exact blk_cell' h1.rn rfl
theorem RunAt.l {S : Nat → Prop} {w : World} {R : Nat} {s : St} (h : RunAt S w R s) : w.cell? ⟨R, 2, none⟩ = some (.int .i64 s.lk) := by
  obtain ⟨B, Fp, h1, h2, h3⟩ := h
  exact blk_cell' h1.rn rfl
theorem run_small (qs : Nat → K5) (n : Nat) : KOk (krun qs (lim n 40)) ∧ (krun qs (lim n 40)).ne ≤ 40 := by
  obtain ⟨h1, h2⟩ := krun_ok qs (lim n 40)
  exact ⟨h1, Nat.le_trans h2 (lim_le n 40).2⟩
end Go.Proofs.YtjnmoddcodnadaaGreatDoor
namespace Go.Proofs.YtjnmoddcodnadaaGreatDoor
open Go.RowKit Go.Annal Go.Sort
theorem RunIs.turn {w w' : World} {R B : Nat} {s : St} {Fp : Nat → Prop} (h : RunIs w R B s Fp) {S : Nat → Prop} (ht : Turn S w w') (hR : ¬ S R) (hF : ∀ b, Fp b → ¬ S b) : RunIs w' R B s Fp := ⟨ht.blk h.rn hR, h.pg.turn ht hF, h.ap⟩
/-- Two runs side by side. -/
def Two (b0 : Nat) (w : World) (R1 B1 R2 B2 : Nat) (s1 s2 : St) : Prop := ∃ F1 F2, RunIs w R1 B1 s1 F1 ∧ RunIs w R2 B2 s2 F2 ∧ R1 ≠ R2 ∧ ¬ F1 R2 ∧ ¬ F2 R1 ∧ (∀ b, F1 b → ¬ F2 b) ∧ b0 ≤ R1 ∧ b0 ≤ R2 ∧ (∀ b, F1 b → b0 ≤ b) ∧ (∀ b, F2 b → b0 ≤ b)
section
variable {b0 : Nat} {w w' : World} {R1 B1 R2 B2 : Nat} {s1 s2 : St}
theorem Two.symm (h : Two b0 w R1 B1 R2 B2 s1 s2) : Two b0 w R2 B2 R1 B1 s2 s1 := by
  obtain ⟨F1, F2, a1, a2, a3, a4, a5, a6, a7, a8, a9, a10⟩ := h
  exact ⟨F2, F1, a2, a1, a3.symm, a5, a4, fun b h h' => a6 b h' h, a8, a7, a10, a9⟩
theorem Two.mv (h : Two b0 w R1 B1 R2 B2 s1 s2) (hb : Below w.heap.size w w') : Two b0 w' R1 B1 R2 B2 s1 s2 := by
  obtain ⟨F1, F2, a1, a2, a⟩ := h
  exact ⟨F1, F2, a1.mv hb, a2.mv hb, a⟩
theorem Two.one (h : Two b0 w R1 B1 R2 B2 s1 s2) : RunAt (fun _ => True) w R1 s1 := by
  obtain ⟨F1, F2, a1, _⟩ := h
  exact ⟨B1, F1, a1, trivial, fun _ _ => trivial⟩
theorem Two.c0 (h : Two b0 w R1 B1 R2 B2 s1 s2) : w.cell? ⟨R1, 0, none⟩ = some (.pointer (some ⟨B1, 0, none⟩)) := by
  obtain ⟨F1, F2, a1, _⟩ := h
  exact blk_cell' a1.rn rfl
theorem Two.c1 (h : Two b0 w R1 B1 R2 B2 s1 s2) : w.cell? ⟨R1, 1, none⟩ = some (.int .i64 s1.ne) := by
  obtain ⟨F1, F2, a1, _⟩ := h
  exact blk_cell' a1.rn rfl
theorem Two.step (h : Two b0 w R1 B1 R2 B2 s1 s2) (_hb0 : b0 ≤ w.heap.size) (hk : KOk s1) (hne : s1.ne < 60) {q : K5} (hq : q.ok) :
    Calls Tryz.prog 13 #[.pointer (some ⟨R1, 0, none⟩), .agg q.v] w fun r w' => r = .returned (.bool true) ∧ Hid (Two b0 w' R1 B1 R2 B2 (s1.kstep q) s2 ∧ Turn (fun b => b0 ≤ b) w w') := by
  obtain ⟨F1, F2, a1, a2, a3, a4, a5, a6, a7, a8, a9, a10⟩ := h
  refine (step_any R1 B1 s1 F1 q w a1 hk hne hq).mono ?_
  rintro r w' ⟨rfl, F1', q1, q2, q3⟩
  have hR2 := blk_lt a2.rn
  refine ⟨rfl, ⟨F1', F2, q1, a2.turn q2 (fun e => e.elim (fun e => a3 e.symm) a4) (fun b hb e => e.elim (fun e => a5 (e ▸ hb)) (fun e => a6 b e hb)), a3, fun e => (q3 _ e).elim a4 (fun e => by omega), a5, fun b hb hb' => (q3 b hb).elim (fun e => a6 b e hb') (fun e => by have := a2.pg.lt hb'; omega), a7, a8, fun b hb => (q3 b hb).elim (a9 b) (fun e => by omega), a10⟩, q2.mono (fun b _ e => e.elim (fun e => e ▸ a7) (a9 b))⟩
theorem Two.write (h : Two b0 w R1 B1 R2 B2 s1 s2) (ho : s1.Ok) (ht : Tabs w) :
    Calls Tryz.prog 11 #[.pointer (some ⟨B1, 0, none⟩)] w fun r w' => r = .returned (.string s1.tx) ∧ Below w.heap.size w w' := by
  obtain ⟨F1, F2, a1, _⟩ := h
  exact progWrite B1 s1 F1 w a1.pg ho ht
end
theorem read_back {s : St} (h : Reads s) (ho : s.Ok) (w : World) (ht : Tabs w) :
    Calls Tryz.prog 12 #[.string s.tx] w fun r w' => r = .returned (.tuple #[.pointer (some ⟨w.heap.size + 3, 0, none⟩), .int .i64 0, .int .i64 0]) ∧ Hid (Below w.heap.size w w' ∧ ∃ Fp, ProgIs w' (w.heap.size + 3) s Fp ∧ ∀ b, Fp b → w.heap.size ≤ b) := by
  have hts := ho.ts
  have hne := ho.ne
  have hna := ho.na
  have hlk := ho.lk
  refine (read_F s.tx w ht (by omega)).mono ?_
  have hr := readL_ok _ _ _ 0 h.read
  rintro r w' ⟨hb, ⟨s', Fp, h1, h2, h3, h4, h5, h6, h7⟩ | ⟨p, x, s', h1, h2, h3, h4, h5⟩⟩
  · unfold readF at h1
    rw [hr] at h1
    have : s = s' := by simpa using h1
    subst this
    exact ⟨h5, hb, Fp, h6, h7⟩
  · unfold readF at h4
    rw [hr] at h4
    cases h4
/-- A run, with its book. -/
theorem run_two (w0 w : World) (ad : Option Addr) (n cap : Nat) (qs : Nat → K5) (hS : StepsV w0 ad n qs) (h0 : Below w0.heap.size w0 w) :
    Calls Tryz.prog 10 #[.slice ad n cap] w fun r w' => ∃ R B, r = .returned (.pointer (some ⟨R, 0, none⟩)) ∧ w'.cell? ⟨R, 0, none⟩ = some (.pointer (some ⟨B, 0, none⟩)) ∧ Hid (∃ Fp, RunIs w' R B (krun qs (lim n 40)) Fp ∧ w0.heap.size ≤ R ∧ (∀ b, Fp b → w0.heap.size ≤ b) ∧ Below w0.heap.size w0 w') := by
  refine (run_at w0 w ad n cap qs hS h0).mono ?_
  rintro r w' ⟨R, rfl, ⟨B, Fp, h1, h2, h3⟩, hb⟩
  exact ⟨R, B, rfl, blk_cell' h1.rn rfl, Fp, h1, h2, h3, hb⟩
theorem two_start {b0 : Nat} {w5 : World} {R B B2 : Nat} {s : St} {Fp Fp2 : Nat → Prop} (h1 : RunIs w5 R B s Fp) (h2 : ProgIs w5 B2 s Fp2) (hd : ∀ b, Fp b → ¬ Fp2 b) (hR : ¬ Fp2 R) (a1 : b0 ≤ R) (a2 : ∀ b, Fp b → b0 ≤ b) (a3 : ∀ b, Fp2 b → b0 ≤ b) :
    Two b0 (w5.alloc (.cells #[.pointer (some ⟨B2, 0, none⟩), .int .i64 s.ne, .int .i64 s.lk] 31)) R B w5.heap.size B2 s s := by
  have hb : Below w5.heap.size w5 (w5.alloc (.cells #[.pointer (some ⟨B2, 0, none⟩), .int .i64 s.ne, .int .i64 s.lk] 31)) := ((Grew.refl w5).alloc _).below
  have hlt := blk_lt h1.rn
  refine ⟨Fp, Fp2, h1.mv hb, ⟨heap_alloc_new w5 _, h2.turn (S := fun _ => False) (Turn.of_below hb) (fun _ _ h => h), fun h => by have := h2.lt h; omega⟩, by omega, fun h => by have := h1.pg.lt h; omega, hR, hd, a1, by omega, a2, a3⟩
set_option maxHeartbeats 2000000 in
set_option maxRecDepth 100000 in
theorem rewritten_walk (ad : Option Addr) (n cap : Nat) (qs : Nat → K5) (ad' : Option Addr) (n' cap' : Nat) (ms : Nat → K5) (known : Int) (w : World) (hS : StepsV w ad n qs) (hM : StepsV w ad' n' ms) (ht : Tabs w) (k1 : -9223372036854775808 ≤ known) (k2 : known ≤ 9223372036854775807) :
    Calls Tryz.prog 5 #[.slice ad n cap, .slice ad' n' cap', .int .i64 known] w fun r w' => r = .returned (.bool true) ∧ Below w.heap.size w w' := by
  have CC : Hid (type_of% (written_any w ht)) := written_any w ht
  have CT : Hid (∀ W, Below w.heap.size w W → Tabs W) := fun W h => ht.below h
  have CR : Hid (∀ W, Below w.heap.size w W → _) := fun W hW => run_two w W ad n cap qs hS hW
  obtain ⟨hk, hne⟩ := run_small qs n
  have hrd := krun_reads qs (lim n 40) (by have := (lim_le n 40).2; omega)
  obtain ⟨s, hs⟩ : ∃ s, krun qs (lim n 40) = s := ⟨_, rfl⟩
  rw [hs] at hk hne CR hrd
  have HM : Hid (type_of% hM) := hM
  have HK : Hid (type_of% hk) := hk
  have HRD : Hid (type_of% hrd) := hrd
  clear hs hS hM hk ht hrd
  have hne' : (s.ne : Int) ≤ 40 := by omega
  have CP : Hid (∀ (m : Nat), m ≤ 60 → ∃ k, 0 ≤ k ∧ k ≤ (m : Int) ∧ Hid (∀ W, Calls Tryz.prog 14 #[.int .i64 known, .int .i64 ((m : Int) + 1)] W fun r w' => r = .returned (.int .i64 k) ∧ w' = W)) := fun m hm => by
    have hb := pickI_bd known ((m : Int) + 1) (by omega)
    exact ⟨pickI known ((m : Int) + 1), hb.1, by omega, fun W => pickK_any known ((m : Int) + 1) W k1 k2 (by omega) (by omega)⟩
  go_enter Tryz.func5, Tryz.ntmps5
  go_wp2_with (first
    | (go_at_call 9; (with_reducible refine Calls.mono CC.out ?_); rintro e w1 ⟨rfl, hb1⟩)
    | (go_at_call 10; (with_reducible refine Calls.mono (CR.out _ hb1) ?_); rintro e w2 ⟨R, B, rfl, c0, h2⟩))
  obtain ⟨Fp, hr, hR0, hF0, hb2⟩ := h2.out
  with_reducible refine Calls.mono (progWrite B s Fp w2 hr.pg HK.out.ok (CT.out _ hb2)) ?_
  rintro e w3 ⟨rfl, hb3⟩
  have hb3' : Below w.heap.size w w3 := hb2.trans (hb3.mono hb2.size)
  have H3 : Hid (RunIs w3 R B s Fp ∧ w.heap.size ≤ R ∧ (∀ b, Fp b → w.heap.size ≤ b) ∧ Below w.heap.size w w3) := ⟨hr.mv hb3, hR0, hF0, hb3'⟩
  clear c0 h2 hr hR0 hF0 hb2 hb3 hb3' CC CR hb1
  go_wp2_with fail
  with_reducible refine Calls.mono (read_back HRD.out HK.out.ok w3 (CT.out _ H3.out.2.2.2)) ?_
  rintro e w4 ⟨rfl, h4⟩
  have CW4 : Hid (Calls Tryz.prog 11 #[.pointer (some ⟨w3.heap.size + 3, 0, none⟩)] w4 fun r w' => r = .returned (.string s.tx) ∧ Hid (RunIs w' R B s Fp ∧ Below w.heap.size w w' ∧ ∃ Fp2, ProgIs w' (w3.heap.size + 3) s Fp2 ∧ (∀ b, Fp2 b → w3.heap.size ≤ b)) ∧ w'.cell? ⟨R, 1, none⟩ = some (.int .i64 s.ne) ∧ w'.cell? ⟨R, 2, none⟩ = some (.int .i64 s.lk)) := by
    obtain ⟨hb4, Fp2, hp, hf⟩ := h4.out
    obtain ⟨hr, hR0, hF0, hb3⟩ := H3.out
    have hb4' := hb3.trans (hb4.mono hb3.size)
    refine (progWrite _ s Fp2 w4 hp HK.out.ok (CT.out _ hb4')).mono ?_
    rintro r w' ⟨rfl, hb5⟩
    have hr5 := (hr.mv hb4).mv hb5
    exact ⟨rfl, ⟨hr5, hb4'.trans (hb5.mono hb4'.size), Fp2, hp.turn (S := fun _ => False) (Turn.of_below hb5) (fun _ _ h => h), hf⟩, blk_cell' hr5.rn rfl, blk_cell' hr5.rn rfl⟩
  go_wp2_with (go_at_call 11; (with_reducible refine Calls.mono CW4.out ?_); rintro e w5 ⟨rfl, h5, c1, c2⟩)
  have HTw : Hid (Two w.heap.size (w5.alloc (.cells #[.pointer (some ⟨w3.heap.size + 3, 0, none⟩), .int .i64 s.ne, .int .i64 s.lk] 31)) R B w5.heap.size (w3.heap.size + 3) s s ∧ Below w.heap.size w (w5.alloc (.cells #[.pointer (some ⟨w3.heap.size + 3, 0, none⟩), .int .i64 s.ne, .int .i64 s.lk] 31))) := by
    obtain ⟨hr5, hb5, Fp2, hp, hf⟩ := h5.out
    obtain ⟨hr, hR0, hF0, hb3⟩ := H3.out
    have hlt := blk_lt hr.rn
    have hs3 := hb3.size
    exact ⟨two_start hr5 hp (fun b hb hb' => by have := hr.pg.lt hb; have := hf b hb'; omega) (fun hb => by have := hf R hb; omega) hR0 hF0 (fun b hb => by have := hf b hb; omega), hb5.alloc hb5.size _⟩
  go_region_with (fail)
  all_goals clear CW4 h4 h5 H3 c1 c2
  all_goals go_wp2_with fail
  all_goals
    have HTw' : Hid (Two w.heap.size (w5.alloc (.cells #[.pointer (some ⟨w3.heap.size + 3, 0, none⟩), .int .i64 s.ne, .int .i64 s.lk] 31)).drew R B w5.heap.size (w3.heap.size + 3) s s ∧ Below w.heap.size w (w5.alloc (.cells #[.pointer (some ⟨w3.heap.size + 3, 0, none⟩), .int .i64 s.ne, .int .i64 s.lk] 31)).drew) := ⟨HTw.out.1.mv ((Grew.refl _).drew).below, HTw.out.2.trans ((((Grew.refl _).drew).below).mono HTw.out.2.size)⟩
    clear HTw
    obtain ⟨R2, hR2⟩ : ∃ R2, w5.heap.size = R2 := ⟨_, rfl⟩
    obtain ⟨B2, hB2⟩ : ∃ B2, w3.heap.size + 3 = B2 := ⟨_, rfl⟩
    rw [hR2, hB2] at HTw' ⊢
    clear hR2 hB2
    go_loopw [14, 15, 16] (fun s14 _ _ wr => ∃ i : Nat, i ≤ n' ∧ i ≤ 10 ∧ s14 = .int .i64 i ∧ Hid (Two w.heap.size wr R B R2 B2 (kmore s ms i) (kmore s ms i) ∧ Below w.heap.size w wr)) (fun s14 _ _ _ => 10 - (intOf s14).toNat)
    case atStart => exact ⟨0, by omega, by omega, rfl, HTw'⟩
    case round =>
      obtain ⟨i, hin, hi10, rfl, hr⟩ := hrel
      clear HTw'
      have hi0 : (0 : Int) ≤ (i : Int) := by omega
      obtain ⟨hko, hle, hmn⟩ := kmore_ok HK.out ms i
      have HKO : Hid (type_of% hko) := hko
      clear hle hko
      by_cases hlt : i < n' ∧ i < 10
      · have hlt1 : (i : Int) < (n' : Int) := by omega
        have hlt2 : (i : Int) < 10 := by omega
        obtain ⟨g, o, rfl, c0, c1, c2, c3, c4⟩ := HM.out.at' (by omega)
        have hb := hr.out.2
        have d0 := cell_later hb (c0 i hlt.1)
        have d1 := cell_later hb (c1 i hlt.1)
        have d2 := cell_later hb (c2 i hlt.1)
        have d3 := cell_later hb (c3 i hlt.1)
        have d4 := cell_later hb (c4 i hlt.1)
        have C1 : Hid (Calls Tryz.prog 13 #[.pointer (some ⟨R, 0, none⟩), .agg #[.int .i64 (ms i).kind, .int .i64 (ms i).day, .int .i64 (ms i).a, .int .i64 (ms i).b, .int .i64 (ms i).c]] wr fun r w' => r = .returned (.bool true) ∧ Hid (Two w.heap.size w' R B R2 B2 (kmore s ms (i + 1)) (kmore s ms i) ∧ Below w.heap.size w w') ∧ w'.cell? ⟨g, o + i * 5, none⟩ = some (.int .i64 (ms i).kind) ∧ w'.cell? ⟨g, o + i * 5 + 1, none⟩ = some (.int .i64 (ms i).day) ∧ w'.cell? ⟨g, o + i * 5 + 2, none⟩ = some (.int .i64 (ms i).a) ∧ w'.cell? ⟨g, o + i * 5 + 3, none⟩ = some (.int .i64 (ms i).b) ∧ w'.cell? ⟨g, o + i * 5 + 4, none⟩ = some (.int .i64 (ms i).c)) := by
          refine (hr.out.1.step hb.size HKO.out (by omega) (HM.out.ok i hlt.1)).mono ?_
          rintro r w' ⟨rfl, q1, q2⟩
          have hb' : Below w.heap.size w w' := turn_below hb q2 (fun _ h => h)
          exact ⟨rfl, ⟨q1, hb'⟩, cell_later hb' (c0 i hlt.1), cell_later hb' (c1 i hlt.1), cell_later hb' (c2 i hlt.1), cell_later hb' (c3 i hlt.1), cell_later hb' (c4 i hlt.1)⟩
        have C2 : Hid (∀ W, Two w.heap.size W R B R2 B2 (kmore s ms (i + 1)) (kmore s ms i) ∧ Below w.heap.size w W → Calls Tryz.prog 13 #[.pointer (some ⟨R2, 0, none⟩), .agg #[.int .i64 (ms i).kind, .int .i64 (ms i).day, .int .i64 (ms i).a, .int .i64 (ms i).b, .int .i64 (ms i).c]] W fun r w' => r = .returned (.bool true) ∧ Hid (Two w.heap.size w' R B R2 B2 (kmore s ms (i + 1)) (kmore s ms (i + 1)) ∧ Below w.heap.size w w')) := fun W hW => by
          refine (hW.1.symm.step hW.2.size HKO.out (by omega) (HM.out.ok i hlt.1)).mono ?_
          rintro r w' ⟨rfl, q1, q2⟩
          exact ⟨rfl, q1.symm, turn_below hW.2 q2 (fun _ h => h)⟩
        clear c0 c1 c2 c3 c4 hb HM hmn HKO hr CP
        go_wp2_with (go_at_call 13; first
          | ((with_reducible refine Calls.mono C1.out ?_); rintro e w6 ⟨rfl, h6, e0, e1, e2, e3, e4⟩)
          | ((with_reducible refine Calls.mono (C2.out _ h6.out) ?_); rintro e w7 ⟨rfl, h7⟩))
        exact ⟨⟨i + 1, by omega, by omega, by go_num, h7⟩, by simp [intOf]; omega⟩
      · obtain ⟨t, htt⟩ : ∃ t, kmore s ms i = t := ⟨_, rfl⟩
        rw [htt] at hr HKO hmn
        clear htt
        obtain ⟨k, hk0, hk1, ck⟩ := CP.out t.ne (by omega)
        have c1 := hr.out.1.c1
        have hwr : IntKind.i64.wrap ((t.ne : Int) + 1) = (t.ne : Int) + 1 := wrap_id _ (by omega) (by omega)
        have T1 : Hid (∀ W, Below wr.heap.size wr W → Calls Tryz.prog 15 #[.pointer (some ⟨R, 0, none⟩), .int .i64 k] W fun r w' => ∃ g c, r = .returned (.tuple #[.slice (some ⟨g, 0, none⟩) 78 c, .bool true]) ∧ Hid (TabAt w' g (tabF t k) ∧ Below W.heap.size W w' ∧ Below wr.heap.size wr w')) := fun W hW => by
          refine (table_at _ R t k W (hr.out.1.mv hW).one HKO.out hk0 hk1).mono ?_
          rintro r w' ⟨g, c, rfl, h1, h2, h3, h4⟩
          exact ⟨g, c, rfl, h2, h4, hW.trans (h4.mono hW.size)⟩
        have T2 : Hid (∀ W, Below wr.heap.size wr W → Calls Tryz.prog 15 #[.pointer (some ⟨R2, 0, none⟩), .int .i64 k] W fun r w' => ∃ g c, r = .returned (.tuple #[.slice (some ⟨g, 0, none⟩) 78 c, .bool true]) ∧ Hid (TabAt w' g (tabF t k) ∧ Below W.heap.size W w' ∧ Below wr.heap.size wr w')) := fun W hW => by
          refine (table_at _ R2 t k W (hr.out.1.mv hW).symm.one HKO.out hk0 hk1).mono ?_
          rintro r w' ⟨g, c, rfl, h1, h2, h3, h4⟩
          exact ⟨g, c, rfl, h2, h4, hW.trans (h4.mono hW.size)⟩
        have TS : Hid (∀ W ga gb ca cb, TabAt W ga (tabF t k) → TabAt W gb (tabF t k) → Below wr.heap.size wr W → Calls Tryz.prog 16 #[.slice (some ⟨ga, 0, none⟩) 78 ca, .slice (some ⟨gb, 0, none⟩) 78 cb] W fun r w' => r = .returned (.bool true) ∧ Hid (Below wr.heap.size wr w') ∧ w'.cell? ⟨R, 0, none⟩ = some (.pointer (some ⟨B, 0, none⟩)) ∧ w'.cell? ⟨R2, 0, none⟩ = some (.pointer (some ⟨B2, 0, none⟩)) ∧ w'.cell? ⟨R, 1, none⟩ = some (.int .i64 t.ne) ∧ w'.cell? ⟨R2, 1, none⟩ = some (.int .i64 t.ne)) := fun W ga gb ca cb h1 h2 hW => by
          refine (same_tab ga gb ca cb _ _ W h1 h2 (fun _ _ => rfl)).mono ?_
          rintro r w' ⟨rfl, hb⟩
          have hb' := hW.trans (hb.mono hW.size)
          have hT := hr.out.1.mv hb'
          exact ⟨rfl, hb', hT.c0, hT.symm.c0, hT.c1, hT.symm.c1⟩
        have W1 : Hid (∀ W, Below wr.heap.size wr W → Calls Tryz.prog 11 #[.pointer (some ⟨B, 0, none⟩)] W fun r w' => r = .returned (.string t.tx) ∧ Hid (Below wr.heap.size wr w') ∧ w'.cell? ⟨R, 0, none⟩ = some (.pointer (some ⟨B, 0, none⟩)) ∧ w'.cell? ⟨R2, 0, none⟩ = some (.pointer (some ⟨B2, 0, none⟩)) ∧ w'.cell? ⟨R, 1, none⟩ = some (.int .i64 t.ne) ∧ w'.cell? ⟨R2, 1, none⟩ = some (.int .i64 t.ne)) := fun W hW => by
          have hbw := hr.out.2.trans (hW.mono hr.out.2.size)
          refine ((hr.out.1.mv hW).write HKO.out.ok (CT.out _ hbw)).mono ?_
          rintro r w' ⟨rfl, hb⟩
          have hb' := hW.trans (hb.mono hW.size)
          have hT := hr.out.1.mv hb'
          exact ⟨rfl, hb', hT.c0, hT.symm.c0, hT.c1, hT.symm.c1⟩
        have W2 : Hid (∀ W, Below wr.heap.size wr W → Calls Tryz.prog 11 #[.pointer (some ⟨B2, 0, none⟩)] W fun r w' => r = .returned (.string t.tx) ∧ Hid (Below wr.heap.size wr w') ∧ w'.cell? ⟨R, 0, none⟩ = some (.pointer (some ⟨B, 0, none⟩)) ∧ w'.cell? ⟨R2, 0, none⟩ = some (.pointer (some ⟨B2, 0, none⟩)) ∧ w'.cell? ⟨R, 1, none⟩ = some (.int .i64 t.ne) ∧ w'.cell? ⟨R2, 1, none⟩ = some (.int .i64 t.ne)) := fun W hW => by
          have hbw := hr.out.2.trans (hW.mono hr.out.2.size)
          refine ((hr.out.1.mv hW).symm.write HKO.out.ok (CT.out _ hbw)).mono ?_
          rintro r w' ⟨rfl, hb⟩
          have hb' := hW.trans (hb.mono hW.size)
          have hT := hr.out.1.mv hb'
          exact ⟨rfl, hb', hT.c0, hT.symm.c0, hT.c1, hT.symm.c1⟩
        have HB : Hid (Below w.heap.size w wr) := hr.out.2
        have hex : ((i : Int) < (n' : Int) ∧ ¬ (i : Int) < 10) ∨ ¬ (i : Int) < (n' : Int) := by omega
        generalize t.tx = tx at W1 W2
        clear HM HKO hr hmn CP CT
        rcases hex with ⟨h1', h2'⟩ | h1'
        all_goals go_wp2_with (first
          | (go_at_call 14; (with_reducible refine Calls.mono (ck.out _) ?_); rintro e wx ⟨rfl, hw⟩; rw [hw]; clear hw wx)
          | (go_at_call 15; first
            | ((with_reducible refine Calls.mono (T1.out _ (Below.refl _ _)) ?_); rintro e w7 ⟨g7, c7, rfl, h7⟩)
            | ((with_reducible refine Calls.mono (T2.out _ h7.out.2.2) ?_); rintro e w8 ⟨g8, c8, rfl, h8⟩))
          | (go_at_call 16; (with_reducible refine Calls.mono (TS.out _ _ _ _ _ (h7.out.1.mv h8.out.2.1) h8.out.1 h8.out.2.2) ?_); rintro e w9 ⟨rfl, h9, f0, f1, f2, f3⟩))
        all_goals go_region_held3 (fun w' => w'.cell? ⟨R, 0, none⟩ = some (.pointer (some ⟨B, 0, none⟩)) ∧ w'.cell? ⟨R2, 0, none⟩ = some (.pointer (some ⟨B2, 0, none⟩)) ∧ w'.cell? ⟨R, 1, none⟩ = some (.int .i64 t.ne) ∧ w'.cell? ⟨R2, 1, none⟩ = some (.int .i64 t.ne)) (go_keep) (first
          | (go_at_call 11; (with_reducible refine Calls.mono (W1.out _ ?_) ?_); (first | exact h9.out | exact h9.out.drew | exact h9.out.drew.drew); rintro e w10 ⟨rfl, h10, f4, f5, f6, f7⟩)
          | (go_at_call 11; (with_reducible refine Calls.mono (W2.out _ ?_) ?_); (first | exact h10.out | exact h10.out.drew | exact h10.out.drew.drew); rintro e w11 ⟨rfl, h11, f8, f9, f10, f11⟩))
        all_goals go_wp2
        all_goals go_ret
        all_goals exact ⟨rfl, HB.out.trans (h11.out.mono HB.out.size)⟩
end Go.Proofs.YtjnmoddcodnadaaGreatDoor
namespace Go.Proofs.YtjnmoddcodnadaaGreatDoor
open Go.ChangeShapes Go.WideShapes Go.ChangeAt Go.RowKit Go.Annal Go.Deep
theorem readsSteps : Tryz.prog.readableRec 25 = true := by kernel_rfl
theorem rowSteps : 25 < Tryz.prog.types.size := of_decide_eq_true (by kernel_rfl)
theorem readsStep : Tryz.prog.readableRec 38 = true := by kernel_rfl
theorem rowStep : 38 < Tryz.prog.types.size := of_decide_eq_true (by kernel_rfl)
theorem five_of {α : Type} : ∀ l : List α, l.length = 5 → ∃ a b c d e, l = [a, b, c, d, e]
  | [a, b, c, d, e], _ => ⟨a, b, c, d, e, rfl⟩
theorem Tryz.cInt : Tryz.prog.cellsOf 3 = 1 := by kernel_rfl
theorem Tryz.cStep : Tryz.prog.cellsOf 38 = 5 := by kernel_rfl
section
variable {H : Type} {enc : TypeId × Value → H} {W : World}
/-- The five cells of a step that came in. -/
theorem trod_step {n : Nat} {cs : List Value} {x : DataW H × List MemPlace} (h : DataW.trod enc Tryz.prog W 0 (fun _ => true) true n 38 cs = some x) (hl : cs.length = 5) : ∃ q : K5, cs = q.v.toList ∧ q.ok := by
  obtain ⟨v0, v1, v2, v3, v4, rfl⟩ := five_of cs hl
  obtain ⟨xs, k, _, hx, _, hlen, hf⟩ := DataW.trod_struct Tryz.underlying38 h
  obtain ⟨y0, y1, y2, y3, y4, rfl⟩ := five_of xs hlen
  have f0 : DataW.trod enc Tryz.prog W 0 (fun _ => true) true k 3 (List.take (Tryz.prog.cellsOf 3) (List.drop 0 [v0, v1, v2, v3, v4])) = some y0 := hf 0 _ rfl
  rw [Tryz.cInt] at f0
  have g0 : DataW.trod enc Tryz.prog W 0 (fun _ => true) true k 3 [v0] = some y0 := f0
  have f1 : DataW.trod enc Tryz.prog W 0 (fun _ => true) true k 3 (List.take (Tryz.prog.cellsOf 3) (List.drop 1 [v0, v1, v2, v3, v4])) = some y1 := hf 1 _ rfl
  rw [Tryz.cInt] at f1
  have g1 : DataW.trod enc Tryz.prog W 0 (fun _ => true) true k 3 [v1] = some y1 := f1
  have f2 : DataW.trod enc Tryz.prog W 0 (fun _ => true) true k 3 (List.take (Tryz.prog.cellsOf 3) (List.drop 2 [v0, v1, v2, v3, v4])) = some y2 := hf 2 _ rfl
  rw [Tryz.cInt] at f2
  have g2 : DataW.trod enc Tryz.prog W 0 (fun _ => true) true k 3 [v2] = some y2 := f2
  have f3 : DataW.trod enc Tryz.prog W 0 (fun _ => true) true k 3 (List.take (Tryz.prog.cellsOf 3) (List.drop 3 [v0, v1, v2, v3, v4])) = some y3 := hf 3 _ rfl
  rw [Tryz.cInt] at f3
  have g3 : DataW.trod enc Tryz.prog W 0 (fun _ => true) true k 3 [v3] = some y3 := f3
  have f4 : DataW.trod enc Tryz.prog W 0 (fun _ => true) true k 3 (List.take (Tryz.prog.cellsOf 3) (List.drop 4 [v0, v1, v2, v3, v4])) = some y4 := hf 4 _ rfl
  rw [Tryz.cInt] at f4
  have g4 : DataW.trod enc Tryz.prog W 0 (fun _ => true) true k 3 [v4] = some y4 := f4
  obtain ⟨z0, e0, _, w0⟩ := DataW.trod_int Tryz.underlying3 g0
  have e0' : v0 = .int .i64 z0 := by simpa using e0
  obtain ⟨z1, e1, _, w1⟩ := DataW.trod_int Tryz.underlying3 g1
  have e1' : v1 = .int .i64 z1 := by simpa using e1
  obtain ⟨z2, e2, _, w2⟩ := DataW.trod_int Tryz.underlying3 g2
  have e2' : v2 = .int .i64 z2 := by simpa using e2
  obtain ⟨z3, e3, _, w3⟩ := DataW.trod_int Tryz.underlying3 g3
  have e3' : v3 = .int .i64 z3 := by simpa using e3
  obtain ⟨z4, e4, _, w4⟩ := DataW.trod_int Tryz.underlying3 g4
  have e4' : v4 = .int .i64 z4 := by simpa using e4
  subst e0' e1' e2' e3' e4'
  exact ⟨⟨z0, z1, z2, z3, z4⟩, rfl, bounds_i64 w0, bounds_i64 w1, bounds_i64 w2, bounds_i64 w3, bounds_i64 w4⟩
/-- A step that came in by itself. -/
theorem open_step {v : Value} {d : DataW H} {p : List MemPlace} (h0 : DataW.Trod enc Tryz.prog W 0 (fun _ => true) true 38 v d p) (hsl : ∃ cs, v = .agg cs ∧ cs.size = Tryz.prog.cellsOf 38) : ∃ q : K5, v = .agg q.v ∧ q.ok := by
  obtain ⟨fuel, hf⟩ := h0
  obtain ⟨cs, rfl, hc⟩ := hsl
  rw [Tryz.cStep] at hc
  obtain ⟨q, h1, h2⟩ := trod_step (cs := cs.toList) hf (by simpa using hc)
  exact ⟨q, by rw [Array.toList_inj.1 h1], h2⟩
/-- A list of steps that came in. -/
theorem open_steps {v : Value} {d : DataW H} {p : List MemPlace} (h0 : DataW.Trod enc Tryz.prog W 0 (fun _ => true) true 25 v d p) (hsl : ∃ a len cap, v = .slice a len cap) : ∃ ad n cap qs, v = .slice ad n cap ∧ StepsV W ad n qs := by
  obtain ⟨fuel, hf⟩ := h0
  obtain ⟨a0, len0, cap0, rfl⟩ := hsl
  rcases open_slice Tryz.underlying25 hf with ⟨hcs, _⟩ | ⟨a, len, cap, m, n, D, Pl, hcs, _, hl, hm, hmm, hx, hel⟩
  · simp [Value.cells] at hcs
    obtain ⟨rfl, rfl, rfl⟩ := hcs
    exact ⟨none, 0, 0, fun _ => ⟨0, 0, 0, 0, 0⟩, rfl, fun h => absurd h (Nat.not_lt_zero _), fun k h => absurd h (Nat.not_lt_zero _)⟩
  · simp [Value.cells] at hcs
    obtain ⟨rfl, rfl, rfl⟩ := hcs
    simp only [if_true] at hmm
    subst hmm
    have raw : ∀ i, i < len0 → ∃ q : K5, W.cell? ((a.add (i * 5)).add 0) = some (.int .i64 q.kind) ∧ W.cell? ((a.add (i * 5)).add 1) = some (.int .i64 q.day) ∧ W.cell? ((a.add (i * 5)).add 2) = some (.int .i64 q.a) ∧ W.cell? ((a.add (i * 5)).add 3) = some (.int .i64 q.b) ∧ W.cell? ((a.add (i * 5)).add 4) = some (.int .i64 q.c) ∧ q.ok := fun i hi => by
      obtain ⟨cs', hc, ht⟩ := hel i (by omega)
      rw [Tryz.cStep] at hc
      obtain ⟨_, hl5, hcell⟩ := World.cells?_some hc
      obtain ⟨q, rfl, hq⟩ := trod_step ht hl5
      exact ⟨q, hcell 0 (by omega), hcell 1 (by omega), hcell 2 (by omega), hcell 3 (by omega), hcell 4 (by omega), hq⟩
    by_cases hz : len0 = 0
    · subst hz
      exact ⟨_, 0, _, fun _ => ⟨0, 0, 0, 0, 0⟩, rfl, fun h => absurd h (Nat.not_lt_zero _), fun k h => absurd h (Nat.not_lt_zero _)⟩
    · obtain ⟨b, off, spot⟩ := a
      obtain ⟨p0, hp0, _⟩ := raw 0 (by omega)
      obtain rfl : spot = none := by simpa [Addr.add] using World.cell?_spot hp0
      haveI : Inhabited K5 := ⟨⟨0, 0, 0, 0, 0⟩⟩
      obtain ⟨f, hf'⟩ := choose_lt (α := K5) raw
      have cc : ∀ i o, (Addr.add (Addr.add ⟨b, off, none⟩ (i * 5)) o) = ⟨b, off + i * 5 + o, none⟩ := fun i o => by rw [addr_add, addr_add]
      refine ⟨_, len0, m, f, rfl, fun _ => ⟨b, off, rfl, fun k hk => ?_, fun k hk => ?_, fun k hk => ?_, fun k hk => ?_, fun k hk => ?_⟩, fun k hk => (hf' k hk).2.2.2.2.2⟩
      · have := (hf' k hk).1; rw [cc] at this; exact this
      · have := (hf' k hk).2.1; rw [cc] at this; exact this
      · have := (hf' k hk).2.2.1; rw [cc] at this; exact this
      · have := (hf' k hk).2.2.2.1; rw [cc] at this; exact this
      · have := (hf' k hk).2.2.2.2.1; rw [cc] at this; exact this
end
end Go.Proofs.YtjnmoddcodnadaaGreatDoor
namespace Go.Proofs.YtjnmoddcodnadaaGreatDoor
open Go.ChangeShapes Go.WideShapes Go.ChangeAt Go.RowKit Go.Annal Go.Deep
set_option maxRecDepth 100000 in
theorem contractRewritten (H : Type) (enc : TypeId × Value → H) (W : World) (base : Nat) (args : Array Value) (ds gs : List (DataW H)) (before : List MemPlace)
    (hval : ∀ (j : Nat) t v, Tryz.f5.params[j]? = some t → args[j]? = some v → Value.okWide Tryz.prog W .any base t v)
    (hW : DataW.Whole enc Tryz.prog Tryz.f5.params.toList Rows.rewrittenSpec.vars false W args.toList ds gs before) (ht : Tabs W) :
    Calls Tryz.prog 5 args W fun e W' => ∃ v, e = .returned v ∧ Rows.rewrittenSpec.post enc Tryz.prog Tryz.f5 false true false false W args v W' := by
  have hW' := hW
  obtain ⟨p, q, hA0, hV, rfl, hfz, hnd⟩ := hW
  have hA : DataW.TrodAll enc Tryz.prog W 0 (fun _ => true) true Tryz.f5.params.toList args.toList ds p := hA0
  rw [Tryz.params5] at hA hval
  obtain ⟨v0, vs0, d0, ds0, p0, q0, hargs, rfl, rfl, h0, r0⟩ := trodAll_cons hA
  obtain ⟨v1, vs1, d1, ds1, p1, q1, rfl, rfl, rfl, h1, r1⟩ := trodAll_cons r0
  obtain ⟨v2, vs2, d2, ds2, p2, q2, rfl, rfl, rfl, h2, r2⟩ := trodAll_cons r1
  obtain ⟨rfl, rfl, rfl⟩ := trodAll_nil r2
  obtain rfl : args = #[v0, v1, v2] := by cases args; simp_all
  obtain ⟨rfl, rfl⟩ := trodVars_none hV
  obtain ⟨ad0, n0, cap0, qs0, e0, s0⟩ := open_steps h0 (okWide_slice Tryz.underlying25 (hval 0 _ v0 rfl rfl))
  have lt0 : ∀ x ∈ p0, x.block < W.heap.size := by obtain ⟨m, hm⟩ := h0; exact DataW.trod_lt m _ _ _ hm
  obtain ⟨ad1, n1, cap1, qs1, e1, s1⟩ := open_steps h1 (okWide_slice Tryz.underlying25 (hval 1 _ v1 rfl rfl))
  have lt1 : ∀ x ∈ p1, x.block < W.heap.size := by obtain ⟨m, hm⟩ := h1; exact DataW.trod_lt m _ _ _ hm
  obtain ⟨z2, rfl, rfl, rfl, w2⟩ := open_int Tryz.underlying3 (hval 2 _ v2 rfl rfl) h2
  have b2 := bounds_i64 w2
  clear hA0
  subst e0 e1
  refine (rewritten_walk ad0 n0 cap0 qs0 ad1 n1 cap1 qs1 z2 W s0 s1 ht b2.1 b2.2).mono fun e W' ⟨he, bel⟩ => ?_
  subst he
  exact ⟨_, rfl, _, _, _, [], _, [], hW', trodAll_mk1 (shut_bool Tryz.underlying4 _), (trodAll_cons_mk (Below.trod laidOut readsSteps rowSteps h0 bel lt0) (trodAll_cons_mk (Below.trod laidOut readsSteps rowSteps h1 bel lt1) (trodAll_cons_mk (shut_int Tryz.underlying3 w2) trodAll_mk0))), rfl, bel.frame _, fun h => by cases h⟩
theorem laid_metRewritten (os : Os) : laidMet Tryz.prog Rows.rewrittenRow.laid ((laidWorld os).forCall (fun _ _ => 0) ⟨#[], #[.slice none 0 0, .slice none 0 0, .int .i64 0], []⟩).memory :=
  laidMet_of_run' 8 (by kernel_rfl) (by kernel_rfl)
theorem readsRewritten (os : Os) {H : Type} (enc : TypeId × Value → H) : ∃ places, DataW.whole enc Tryz.prog ((laidWorld os).forCall (fun _ _ => 0) ⟨#[], #[.slice none 0 0, .slice none 0 0, .int .i64 0], []⟩).memory Tryz.f5.params.toList Rows.rewrittenSpec.vars false #[Value.slice none 0 0, Value.slice none 0 0, Value.int .i64 0].toList 8 = some ([.nil, .nil, .lit (.int .i64 0)], [], places) :=
  ⟨[], by kernel_rfl⟩
set_option maxRecDepth 100000 in
theorem liftedRewritten (os : Os) (started : os.Started) (H : Type) (enc : TypeId × Value → H) (F : Stop.Interp) :
    ReturnsInHanded {} Tryz.checked os 5 .any ((OpenSpec.ofChange Rows.rewrittenSpec).preRow enc Tryz.prog Tryz.f5 Rows.rewrittenRow.domain false Rows.rewrittenRow.laid) (((OpenSpec.ofChange Rows.rewrittenSpec).at F).post enc Tryz.prog Tryz.f5 false true false false) := by
  obtain ⟨places, hx⟩ := readsRewritten os enc
  refine returnsInHanded_of_row (C := Tryz.checked) (s := OpenSpec.ofChange Rows.rewrittenSpec) own started (by kernel_rfl) Tryz.func5
    (witness_row_at (enc := enc) (C := Tryz.checked) false (laidWorld os) #[.slice none 0 0, .slice none 0 0, .int .i64 0] rfl (by kernel_rfl) (by kernel_rfl) (by kernel_rfl)
      (OpenSpec.preRow_of_cond 8 hx (by kernel_rfl) (fun k hk => by cases hk) (by kernel_rfl) (laid_metRewritten os))) ?_
  intro W base args ds gs before hval hW _ hcond _ hL hS _
  exact contractRewritten H enc W base args ds gs before hval hW (tabs_of hL hS)
theorem saidRewritten : Rows.RewrittenSaid :=
  OpenClaim.holds_of_cond 5 Tryz.f5 rfl rfl rfl rfl rfl rfl rfl ⟨rfl, rfl, rfl, rfl, rfl⟩ rfl rfl rfl rfl rfl (by kernel_rfl) Tryz.func5 (by kernel_rfl)
    (of_decide_eq_true (by kernel_rfl)) (by unfold Func.isWrapper; first | (rw [if_pos (by decide +kernel)]; kernel_rfl) | (rw [if_neg (by decide +kernel)]; exact ⟨rfl, rfl⟩))
    (fun os started H enc _ F => by rw [OpenClaim.pre_eq_preRow]; exact liftedRewritten os started H enc F)
theorem plainRewritten (f : FuncId) (fn : Func) (hf : Tryz.pinned.checked.prog.funcNamed "annal/annalkeep.Rewritten" = some f) (hfn : Tryz.pinned.checked.prog.funcs[f]? = some fn) :
    true = Tryz.pinned.checked.prog.looks [] ∧ ∀ (j : Nat) t, fn.params[j]? = some t → Tryz.pinned.checked.prog.wantsStandIn t = false := by
  obtain rfl : f = 5 := Option.some.inj ((show Tryz.prog.funcNamed "annal/annalkeep.Rewritten" = some 5 by kernel_rfl).symm.trans hf) |>.symm
  obtain rfl : fn = Tryz.f5 := (Option.some.inj (Tryz.func5.symm.trans hfn)).symm
  refine ⟨by kernel_rfl, fun j t ht => ?_⟩
  rw [Tryz.params5] at ht
  have : t = 25 ∨ t = 3 := by simpa using Array.mem_of_getElem? ht
  rcases this with rfl | rfl
  · exact (show Tryz.prog.wantsStandIn 25 = false by kernel_rfl)
  · exact (show Tryz.prog.wantsStandIn 3 = false by kernel_rfl)
theorem rewrittenCard : Rows.RewrittenCardSaid :=
  Claim7.holds_tied_plain_at .later [] _ _ _ _ saidRewritten (fun _ h => by cases h) (by kernel_rfl) (fun _ h => by cases h) rewritten_row_tie rfl ⟨rfl, rfl⟩ (by kernel_rfl) rfl plainRewritten (by kernel_rfl)
#print axioms rewrittenCard
end Go.Proofs.YtjnmoddcodnadaaGreatDoor
