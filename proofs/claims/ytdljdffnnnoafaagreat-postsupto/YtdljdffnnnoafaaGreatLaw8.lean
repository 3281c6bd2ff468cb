import Derived.Test.YtdljdffnnnoafaaGreatLaw7
set_option linter.unusedVariables false
set_option linter.unusedSimpArgs false
namespace Go.Proofs.YtdljdffnnnoafaaGreat
open Go.RowKit Go.Annal Go.Sort
theorem pick_lt (kw : Int) (n : Nat) (hn : 0 < n) : 0 ≤ pickI kw n ∧ pickI kw n < n := by
  unfold pickI
  exact ⟨Int.emod_nonneg _ (by omega), Int.emod_lt_of_pos _ (by omega)⟩
set_option maxHeartbeats 4000000 in
set_option maxRecDepth 100000 in
theorem step_open (H L : Nat) (d : Ls) (kw A B C : Int) (name : ByteArray) (lv : Value) (w : World) (h : LawIs H w L d) (hnb : d.nb ≤ 100000000) (hn0 : 0 < d.nb) (h1 : -9223372036854775808 ≤ kw) (h2 : kw ≤ 9223372036854775807) (hs : name.size ≤ 1000000000) :
    Calls Tryz.prog 5 #[.pointer (some ⟨L, 0, none⟩), .agg #[.int .i64 2, .int .i64 kw, .string name, .int .i64 A, .int .i64 B, .int .i64 C, lv]] w fun r w' => r = .returned (.bool true) ∧ ∃ d', LawIs H w' L d' ∧ Ls.Grows d d' ∧ Turn (fun b => H ≤ b) w w' := by
  have HL : Hid (LawIs H w L d) := h
  obtain ⟨ip, hip⟩ : ∃ ip : Nat, pickI kw d.nb = ip := ⟨(pickI kw d.nb).toNat, by have := pick_lt kw d.nb hn0; omega⟩
  have hipl : ip < d.nb := by have := pick_lt kw d.nb hn0; omega
  have CK : Hid (∀ W, Calls Tryz.prog 10 #[.int .i64 kw, .int .i64 d.nb] W fun r w' => r = .returned (.int .i64 ip) ∧ w' = W) := fun W => by
    have := pick_any kw d.nb W h1 h2 (by omega) (by omega)
    rw [hip] at this
    exact this
  obtain ⟨adb, cb, gb, eb, hcb, hab, hbc⟩ := owns_view h.rb
  obtain ⟨rfl, _, _⟩ := hab (by omega)
  have cL := blk_cell' h.bk (o := 0) rfl
  rw [eb] at cL
  have q0 : w.cell? ⟨gb, ip * 2, none⟩ = some (.pointer (some ⟨d.B ip, 0, none⟩)) := by
    rw [hbc (ip * 2) (by omega)]
    exact flat_get 2 (fun i => [Value.pointer (some ⟨d.B i, 0, none⟩), .pointer (some ⟨d.R i, 0, none⟩)]) (fun _ => rfl) d.nb ip 0 hipl (by omega)
  have q1 : w.cell? ⟨gb, ip * 2 + 1, none⟩ = some (.pointer (some ⟨d.R ip, 0, none⟩)) := by
    rw [hbc (ip * 2 + 1) (by omega)]
    exact flat_get 2 (fun i => [Value.pointer (some ⟨d.B i, 0, none⟩), .pointer (some ⟨d.R i, 0, none⟩)]) (fun _ => rfl) d.nb ip 1 hipl (by omega)
  have hi1 : (0 : Int) ≤ (ip : Int) := by omega
  have hi2 : (ip : Int) < (d.nb : Int) := by omega
  have hn1 : ¬ (d.nb : Int) = 0 := by omega
  clear h hbc eb hip
  have hga : Grew w (w.alloc (.cells #[.int .i64 2, .int .i64 kw, .string name, .int .i64 A, .int .i64 B, .int .i64 C, lv] 36)) := (Grew.refl w).alloc _
  have cL' := hga.cell' cL
  have q0' := hga.cell' q0
  have q1' := hga.cell' q1
  go_enter Tryz.func5, Tryz.ntmps5
  go_wp2_with (first
    | (go_at_call 10; refine Calls.mono (CK.out _) ?_; rintro e wx ⟨rfl, hw⟩; rw [hw]; clear hw wx))
  have hne1 : L ≠ w.heap.size := by have := blk_lt HL.out.bk; omega
  go_region_held3 (fun w' => w'.cell? ⟨L, 0, none⟩ = some (.slice (some ⟨gb, 0, none⟩) d.nb cb) ∧ w'.cell? ⟨w.heap.size, 1, none⟩ = some (.int .i64 kw) ∧ w'.cell? ⟨gb, ip * 2, none⟩ = some (.pointer (some ⟨d.B ip, 0, none⟩)) ∧ w'.cell? ⟨gb, ip * 2 + 1, none⟩ = some (.pointer (some ⟨d.R ip, 0, none⟩))) (go_keep) (first | (go_at_call 10; refine Calls.mono (CK.out _) ?_; rintro e wx ⟨rfl, hw⟩; rw [hw]; clear hw wx))
  all_goals
    have hb2 : Below w.heap.size w ((w.alloc (.cells #[.int .i64 2, .int .i64 kw, .string name, .int .i64 A, .int .i64 B, .int .i64 C, lv] 36)).alloc (.cells #[.pointer (some ⟨d.B ip, 0, none⟩), .pointer (some ⟨d.R ip, 0, none⟩)] 45)).drew := ((((Grew.refl w).alloc _).alloc _).drew).below
    have hx1 : ((w.alloc (.cells #[.int .i64 2, .int .i64 kw, .string name, .int .i64 A, .int .i64 B, .int .i64 C, lv] 36)).alloc (.cells #[.pointer (some ⟨d.B ip, 0, none⟩), .pointer (some ⟨d.R ip, 0, none⟩)] 45)).drew.heap[w.heap.size]? = some (.cells #[.int .i64 2, .int .i64 kw, .string name, .int .i64 A, .int .i64 B, .int .i64 C, lv] 36 (0, 0)) := Grew.blk ((Grew.refl _).alloc _).drew (heap_alloc_new w _)
    have hx2 : ((w.alloc (.cells #[.int .i64 2, .int .i64 kw, .string name, .int .i64 A, .int .i64 B, .int .i64 C, lv] 36)).alloc (.cells #[.pointer (some ⟨d.B ip, 0, none⟩), .pointer (some ⟨d.R ip, 0, none⟩)] 45)).drew.heap[w.heap.size + 1]? = some (.cells #[.pointer (some ⟨d.B ip, 0, none⟩), .pointer (some ⟨d.R ip, 0, none⟩)] 45 (0, 0)) := by
      have := heap_alloc_new (w.alloc (.cells #[.int .i64 2, .int .i64 kw, .string name, .int .i64 A, .int .i64 B, .int .i64 C, lv] 36)) (.cells #[.pointer (some ⟨d.B ip, 0, none⟩), .pointer (some ⟨d.R ip, 0, none⟩)] 45)
      rwa [World.size_alloc] at this
    obtain ⟨W2, hW2⟩ : ∃ W2, ((w.alloc (.cells #[.int .i64 2, .int .i64 kw, .string name, .int .i64 A, .int .i64 B, .int .i64 C, lv] 36)).alloc (.cells #[.pointer (some ⟨d.B ip, 0, none⟩), .pointer (some ⟨d.R ip, 0, none⟩)] 45)).drew = W2 := ⟨_, rfl⟩
    rw [hW2] at hb2 hx1 hx2 ⊢
    clear hW2 cL' q0' q1' hga cL q0 q1
  all_goals
    have a0 := blk_cell' hx1 (o := 0) rfl
    have a2 := blk_cell' hx1 (o := 2) rfl
    have a3 := blk_cell' hx1 (o := 3) rfl
    have b0 := blk_cell' hx2 (o := 0) rfl
    have b1 := blk_cell' hx2 (o := 1) rfl
    have C1 : Hid (type_of% (progOpen (d.B ip) (d.st ip) (d.Fp ip) name A W2 ((HL.out.mv hb2).pr ip hipl) (HL.out.ok ip hipl) hs)) := progOpen (d.B ip) (d.st ip) (d.Fp ip) name A W2 ((HL.out.mv hb2).pr ip hipl) (HL.out.ok ip hipl) hs
    have C2 : Hid (∀ W, Turn (d.Fp ip) W2 W → Calls Tryz.prog 12 #[.pointer (some ⟨d.R ip, 0, none⟩), .string name, .int .i64 A] W fun r w' => r = .returned (.int .i64 ((d.st ip).openE name A)) ∧ ∃ Fd', DocIs w' (d.R ip) ((d.st ip).afterOpen name A) Fd' ∧ Turn (d.Fd ip) W w' ∧ ∀ k, Fd' k → d.Fd ip k ∨ W.heap.size ≤ k) := fun W hW => docOpen (d.R ip) (d.st ip) (d.Fd ip) name A W (((HL.out.mv hb2).dc ip hipl).turn hW (apart_kind ((HL.out.mv hb2).pr ip hipl) ((HL.out.mv hb2).dc ip hipl))) (HL.out.ok ip hipl) hs
    have hnp : ∀ k, w.heap.size ≤ k → ¬ d.Fp ip k := fun k hk h => by have := HL.out.plt hipl h; omega
    generalize hpe : (d.st ip).openE name A = pe at C1 C2
    clear hpe
  go_wp2_with (first
    | (go_at_call 11; refine Calls.mono C1.out ?_; rintro e w3 ⟨rfl, Fp', hP', hTp, hFp'⟩; have hy1 := hTp.blk hx1 (hnp _ (Nat.le_refl _)); have hy2 := hTp.blk hx2 (hnp _ (Nat.le_succ _)); have c2 := blk_cell' hy1 (o := 2) rfl; have c3 := blk_cell' hy1 (o := 3) rfl; have d1 := blk_cell' hy2 (o := 1) rfl)
    | (go_at_call 12; refine Calls.mono (C2.out _ hTp) ?_; rintro e w4 ⟨rfl, Fd', hD', hTd, hFd'⟩)
    | (go_at_call 13; refine Calls.mono (num_any _ _) ?_; rintro e wx ⟨rfl, hw⟩; rw [hw]; clear hw wx))
  all_goals go_ret
  all_goals
    have hwt : Turn (stepS d ip L) w w4 := (Turn.of_below hb2).trans ((hTp.mono (fun _ _ h => .inl h)).trans (hTd.mono (fun _ _ h => .inr (.inl h))))
    have hT2 : Turn (fun b => d.Fp ip b ∨ d.Fd ip b) w w4 := (Turn.of_below hb2).trans ((hTp.mono (fun _ _ h => .inl h)).trans (hTd.mono (fun _ _ h => .inr h)))
    have hL4 := hT2.blk HL.out.bk (fun hs => hs.elim (prog_not (HL.out.pr ip hipl) HL.out.bk (by decide)) (doc_not (HL.out.dc ip hipl) HL.out.bk (by decide)))
    have hrt4 := owns_turn HL.out.rt hT2 (fun g e hs => by
      obtain ⟨c, fz, hc⟩ := owns_kind HL.out.rt g e
      exact hs.elim (prog_not (HL.out.pr ip hipl) hc (by decide)) (doc_not (HL.out.dc ip hipl) hc (by decide)))
    have hD3 : DocIs w3 (d.R ip) (d.st ip) (d.Fd ip) := ((HL.out.mv hb2).dc ip hipl).turn hTp (apart_kind ((HL.out.mv hb2).pr ip hipl) ((HL.out.mv hb2).dc ip hipl))
    have hP4 := hP'.turn hTd (fun k hk hk' => apart_kind hP' hD3 k hk' hk)
    have hbs := hb2.size
    have hps := hTp.size
    have hFp4 : ∀ k, Fp' k → d.Fp ip k ∨ w.heap.size ≤ k := fun k hk => (hFp' k hk).imp id (fun h => by omega)
    have hFd4 : ∀ k, Fd' k → d.Fd ip k ∨ w.heap.size ≤ k := fun k hk => (hFd' k hk).imp id (fun h => by omega)
    exact ⟨rfl, d.turned ip ((d.st ip).afterOpen name A) Fp' Fd' d.nt d.tv d.vt, HL.out.pairStep hipl hwt hL4 hrt4 (fun b e => .inl e) hP4 hD' (St.afterOpen_ok (HL.out.ok ip hipl) _ _) hFp4 hFd4 (HL.out.lentOn hipl hwt hFd4), ⟨⟨Nat.le_refl _, Nat.le_succ _⟩, Nat.le_add_right _ _, Nat.le_add_right _ _, Nat.le_succ _⟩, hwt.mono (fun k _ hk => HL.out.stepH hipl k hk)⟩
end Go.Proofs.YtdljdffnnnoafaaGreat
