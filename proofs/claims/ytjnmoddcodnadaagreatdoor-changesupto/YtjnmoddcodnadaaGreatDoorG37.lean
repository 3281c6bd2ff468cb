import Derived.Test.YtjnmoddcodnadaaGreatDoorG36
set_option linter.unusedVariables false
set_option linter.unusedSimpArgs false
namespace Go.Proofs.YtjnmoddcodnadaaGreatDoor
open Go.RowKit Go.Annal Go.Sort
/-- The lines that are lent: those, and marks behind them. -/
def lent8 (xa : Nat → ByteArray) (xm : Nat → Int) (n k : Nat) : List Ln := (List.range n).map (fun i => (xa i, xm i)) ++ List.replicate k (⟨#[]⟩, -77)
theorem lent8_succ (xa : Nat → ByteArray) (xm : Nat → Int) (n k : Nat) : cells2 (lent8 xa xm n (k + 1)) = cells2 (lent8 xa xm n k) ++ [.string ⟨#[]⟩, .int .i64 (-77)] := by
  unfold lent8
  rw [List.replicate_succ', ← List.append_assoc, cells2_append]
  rfl
theorem lent8_len (xa : Nat → ByteArray) (xm : Nat → Int) (n k : Nat) : (lent8 xa xm n k).length = n + k := by simp [lent8]
theorem lent8_lt (xa : Nat → ByteArray) (xm : Nat → Int) (n m k : Nat) (hk : k < n) (h : k < (lent8 xa xm n m).length) : (lent8 xa xm n m)[k] = (xa k, xm k) := by
  have : (lent8 xa xm n m)[k]? = some (xa k, xm k) := by unfold lent8; rw [List.getElem?_append_left (by simpa using hk)]; simp [hk]
  rw [List.getElem?_eq_getElem h] at this; exact Option.some.inj this
theorem lent8_ge (xa : Nat → ByteArray) (xm : Nat → Int) (n m k : Nat) (hk : n ≤ k) (h : k < (lent8 xa xm n m).length) : (lent8 xa xm n m)[k] = (⟨#[]⟩, -77) := by
  have hl := lent8_len xa xm n m
  have : (lent8 xa xm n m)[k]? = some (⟨#[]⟩, -77) := by unfold lent8; rw [List.getElem?_append_right (by simpa using hk)]; rw [List.getElem?_replicate, if_pos (by simp; omega)]
  rw [List.getElem?_eq_getElem h] at this; exact Option.some.inj this
theorem full_at {w : World} {X : Nat} {e : TypeId} {sz n g cap : Nat} {c : List Value} {xs : List Value} (h : w.ownsRow X e sz (.slice (some ⟨g, 0, none⟩) n cap) n xs) (hn : n ≤ 2000000000) (hx : ∀ k, k < n → ∀ o, o < sz → xs[k * sz + o]? = c[o]?) : Full w e sz c (fun k => k = g) (.slice (some ⟨g, 0, none⟩) n cap) := by
  obtain ⟨ad, n', cap', e1, h1, h2, h3⟩ := full_of_owns h hn hx
  injection e1 with e1 e2 e3
  subst e1 e2 e3
  refine ⟨_, _, _, rfl, h1, h2, fun hp => ?_⟩
  obtain ⟨g', cs, fz, e4, hc, _, hcc⟩ := h3 hp
  injection e4 with e4
  injection e4 with e4
  subst e4
  exact ⟨g, cs, fz, rfl, hc, rfl, hcc⟩
theorem src_lines {w : World} {lad : Option Addr} {n cap : Nat} {xa : Nat → ByteArray} {xm : Nat → Int} (h : LinesV w lad n cap xa xm) (hnil : lad = none → cap = 0) : SrcAt w 2 (.slice lad n cap) n (lineCells xa xm n) := by
  cases lad with
  | none =>
    have hc := hnil rfl
    have hl := h.le
    obtain rfl : n = 0 := by omega
    subst hc
    exact .inl ⟨rfl, rfl, rfl⟩
  | some a =>
    refine .inr ⟨a, cap, rfl, lineCells_len _ _ _, fun j u hj => ?_⟩
    have hjl : j < n * 2 := by have := (List.getElem?_eq_some_iff.1 hj).1; rwa [lineCells_len] at this
    obtain ⟨lg, lo, e, hL⟩ := h.ls (by omega)
    injection e with e
    subst e
    rw [addr_add]
    rcases Nat.mod_two_eq_zero_or_one j with hm | hm
    · obtain ⟨k, rfl⟩ : ∃ k, j = k * 2 := ⟨j / 2, by omega⟩
      rw [lineCells_a _ _ _ _ (by omega)] at hj
      cases hj
      exact hL.ca k (by omega)
    · obtain ⟨k, rfl⟩ : ∃ k, j = k * 2 + 1 := ⟨j / 2, by omega⟩
      rw [lineCells_m _ _ _ _ (by omega)] at hj
      cases hj
      rw [← Nat.add_assoc]
      exact hL.cm k (by omega)
theorem linesV_of {w : World} {X g n k cg : Nat} {xa : Nat → ByteArray} {xm : Nat → Int} (h : w.ownsRow X 58 2 (.slice (some ⟨g, 0, none⟩) (n + k) cg) (n + k) (cells2 (lent8 xa xm n k))) (hf : n ≤ 1000000000) (hs : ∀ j, j < n → (xa j).size ≤ 1000000000) : LinesV w (some ⟨g, 0, none⟩) n cg xa xm := by
  obtain ⟨ad, c, gg, e, hc, hav, hcell⟩ := owns_view h
  injection e with e1 e2 e3
  subst e3
  refine ⟨by omega, hf, hs, fun hn => ⟨g, 0, rfl, ?_⟩⟩
  obtain ⟨rfl, _, _⟩ := hav (by omega)
  injection e1 with e1
  injection e1 with e1
  subst e1
  have hget : ∀ j (hj : j < n) o, o < 2 → w.cell? ⟨g, 0 + j * 2 + o, none⟩ = (enc2 (xa j, xm j))[o]? := fun j hj o ho => by
    rw [Nat.zero_add, hcell (j * 2 + o) (by omega), cells2_get _ j (by rw [lent8_len]; omega) o ho]
    congr 2
    unfold lent8
    rw [List.getElem_append_left (by simpa using hj)]
    simp
  exact ⟨fun j hj => hget j hj 0 (by omega), fun j hj => hget j hj 1 (by omega)⟩
theorem LinesV.turn {w w' : World} {lad : Option Addr} {n cap : Nat} {xa : Nat → ByteArray} {xm : Nat → Int} (h : LinesV w lad n cap xa xm) {S : Nat → Prop} (ht : Turn S w w') (hs : ∀ a, lad = some a → 0 < n → a.block < w.heap.size ∧ ¬ S a.block) : LinesV w' lad n cap xa xm :=
  ⟨h.le, h.few, h.sm, fun hn => by
    obtain ⟨lg, lo, e, hL⟩ := h.ls hn
    obtain ⟨h1, h2⟩ := hs _ e hn
    exact ⟨lg, lo, e, hL.turn ht h2 h1⟩⟩
set_option maxHeartbeats 4000000 in
set_option maxRecDepth 100000 in
theorem posts_any (H L i n cap : Nat) (d : Ls) (day : Int) (lad : Option Addr) (xa : Nat → ByteArray) (xm : Nat → Int) (w : World) (h : LawIs H w L d) (hi : i < d.nb) (hnt : d.nt ≤ 100000000)
    (hL : LinesV w lad n cap xa xm) (hnil : lad = none → cap = 0) (hap : ∀ a, lad = some a → 0 < n → a.block < w.heap.size ∧ ∀ j, j < d.nb → ¬ d.Fp j a.block ∧ ¬ d.Fd j a.block) :
    Calls Tryz.prog 41 #[.pointer (some ⟨L, 0, none⟩), .agg #[.pointer (some ⟨d.B i, 0, none⟩), .pointer (some ⟨d.R i, 0, none⟩)], .int .i64 day, .slice lad n cap] w fun r w' => r = .returned (.bool true) ∧ ∃ d', LawIs H w' L d' ∧ Ls.Grows d d' ∧ Turn (fun b => H ≤ b) w w' := by
  have HL : Hid (LawIs H w L d) := h
  obtain ⟨i0, hi0, hz0, hz1, hz2⟩ := info_parts Tryz.infoLine
  obtain ⟨W0, hW0⟩ : ∃ W0, W0 = w.alloc (.cells #[.pointer (some ⟨d.B i, 0, none⟩), .pointer (some ⟨d.R i, 0, none⟩)] 94) := ⟨_, rfl⟩
  have hb0 : Below w.heap.size w W0 := by rw [hW0]; exact ((Grew.refl w).alloc _).below
  have hp : W0.heap[w.heap.size]? = some (.cells #[.pointer (some ⟨d.B i, 0, none⟩), .pointer (some ⟨d.R i, 0, none⟩)] 94 (0, 0)) := by rw [hW0]; exact heap_alloc_new w _
  have HW : Hid (type_of% hW0) := hW0
  have HP : Hid (type_of% hp) := hp
  have hsrc := src_lines (hL.mv hb0) hnil
  have hone : ∀ u ∈ lineCells xa xm n, u.oneCell' = true := cells2_one _
  have hfew := hL.few
  have HLV : Hid (type_of% hL) := hL
  have HAP : Hid (type_of% hap) := hap
  have hws := hb0.size
  have CP : Hid (∀ W g cg, Below W0.heap.size W0 W → W.ownsRow W0.heap.size 58 2 (.slice (some ⟨g, 0, none⟩) (n + 8) cg) (n + 8) (cells2 (lent8 xa xm n 8)) → Calls Tryz.prog 28 #[.pointer (some ⟨d.B i, 0, none⟩), .int .i64 day, .slice (some ⟨g, 0, none⟩) n cg] W fun r w' => r = .returned (.tuple #[.int .i64 ((d.st i).postN day xa xm n), .int .i64 ((d.st i).postE day xa xm n)]) ∧ ∃ Fp', ProgIs w' (d.B i) ((d.st i).afterPost day xa xm n) Fp' ∧ Turn (d.Fp i) W w' ∧ ∀ k, Fp' k → d.Fp i k ∨ W.heap.size ≤ k) := fun W g cg hW ho =>
    progPost (d.B i) (d.st i) (d.Fp i) day _ n cg xa xm W ((HL.out.mv (hb0.trans (hW.mono hws))).pr i hi) (HL.out.ok i hi) (linesV_of ho HLV.out.few HLV.out.sm)
  have CD : Hid (∀ W, Turn (d.Fp i) w W → Calls Tryz.prog 80 #[.pointer (some ⟨d.R i, 0, none⟩), .int .i64 day, .slice lad n cap] W fun r w' => r = .returned (.tuple #[.int .i64 ((d.st i).postN day xa xm n), .int .i64 ((d.st i).postE day xa xm n)]) ∧ ∃ Fd', DocIs w' (d.R i) ((d.st i).afterPost day xa xm n) Fd' ∧ Turn (d.Fd i) W w' ∧ ∀ k, Fd' k → d.Fd i k ∨ W.heap.size ≤ k) := fun W hW =>
    docPost (d.R i) (d.st i) (d.Fd i) day lad n cap xa xm W ((HL.out.dc i hi).turn hW (fun k hk hp => HL.out.pd i i k hi hi hp hk)) (HL.out.ok i hi) (HLV.out.turn hW (fun a e hn => ⟨(HAP.out a e hn).1, ((HAP.out a e hn).2 i hi).1⟩))
  clear h hW0 hp hL hap
  generalize hpn : (d.st i).postN day xa xm n = pn at CP CD
  generalize hpe : (d.st i).postE day xa xm n = pe at CP CD
  clear hpn hpe
  generalize hBi : d.B i = Bi at *
  generalize hRi : d.R i = Ri at *
  have HBi : Hid (type_of% hBi) := hBi
  have HRi : Hid (type_of% hRi) := hRi
  clear hBi hRi
  go_enter Tryz.func41, Tryz.ntmps41
  go_wp2_with (at_builtin; rw [← HW.out]; refine wpList_append_src rfl (.tmp 18) (.tmp 19) 54 rfl W0.heap.size 58 i0 _ 2 24 Tryz.underlying54 hi0 hz0 hz1 hz2 rfl (by decide) (.slice none 0 0) 0 [] rfl (World.ownsRow_nil _ _ _ _) _ n (lineCells xa xm n) rfl hsrc hone (by unfold maxLen; omega) (by omega) (Nat.le_refl _) ?_; intro v1 w1 hown1 hg1; have hB1 : Below W0.heap.size W0 w1 := (Below.refl _ _).grown hg1 (Nat.le_refl _) (fun k hk => by cases hk))
  rw [Nat.zero_add, List.nil_append] at hown1
  have HO1 : Hid (w1.ownsRow W0.heap.size 58 2 v1 (n + 0) (cells2 (lent8 xa xm n 0))) := by
    show w1.ownsRow _ _ _ _ _ _
    unfold lent8
    rw [List.replicate_zero, List.append_nil]
    exact hown1
  have HB1 : Hid (type_of% hB1) := hB1
  clear hown1 hg1 hB1 hsrc hone
  go_loopw [9, 10] (fun gv iv wr => ∃ k : Nat, k ≤ 8 ∧ iv = .int .i64 k ∧ Hid (wr.ownsRow W0.heap.size 58 2 gv (n + k) (cells2 (lent8 xa xm n k))) ∧ Hid (Below W0.heap.size W0 wr)) (fun _ iv _ => 8 - (intOf iv).toNat)
  case atStart => exact ⟨0, by omega, rfl, HO1, HB1⟩
  case round =>
    obtain ⟨k, hk, rfl, hown, hb⟩ := hrel
    clear HO1 HB1
    by_cases hlt : k < 8
    · have hlt' : (k : Int) < 8 := by omega
      have hws := hb0.size
      have hws2 := hb.out.size
      go_wp2_with (at_builtin; refine wpList_append_lies _ rfl (.tmp 25) (.tmp 27) 54 rfl W0.heap.size 58 i0 _ 2 24 Tryz.underlying54 hi0 hz0 hz1 hz2 rfl (by decide) _ (n + k) _ rfl (hown.out.alloc _) ⟨wr.heap.size, 0, none⟩ 1 1 [.string ⟨#[]⟩, .int .i64 (-77)] rfl rfl (World.news_of_block (cs := #[.string ⟨#[]⟩, .int .i64 (-77)]) (heap_alloc_new wr _)) (by simp [Value.oneCell']) (by decide) (by unfold maxLen; omega) (by omega) (by simp; omega) (wr.heap.size + 1) (by simp) ?_; intro g2 cap2 w2 hown2 hg2 hat2 hlt2)
      have hb3 : Below W0.heap.size W0 w2 := ((hb.out.alloc hws2 _)).grown hg2 (by simp; omega) (fun k hk => (hown.out.lt k hk).1)
      exact ⟨⟨k + 1, by omega, by go_num, by show w2.ownsRow _ _ _ _ _ _; rw [lent8_succ]; exact hown2, hb3⟩, by simp [intOf]; omega⟩
    · have hlt' : ¬ (k : Int) < 8 := by omega
      obtain rfl : k = 8 := by omega
      obtain ⟨ad, cg, gg, eg, hgc, hgav, _⟩ := owns_view hown.out
      obtain ⟨rfl, hgb, _⟩ := hgav (by omega)
      rw [eg] at hown
      rw [eg]
      clear eg hgav
      have hpw := (hb.out.block _ (blk_lt HP.out)).trans HP.out
      have p0 := blk_cell' hpw (o := 0) rfl
      have hn1 : (0 : Int) ≤ (n : Int) := by omega
      have hn2 : (n : Int) ≤ (cg : Int) := by omega
      have hn3 : n ≤ cg := by omega
      go_wp2
      go_region_with (go_at_call 28; refine Calls.mono (CP.out _ gg cg hb.out.drew hown.out.drew) ?_; rintro e w2 ⟨rfl, HQ1⟩)
      all_goals
        obtain ⟨Fp', hP', hTp, hFp'⟩ := HQ1
        have hbw : Below w.heap.size w wr.drew := hb0.trans (hb.out.drew.mono hws)
        have hT2 : Turn (d.Fp i) w w2 := (Turn.of_below hbw).trans hTp
        have hnp : ∀ k, w.heap.size ≤ k → ¬ d.Fp i k := fun k hk h => by have := HL.out.plt hi h; omega
        have hpw2 := hTp.blk (w := wr.drew) hpw (hnp _ (Nat.le_refl _))
        have p1 := blk_cell' hpw2 (o := 1) rfl
        have hown2 := owns_turn hown.out.drew hTp (fun g e => by have e' : gg = g := Option.some.inj e; subst e'; exact hnp _ (by omega))
        have HO2 : Hid (type_of% hown2) := hown2
        have HT2 : Hid (type_of% hT2) := hT2
        have HTP : Hid (type_of% hTp) := hTp
        have HPR : Hid (type_of% hP') := hP'
        have hggl : gg < wr.heap.size := (hown.out.lt gg rfl).2
        have HFP : Hid (∀ k, Fp' k → d.Fp i k ∨ (gg < k ∧ w.heap.size ≤ k)) := fun k hk => (hFp' k hk).imp id (fun h => ⟨Nat.lt_of_lt_of_le hggl h, Nat.le_trans hbw.size h⟩)
        have HGL : Hid (gg < w2.heap.size) := Nat.lt_of_lt_of_le hggl hTp.size
        have HBW : Hid (type_of% hbw) := hbw
        clear hown2 hT2 hTp hP' hFp' hbw hpw p0 hown hb
      go_wp2_with (go_at_call 80; refine Calls.mono (CD.out _ HT2.out) ?_; rintro e w3 ⟨rfl, HQ2⟩)
      all_goals
        obtain ⟨Fd', hD', hTd, hFd'⟩ := HQ2
        have hnd : ∀ k, w.heap.size ≤ k → ¬ d.Fd i k := fun k hk h => by have := HL.out.dlt hi h; omega
        have hown3 := owns_turn HO2.out hTd (fun g e => by have e' : gg = g := Option.some.inj e; subst e'; exact hnd _ (by omega))
        have HO3 : Hid (type_of% hown3) := hown3
        have HTD : Hid (type_of% hTd) := hTd
        have HDR : Hid (type_of% hD') := hD'
        have HFD : Hid (∀ k, Fd' k → d.Fd i k ∨ (gg < k ∧ w.heap.size ≤ k)) := fun k hk => (hFd' k hk).imp id (fun h => ⟨Nat.lt_of_lt_of_le HGL.out h, Nat.le_trans HT2.out.size h⟩)
        have HFD2 : Hid (type_of% hFd') := hFd'
        clear hown3 hTd hD' hFd' p1 hpw2
      have hL3 : Hid (LinesV w3 lad n cap xa xm ∧ ∀ a, lad = some a → 0 < n → a.block < w.heap.size) := by
        have hT3 : Turn (fun b => d.Fp i b ∨ d.Fd i b) w w3 := (HT2.out.mono (fun _ _ h => .inl h)).trans (HTD.out.mono (fun _ _ h => .inr h))
        refine ⟨HLV.out.turn hT3 (fun a e hn => ?_), fun a e hn => ?_⟩
        · exact ⟨(HAP.out a e hn).1, fun h => h.elim ((HAP.out a e hn).2 i hi).1 ((HAP.out a e hn).2 i hi).2⟩
        · exact (HAP.out a e hn).1
      go_wp2
      rename World => w3
      go_loopw [15, 16, 17] (fun whv iv _ wq => ∃ k : Nat, k ≤ n + 8 ∧ iv = .int .i64 k ∧ whv = .bool true ∧ Hid (wq.ownsRow W0.heap.size 58 2 (.slice (some ⟨gg, 0, none⟩) (n + 8) cg) (n + 8) (cells2 (List.replicate k (overB, -99) ++ (lent8 xa xm n 8).drop k))) ∧ Hid (Turn (fun b => b = gg) w3 wq)) (fun _ iv _ _ => n + 8 - (intOf iv).toNat)
      case atStart => exact ⟨0, by omega, rfl, rfl, HO3, Turn.refl _ _⟩
      case round =>
        obtain ⟨k, hk8, rfl, rfl, hown, hT⟩ := hrel
        by_cases hlt8 : k < n + 8
        · have hlt8' : (k : Int) < (n : Int) + 8 := by omega
          have hlt8'' : (k : Int) < ((n + 8 : Nat) : Int) := by omega
          have hk0 : (0 : Int) ≤ (k : Int) := by omega
          have hlen := lent8_len xa xm n 8
          have hkl : k < (lent8 xa xm n 8).length := by omega
          have hdr : (lent8 xa xm n 8).drop k = (lent8 xa xm n 8)[k] :: (lent8 xa xm n 8).drop (k + 1) := List.drop_eq_getElem_cons hkl
          have ho := hown.out
          rw [hdr] at ho
          have HST : Hid (∀ W, Grew wr W → ((W.setCell ⟨gg, k * 2, none⟩ (.string overB)).setCell ⟨gg, k * 2 + 1, none⟩ (.int .i64 (-99))).ownsRow W0.heap.size 58 2 (.slice (some ⟨gg, 0, none⟩) (n + 8) cg) (n + 8) (cells2 (List.replicate (k + 1) (overB, -99) ++ (lent8 xa xm n 8).drop (k + 1)))) := by
            intro W hW
            have hst := (((owns_mv ho hW.below).stored (k * 2) (.string overB)).1.stored (k * 2 + 1) (.int .i64 (-99))).1
            have hcs := cells2_put (List.replicate k (overB, -99)) ((lent8 xa xm n 8).drop (k + 1)) (lent8 xa xm n 8)[k] overB (-99)
            rw [List.length_replicate] at hcs
            rw [hcs] at hst
            rw [List.replicate_succ', List.append_assoc]
            exact hst
          have hyk : ∀ o, o < 2 → wr.cell? ⟨gg, k * 2 + o, none⟩ = (enc2 (lent8 xa xm n 8)[k])[o]? := fun o ho' => by
            rw [ho.cellAt (k * 2 + o) (by omega), cells2_get _ k (by simp; omega) o ho']
            congr 2
            rw [List.getElem_append_right (by simp)]
            simp
          have f0 := ho.frozenAt (k * 2)
          have f1 := ho.frozenAt (k * 2 + 1)
          have hglt : gg < wr.heap.size := (ho.lt gg rfl).2
          clear hdr hown
          by_cases hkn : k < n
          · have hkn' : (k : Int) < (n : Int) := by omega
            have hel : (lent8 xa xm n 8)[k] = (xa k, xm k) := lent8_lt xa xm n 8 k hkn hkl
            have y0 : wr.cell? ⟨gg, k * 2, none⟩ = some (.string (xa k)) := by have := hyk 0 (by omega); rw [hel] at this; exact this
            have y1 : wr.cell? ⟨gg, k * 2 + 1, none⟩ = some (.int .i64 (xm k)) := by have := hyk 1 (by omega); rw [hel] at this; exact this
            obtain ⟨lg, lo, rfl, hLA⟩ := hL3.out.1.ls (by omega)
            have hlglt : lg < w.heap.size := hL3.out.2 _ rfl (by omega)
            have hLq := hLA.turn hT.out (S := fun b => b = gg) (by omega) (by have := HTD.out.size; have := HT2.out.size; omega)
            have l0 := hLq.ca k hkn
            have l1 := hLq.cm k hkn
            have hlne : lg ≠ gg := by omega
            have hsz3 := HTD.out.size
            have hsz2 := HT2.out.size
            have hszq := hT.out.size
            have hlw : lg < wr.heap.size := by omega
            clear hsz3 hsz2 hszq
            have hcapk : n ≤ cap := HLV.out.le
            clear hyk hLA hLq ho
            go_wp2
            have hga : Grew wr (wr.alloc (.cells #[.string (xa k), .int .i64 (xm k)] 58)) := (Grew.refl _).alloc _
            have z0 := hga.cell' y0
            have z1 := hga.cell' y1
            go_quiet (fail)
            go_wp2_with (go_at_call 46; refine Calls.mono (over_any _) ?_; rintro e w5 ⟨rfl, hg5⟩; have hq5 : Grew wr w5 := (hga.drewN _).trans hg5; have z05 := hq5.cell' y0; have z15 := hq5.cell' y1; have f05 := (hq5.frozen (p := ⟨gg, k * 2, none⟩) hglt).trans f0; have f15 := (hq5.frozen (p := ⟨gg, k * 2 + 1, none⟩) hglt).trans f1)
            exact ⟨⟨k + 1, by omega, by go_num, rfl, HST.out _ hq5, show Hid _ from ((hT.out.trans (Turn.of_below hq5.below)).set ⟨gg, k * 2, none⟩ _ (fun _ => rfl)).set ⟨gg, k * 2 + 1, none⟩ _ (fun _ => rfl)⟩, by simp [intOf]; omega⟩
          · have hkn' : ¬ (k : Int) < (n : Int) := by omega
            have hel : (lent8 xa xm n 8)[k] = (⟨#[]⟩, -77) := lent8_ge xa xm n 8 k (by omega) hkl
            have y0 : wr.cell? ⟨gg, k * 2, none⟩ = some (.string ⟨#[]⟩) := by have := hyk 0 (by omega); rw [hel] at this; exact this
            have y1 : wr.cell? ⟨gg, k * 2 + 1, none⟩ = some (.int .i64 (-77)) := by have := hyk 1 (by omega); rw [hel] at this; exact this
            clear hyk ho
            go_wp2
            have hga : Grew wr (wr.alloc (.cells #[.string ⟨#[]⟩, .int .i64 (-77)] 58)) := (Grew.refl _).alloc _
            have z0 := hga.cell' y0
            have z1 := hga.cell' y1
            go_quiet (fail)
            go_wp2_with (go_at_call 46; refine Calls.mono (over_any _) ?_; rintro e w5 ⟨rfl, hg5⟩; have hq5 : Grew wr w5 := (hga.drewN _).trans hg5; have z05 := hq5.cell' y0; have z15 := hq5.cell' y1; have f05 := (hq5.frozen (p := ⟨gg, k * 2, none⟩) hglt).trans f0; have f15 := (hq5.frozen (p := ⟨gg, k * 2 + 1, none⟩) hglt).trans f1)
            exact ⟨⟨k + 1, by omega, by go_num, rfl, HST.out _ hq5, show Hid _ from ((hT.out.trans (Turn.of_below hq5.below)).set ⟨gg, k * 2, none⟩ _ (fun _ => rfl)).set ⟨gg, k * 2 + 1, none⟩ _ (fun _ => rfl)⟩, by simp [intOf]; omega⟩
        · have hlt8' : ¬ (k : Int) < (n : Int) + 8 := by omega
          have hlt8'' : ¬ (k : Int) < ((n + 8 : Nat) : Int) := by omega
          obtain rfl : k = n + 8 := by omega
          have ho := hown.out
          rw [List.drop_of_length_le (by rw [lent8_len]; omega), List.append_nil] at ho
          have hsz3 := HTD.out.size
          have hsz2 := HT2.out.size
          have hszq := hT.out.size
          have hszp := HTP.out.size
          have hszw := HBW.out.size
          have hLw := blk_lt HL.out.bk
          have T23 : Turn (fun b => d.Fp i b ∨ d.Fd i b) w w3 := (HT2.out.mono (fun _ _ h => .inl h)).trans (HTD.out.mono (fun _ _ h => .inr h))
          have TQ : Turn (fun b => d.Fp i b ∨ d.Fd i b) w wr := ⟨hT.out.os.trans T23.os, hT.out.tape.trans T23.tape, hT.out.output.trans T23.output, by omega, fun k hk hs => (hT.out.block k (by omega) (by omega)).trans (T23.block k hk hs)⟩
          have hLq := TQ.blk HL.out.bk (fun hs => hs.elim (prog_not (HL.out.pr i hi) HL.out.bk (by decide)) (doc_not (HL.out.dc i hi) HL.out.bk (by decide)))
          have hrtq := owns_turn HL.out.rt TQ (fun g e hs => by
            obtain ⟨c, fz, hc⟩ := owns_kind HL.out.rt g e
            exact hs.elim (prog_not (HL.out.pr i hi) hc (by decide)) (doc_not (HL.out.dc i hi) hc (by decide)))
          have cL3 := blk_cell' hLq (o := 3) rfl
          have fL3 := blk_free hLq 3
          have htL : d.vt.ownBlock ≠ some L := fun e => by
            obtain ⟨c, fz, hc⟩ := owns_kind HL.out.rt L e
            rw [HL.out.bk] at hc; simp at hc
          obtain ⟨i5, hi5, hz05, hz15, hz25⟩ := info_parts Tryz.infoLines
          have hHw : H ≤ wr.heap.size := by have := HL.out.lo; omega
          have HOQ : Hid (type_of% ho) := ho
          have HTQ : Hid (type_of% TQ) := TQ
          clear ho TQ T23 hown
          go_wp2_with (first
            | (at_builtin; refine wpList_append_lies _ rfl (.tmp 80) (.tmp 82) 48 rfl H 54 i5 _ 1 24 Tryz.underlying48 hi5 hz05 hz15 hz25 rfl (by decide) d.vt d.nt _ rfl (hrtq.alloc _) ⟨wr.heap.size, 0, none⟩ 1 1 [.slice (some ⟨gg, 0, none⟩) (n + 8) cg] rfl rfl (World.news_of_block (cs := #[.slice (some ⟨gg, 0, none⟩) (n + 8) cg]) (heap_alloc_new wr _)) (by simp [Value.oneCell']) (by decide) (by unfold maxLen; omega) (by omega) (by simp; omega) (wr.heap.size + 1) (by simp) ?_; intro g6 cap6 w6 hown6 hg6 hat6 hlt6; have hL6 : w6.heap[L]? = some (.cells #[d.vb, d.vl, d.vi, d.vt, d.v0, d.v1] 52 (0, 0)) := (hg6.block _ (by simp; have := blk_lt hLq; omega) (Ne.symm htL)).trans (Grew.blk ((Grew.refl wr).alloc _) hLq); have cL63 := blk_cell' hL6 (o := 3) rfl; have fL63 := blk_free hL6 3)
            | (go_at_call 40; refine Calls.mono (num_any _ _) ?_; rintro e wx ⟨rfl, hw⟩; rw [hw]; clear hw wx))
          go_ret
          have hok := HL.out.ok i hi
          have hKq : KindIn wr (fun b => d.vt.ownBlock = some b ∨ b = L) [54, 52] := by
            rintro b (hb' | rfl) hlt
            · obtain ⟨c, fz, hc⟩ := owns_kind hrtq b hb'; exact ⟨c, _, fz, hc, by decide⟩
            · exact ⟨_, _, _, hLq, by decide⟩
          have T67 : Turn (fun b => d.vt.ownBlock = some b ∨ b = L) wr (w6.setCell ⟨L, 3, none⟩ (.slice (some ⟨g6, 0, none⟩) (d.nt + 1) cap6)) := (Turn.of_grown ((Turn.refl _ wr).alloc _) hg6 (fun k hk _ => .inl hk)).set _ _ (fun _ => .inr rfl)
          have T7 : Turn (stepS d i L) w (w6.setCell ⟨L, 3, none⟩ (.slice (some ⟨g6, 0, none⟩) (d.nt + 1) cap6)) := (HTQ.out.mono (fun _ _ h => h.elim .inl (fun h => .inr (.inl h)))).trans (T67.mono (fun _ _ h => h.elim (fun h => .inr (.inr (.inl h))) (fun h => .inr (.inr (.inr h)))))
          have hD2 : DocIs w2 (d.R i) (d.st i) (d.Fd i) := (HL.out.dc i hi).turn HT2.out (fun k hk hp => HL.out.pd i i k hi hi hp hk)
          have hP3 := HPR.out.turn HTD.out (fun k hk hk' => (HFP.out k hk).elim (fun h => HL.out.pd i i k hi hi h hk') (fun h => by have := HL.out.dlt hi hk'; omega))
          have hP4 := hP3.turn hT.out (fun k hk e => by
            subst e
            rcases HFP.out k hk with h | h
            · have := HL.out.plt hi h; omega
            · omega)
          have hP7 := hP4.turn T67 (hKq.prog hP4 (by decide))
          have hD4 := HDR.out.turn hT.out (fun k hk e => by
            subst e
            rcases HFD.out k hk with h | h
            · have := HL.out.dlt hi h; omega
            · omega)
          have hD7 := hD4.turn T67 (hKq.doc hD4 (by decide))
          have hFd7 : ∀ k, Fd' k → d.Fd i k ∨ w.heap.size ≤ k := fun k hk => (HFD.out k hk).imp id (fun h => h.2)
          have hFp7 : ∀ k, Fp' k → d.Fp i k ∨ w.heap.size ≤ k := fun k hk => (HFP.out k hk).imp id (fun h => h.2)
          have hPD7 : ∀ k, Fp' k → ¬ Fd' k := fun k hk hk' => by
            rcases HFD2.out k hk' with h | h
            · rcases HFP.out k hk with h' | h'
              · exact HL.out.pd i i k hi hi h' h
              · have := HL.out.dlt hi h; omega
            · have := HPR.out.lt hk; omega
          rw [← HBi.out] at hP7
          rw [← HRi.out] at hD7
          have hfull : Full wr 58 2 [.string overB, .int .i64 (-99)] (fun k => k = gg) (.slice (some ⟨gg, 0, none⟩) (n + 8) cg) := full_at HOQ.out (by omega) (fun k hk o ho => rep_get _ _ _ _ hk ho)
          refine ⟨rfl, d.turned i ((d.st i).afterPost day xa xm n) Fp' Fd' (d.nt + 1) (upd d.tv d.nt (.slice (some ⟨gg, 0, none⟩) (n + 8) cg)) (.slice (some ⟨g6, 0, none⟩) (d.nt + 1) cap6), HL.out.pairStep hi T7 (blk_set hL6 3 _) ?_ ?_ hP7 hD7 (St.afterPost_ok hok _ _ _ _) hFp7 hFd7 hPD7 ?_, ⟨⟨Nat.le_refl _, Nat.le_succ _⟩, Nat.le_add_right _ _, Nat.le_add_right _ _, Nat.le_refl _⟩, T7.mono (fun k _ hk => HL.out.stepH hi k hk)⟩
          · have e1 : (List.range (d.nt + 1)).map (upd d.tv d.nt (.slice (some ⟨gg, 0, none⟩) (n + 8) cg)) = (List.range d.nt).map d.tv ++ [.slice (some ⟨gg, 0, none⟩) (n + 8) cg] := range_snoc d.nt d.tv _
            rw [e1]
            exact ownsRow_setCell_other hown6 (a := ⟨L, 3, none⟩) (fun e => by
              obtain ⟨c, fz, hc⟩ := owns_kind hown6 L e
              rw [hL6] at hc; simp at hc) _
          · intro b e
            have : g6 = b := Option.some.inj e
            subst this
            rcases hat6 with h | h
            · exact .inl h
            · exact .inr (by omega)
          · intro k hk
            by_cases e : k = d.nt
            · subst e
              rw [upd_same]
              refine hfull.turn T67 (fun g cs fz hc _ => hKq.no hc (by decide)) (fun g _ hg j hj hk => ?_)
              subst hg
              have hj' : j < d.nb := hj
              by_cases e : j = i
              · subst e
                simp only [Ls.turned, upd_same] at hk
                rcases hk with hk | hk
                · rcases HFD.out g hk with h | h
                  · have := HL.out.dlt hj' h; omega
                  · omega
                · rcases HFP.out g hk with h | h
                  · have := HL.out.plt hj' h; omega
                  · omega
              · simp only [Ls.turned, upd_ne _ _ e] at hk
                rcases hk with hk | hk
                · have := HL.out.dlt hj' hk; omega
                · have := HL.out.plt hj' hk; omega
            · rw [upd_ne _ _ e]
              exact HL.out.lentOn hi T7 hFp7 hFd7 k (by omega)
end Go.Proofs.YtjnmoddcodnadaaGreatDoor
