import Derived.Test.YtjnmoddcodnadaaGreatDoorG46
import Derived.Test.YtjnmoddcodnadaaGreatDoorG01
import Derived.Deep.RegionLaw
set_option linter.unusedVariables false
set_option linter.unusedSimpArgs false
namespace Go.Proofs.YtjnmoddcodnadaaGreatDoor
open Go.RowKit Go.Annal Go.Sort
theorem lines_of_owns {w : World} {X g cap n : Nat} {l : List Ln} (h : w.ownsRow X 58 2 (.slice (some ⟨g, 0, none⟩) n cap) l.length (cells2 l)) (hn : n = l.length) : LinesAt w g 0 n (fun k => (l.getD k (⟨#[]⟩, 0)).1) (fun k => (l.getD k (⟨#[]⟩, 0)).2) := by
  subst hn
  have hc : ∀ k (hk : k < l.length) o, o < 2 → w.cell? ⟨g, 0 + k * 2 + o, none⟩ = (enc2 l[k])[o]? := fun k hk o ho => by
    rw [Nat.zero_add]
    rw [h.cellAt (k * 2 + o) (by omega), cells2_get l k hk o ho]
  refine ⟨fun k hk => ?_, fun k hk => ?_⟩
  · have := hc k hk 0 (by omega)
    simp only [List.getD_eq_getElem?_getD, List.getElem?_eq_getElem hk]
    exact this
  · have := hc k hk 1 (by omega)
    simp only [List.getD_eq_getElem?_getD, List.getElem?_eq_getElem hk]
    exact this
theorem same_lines (v u : Value) (X Y : Nat) (l : List Ln) (w : World) (hv : w.ownsRow X 58 2 v l.length (cells2 l)) (hu : w.ownsRow Y 58 2 u l.length (cells2 l)) (hn : l.length ≤ 1000) :
    Calls Tryz.prog 87 #[v, u] w fun r w' => r = .returned (.bool true) ∧ Below w.heap.size w w' := by
  obtain ⟨av, cv, gv, ev, _, hav, _⟩ := owns_view hv
  obtain ⟨au, cu, gu, eu, _, hau, _⟩ := owns_view hu
  rcases Nat.eq_zero_or_pos l.length with h0 | hp
  · rw [ev, eu, h0]
    refine (sameLines_none av au cv cu w).mono ?_
    rintro r w' ⟨rfl, rfl⟩
    exact ⟨rfl, Below.refl _ _⟩
  · obtain ⟨rfl, _, _⟩ := hav hp
    obtain ⟨rfl, _, _⟩ := hau hp
    subst ev eu
    refine (sameLines_yes gv gu l.length cv cu 0 0 _ _ w (lines_of_owns hv rfl) (lines_of_owns hu rfl) hn).mono ?_
    rintro r w' ⟨rfl, q, rfl⟩
    exact ⟨rfl, below_drewN w q⟩
theorem items_of_owns {w : World} {X g cap n : Nat} {l : List It} (h : w.ownsRow X 106 3 (.slice (some ⟨g, 0, none⟩) n cap) l.length (cells3 l)) (hn : n = l.length) : ItemsAt w g 0 n (fun k => (l.getD k (0, 0, 0)).1) (fun k => (l.getD k (0, 0, 0)).2.1) (fun k => (l.getD k (0, 0, 0)).2.2) := by
  subst hn
  have hc : ∀ k (hk : k < l.length) o, o < 3 → w.cell? ⟨g, 0 + k * 3 + o, none⟩ = (enc3 l[k])[o]? := fun k hk o ho => by
    rw [Nat.zero_add]
    rw [h.cellAt (k * 3 + o) (by omega), cells3_get l k hk o ho]
  refine ⟨fun k hk => ?_, fun k hk => ?_, fun k hk => ?_⟩
  · have := hc k hk 0 (by omega)
    simp only [List.getD_eq_getElem?_getD, List.getElem?_eq_getElem hk]
    exact this
  · have := hc k hk 1 (by omega)
    simp only [List.getD_eq_getElem?_getD, List.getElem?_eq_getElem hk]
    exact this
  · have := hc k hk 2 (by omega)
    simp only [List.getD_eq_getElem?_getD, List.getElem?_eq_getElem hk]
    exact this
theorem same_items (v u : Value) (X Y : Nat) (l : List It) (w : World) (hv : w.ownsRow X 106 3 v l.length (cells3 l)) (hu : w.ownsRow Y 106 3 u l.length (cells3 l)) (hn : l.length ≤ 1000) :
    Calls Tryz.prog 91 #[v, u] w fun r w' => r = .returned (.bool true) ∧ Below w.heap.size w w' := by
  obtain ⟨av, cv, gv, ev, _, hav, _⟩ := owns_view hv
  obtain ⟨au, cu, gu, eu, _, hau, _⟩ := owns_view hu
  rcases Nat.eq_zero_or_pos l.length with h0 | hp
  · rw [ev, eu, h0]
    refine (sameItems_none av au cv cu w).mono ?_
    rintro r w' ⟨rfl, rfl⟩
    exact ⟨rfl, Below.refl _ _⟩
  · obtain ⟨rfl, _, _⟩ := hav hp
    obtain ⟨rfl, _, _⟩ := hau hp
    subst ev eu
    refine (sameItems_yes gv gu l.length cv cu 0 0 _ _ _ w (items_of_owns hv rfl) (items_of_owns hu rfl) hn).mono ?_
    rintro r w' ⟨rfl, q, rfl⟩
    exact ⟨rfl, below_drewN w q⟩
theorem trial_len {s : St} (ho : s.Ok) (day known : Int) : (s.trial day known).length ≤ 1000 := by
  unfold St.trial
  split
  · have := trL_len (fun x => enS s.dy s.la s.lm x day s.ln known.toNat) (nmS s.fn s.na)
    rw [nmS_len] at this
    have := ho.na
    omega
  · simp
theorem items_len {s : St} (ho : s.Ok) (name : ByteArray) (d1 d2 known : Int) : (s.items name d1 d2 known).length ≤ 1000 := by
  unfold St.items
  split
  · rename_i he
    have h1 := (askErr_zero he).2.2
    have h2 := knownB_yes h1
    have hne := ho.ne
    have := enI_len s.dy s.la s.lm name d1 d2 s.ln known.toNat (fun i hi => ho.ln i (by omega))
    omega
  · simp
theorem owns_below {w w' : World} {B : Nat} {e : TypeId} {sz n : Nat} {v : Value} {xs : List Value} (h : w.ownsRow B e sz v n xs) (hb : Below w.heap.size w w') : w'.ownsRow B e sz v n xs := owns_turn h (S := fun _ => False) (Turn.of_below hb) (fun _ _ h => h)
set_option maxHeartbeats 1000000 in
set_option maxRecDepth 100000 in
theorem asks_trial (H L i : Nat) (d : Ls) (kw A B C : Int) (name : ByteArray) (lv : Value) (w : World) (h : LawIs H w L d) (hi : i < d.nb) (hnl : d.nl ≤ 100000000) (hni : d.ni ≤ 100000000) (hnt : d.nt ≤ 100000000) :
    Calls Tryz.prog 45 #[.pointer (some ⟨L, 0, none⟩), .agg #[.pointer (some ⟨d.B i, 0, none⟩), .pointer (some ⟨d.R i, 0, none⟩)], .agg #[.int .i64 5, .int .i64 kw, .string name, .int .i64 A, .int .i64 B, .int .i64 C, lv]] w fun r w' => r = .returned (.bool true) ∧ ∃ d', LawIs H w' L d' ∧ Ls.Grows d d' ∧ Turn (fun b => H ≤ b) w w' := by
  have HL : Hid (LawIs H w L d) := h
  have hA := argAt w (d.B i) (d.R i) 5 kw A B C name lv
  obtain ⟨W0, hW0⟩ : ∃ W0, W0 = (w.alloc (.cells #[.pointer (some ⟨d.B i, 0, none⟩), .pointer (some ⟨d.R i, 0, none⟩)] 94)).alloc (.cells #[.int .i64 5, .int .i64 kw, .string name, .int .i64 A, .int .i64 B, .int .i64 C, lv] 56) := ⟨_, rfl⟩
  rw [← hW0] at hA
  have hb0 : Below w.heap.size w W0 := by rw [hW0]; exact (((Grew.refl w).alloc _).alloc _).below
  have HA : Hid (type_of% hA) := hA
  have HW : Hid (type_of% hW0) := hW0
  have hl := trial_len (h.ok i hi) A B
  have C1 : Hid (type_of% (progTrial (d.B i) (d.st i) (d.Fp i) A B W0 ((h.mv hb0).pr i hi) (h.ok i hi))) := progTrial (d.B i) (d.st i) (d.Fp i) A B W0 ((h.mv hb0).pr i hi) (h.ok i hi)
  have C2 : Hid (∀ W, Below w.heap.size w W → Calls Tryz.prog 86 #[.pointer (some ⟨d.R i, 0, none⟩), .int .i64 A, .int .i64 B] W fun r w' => ∃ v, r = .returned (.tuple #[v, .int .i64 ((d.st i).trialE A B)]) ∧ w'.ownsRow W.heap.size 58 2 v ((d.st i).trial A B).length (cells2 ((d.st i).trial A B)) ∧ Below W.heap.size W w') := fun W hW => docTrial (d.R i) (d.st i) (d.Fd i) A B W ((HL.out.mv hW).dc i hi) (HL.out.ok i hi)
  clear h hA hW0
  generalize (d.st i).trial A B = lt at C1 C2 hl
  generalize (d.st i).trialE A B = be at C1 C2
  have C3 : Hid (∀ (W0' W : World) (v : Value), Below w.heap.size w W0' → Below W0'.heap.size W0' W → W.ownsRow W0'.heap.size 58 2 v lt.length (cells2 lt) → Calls Tryz.prog 88 #[.pointer (some ⟨L, 0, none⟩), v] W fun r w' => r = .returned (.tuple #[]) ∧ ∃ d', LawIs H w' L d' ∧ Ls.Grows d d' ∧ Turn (fun b => H ≤ b) W w') := by
    intro W0' W v hb hb' hv
    refine (lawOwnLines H L d v lt W0' W (HL.out.mv hb) hb' hv hl hnl).mono ?_
    rintro r w' ⟨rfl, u1, u2, u3, vl', v0', hq, hT⟩
    exact ⟨rfl, _, hq, ⟨⟨Nat.le_refl _, Nat.le_succ _⟩, Nat.le_refl _, Nat.le_add_right _ _, Nat.le_succ _⟩, hT⟩
  generalize d.B i = Bi at *
  generalize d.R i = Ri at *
  go_enter Tryz.func45, Tryz.ntmps45
  go_wp2_with (first
    | (go_at_call 85; rw [← HW.out]; refine Calls.mono C1.out ?_; rintro e w1 ⟨v, rfl, hv, hb1⟩; obtain ⟨p0, p1, o0, o1, o2, o3, o4, o5, o6⟩ := HA.out.mv hb1; have hb2 : Below w.heap.size w w1 := hb0.trans (hb1.mono hb0.size); have HV : Hid _ := hv; clear hv)
    | (go_at_call 86; refine Calls.mono (C2.out _ hb2) ?_; rintro e w2 ⟨u, rfl, hu, hb3⟩; have hb4 : Below w.heap.size w w2 := hb2.trans (hb3.mono hb2.size); have hb5 : Below W0.heap.size W0 w2 := hb1.trans (hb3.mono hb1.size); have HU : Hid _ := hu; clear hu)
    | (go_at_call 87; refine Calls.mono (same_lines _ _ _ _ lt _ (owns_below HV.out hb3) HU.out hl) ?_; rintro e w3 ⟨rfl, hb6⟩; have hb7 : Below w.heap.size w w3 := hb4.trans (hb6.mono hb4.size); have hb8 : Below W0.heap.size W0 w3 := hb5.trans (hb6.mono hb5.size))
    | (go_at_call 18; refine Calls.mono (looks_any H _ L d (HL.out.mv hb7) hnl hni hnt) ?_; rintro e w4 ⟨rfl, hb9⟩; have hb10 : Below w.heap.size w w4 := hb7.trans (hb9.mono hb7.size); have hb11 : Below W0.heap.size W0 w4 := hb8.trans (hb9.mono hb8.size))
    | (go_at_call 88; refine Calls.mono (C3.out W0 _ _ hb0 hb11 (owns_below (owns_below (owns_below HV.out hb3) hb6) hb9)) ?_; rintro e w5 ⟨rfl, d', hd', hgr, hT⟩)
    | (go_at_call 40; refine Calls.mono (num_any _ _) ?_; rintro e wx ⟨rfl, hw⟩; rw [hw]; clear hw wx))
  go_ret
  exact ⟨rfl, d', hd', hgr, (Turn.of_below hb10).trans hT⟩
set_option maxHeartbeats 1000000 in
set_option maxRecDepth 100000 in
theorem asks_items (H L i : Nat) (d : Ls) (kw A B C : Int) (name : ByteArray) (lv : Value) (w : World) (h : LawIs H w L d) (hi : i < d.nb) (hnl : d.nl ≤ 100000000) (hni : d.ni ≤ 100000000) (hnt : d.nt ≤ 100000000) :
    Calls Tryz.prog 45 #[.pointer (some ⟨L, 0, none⟩), .agg #[.pointer (some ⟨d.B i, 0, none⟩), .pointer (some ⟨d.R i, 0, none⟩)], .agg #[.int .i64 6, .int .i64 kw, .string name, .int .i64 A, .int .i64 B, .int .i64 C, lv]] w fun r w' => r = .returned (.bool true) ∧ ∃ d', LawIs H w' L d' ∧ Ls.Grows d d' ∧ Turn (fun b => H ≤ b) w w' := by
  have HL : Hid (LawIs H w L d) := h
  have hA := argAt w (d.B i) (d.R i) 6 kw A B C name lv
  obtain ⟨W0, hW0⟩ : ∃ W0, W0 = (w.alloc (.cells #[.pointer (some ⟨d.B i, 0, none⟩), .pointer (some ⟨d.R i, 0, none⟩)] 94)).alloc (.cells #[.int .i64 6, .int .i64 kw, .string name, .int .i64 A, .int .i64 B, .int .i64 C, lv] 56) := ⟨_, rfl⟩
  rw [← hW0] at hA
  have hb0 : Below w.heap.size w W0 := by rw [hW0]; exact (((Grew.refl w).alloc _).alloc _).below
  have HA : Hid (type_of% hA) := hA
  have HW : Hid (type_of% hW0) := hW0
  have hl := items_len (h.ok i hi) name A B C
  have C1 : Hid (type_of% (progItems (d.B i) (d.st i) (d.Fp i) name A B C W0 ((h.mv hb0).pr i hi) (h.ok i hi))) := progItems (d.B i) (d.st i) (d.Fp i) name A B C W0 ((h.mv hb0).pr i hi) (h.ok i hi)
  have C2 : Hid (∀ W, Below w.heap.size w W → Calls Tryz.prog 90 #[.pointer (some ⟨d.R i, 0, none⟩), .string name, .int .i64 A, .int .i64 B, .int .i64 C] W fun r w' => ∃ v, r = .returned (.tuple #[v, .int .i64 ((d.st i).itemsE name A B C)]) ∧ w'.ownsRow W.heap.size 106 3 v ((d.st i).items name A B C).length (cells3 ((d.st i).items name A B C)) ∧ Below W.heap.size W w') := fun W hW => docItems (d.R i) (d.st i) (d.Fd i) name A B C W ((HL.out.mv hW).dc i hi) (HL.out.ok i hi)
  clear h hA hW0
  generalize (d.st i).items name A B C = lt at C1 C2 hl
  generalize (d.st i).itemsE name A B C = be at C1 C2
  have C3 : Hid (∀ (W0' W : World) (v : Value), Below w.heap.size w W0' → Below W0'.heap.size W0' W → W.ownsRow W0'.heap.size 106 3 v lt.length (cells3 lt) → Calls Tryz.prog 92 #[.pointer (some ⟨L, 0, none⟩), v] W fun r w' => r = .returned (.tuple #[]) ∧ ∃ d', LawIs H w' L d' ∧ Ls.Grows d d' ∧ Turn (fun b => H ≤ b) W w') := by
    intro W0' W v hb hb' hv
    refine (lawOwnItems H L d v lt W0' W (HL.out.mv hb) hb' hv hl hni).mono ?_
    rintro r w' ⟨rfl, u1, u2, u3, vl', v0', hq, hT⟩
    exact ⟨rfl, _, hq, ⟨⟨Nat.le_refl _, Nat.le_succ _⟩, Nat.le_add_right _ _, Nat.le_refl _, Nat.le_succ _⟩, hT⟩
  generalize d.B i = Bi at *
  generalize d.R i = Ri at *
  go_enter Tryz.func45, Tryz.ntmps45
  go_wp2_with (first
    | (go_at_call 89; rw [← HW.out]; refine Calls.mono C1.out ?_; rintro e w1 ⟨v, rfl, hv, hb1⟩; obtain ⟨p0, p1, o0, o1, o2, o3, o4, o5, o6⟩ := HA.out.mv hb1; have hb2 : Below w.heap.size w w1 := hb0.trans (hb1.mono hb0.size); have HV : Hid _ := hv; clear hv)
    | (go_at_call 90; refine Calls.mono (C2.out _ hb2) ?_; rintro e w2 ⟨u, rfl, hu, hb3⟩; have hb4 : Below w.heap.size w w2 := hb2.trans (hb3.mono hb2.size); have hb5 : Below W0.heap.size W0 w2 := hb1.trans (hb3.mono hb1.size); have HU : Hid _ := hu; clear hu)
    | (go_at_call 91; refine Calls.mono (same_items _ _ _ _ lt _ (owns_below HV.out hb3) HU.out hl) ?_; rintro e w3 ⟨rfl, hb6⟩; have hb7 : Below w.heap.size w w3 := hb4.trans (hb6.mono hb4.size); have hb8 : Below W0.heap.size W0 w3 := hb5.trans (hb6.mono hb5.size))
    | (go_at_call 18; refine Calls.mono (looks_any H _ L d (HL.out.mv hb7) hnl hni hnt) ?_; rintro e w4 ⟨rfl, hb9⟩; have hb10 : Below w.heap.size w w4 := hb7.trans (hb9.mono hb7.size); have hb11 : Below W0.heap.size W0 w4 := hb8.trans (hb9.mono hb8.size))
    | (go_at_call 92; refine Calls.mono (C3.out W0 _ _ hb0 hb11 (owns_below (owns_below (owns_below HV.out hb3) hb6) hb9)) ?_; rintro e w5 ⟨rfl, d', hd', hgr, hT⟩)
    | (go_at_call 40; refine Calls.mono (num_any _ _) ?_; rintro e wx ⟨rfl, hw⟩; rw [hw]; clear hw wx))
  go_ret
  exact ⟨rfl, d', hd', hgr, (Turn.of_below hb10).trans hT⟩
end Go.Proofs.YtjnmoddcodnadaaGreatDoor
namespace Go.Proofs.YtjnmoddcodnadaaGreatDoor
open Go.RowKit Go.Annal Go.Sort
/-- Book i is another one now, and what was lent. -/
def Ls.turned (d : Ls) (i : Nat) (s : St) (Fp Fd : Nat → Prop) (nt : Nat) (tv : Nat → Value) (vt : Value) : Ls := { d with st := upd d.st i s, Fp := upd d.Fp i Fp, Fd := upd d.Fd i Fd, nt := nt, tv := tv, vt := vt }
/-- The blocks that a step on book i turns. -/
def stepS (d : Ls) (i L : Nat) (b : Nat) : Prop := d.Fp i b ∨ d.Fd i b ∨ d.vt.ownBlock = some b ∨ b = L
theorem prog_not {w : World} {B : Nat} {s : St} {Fp : Nat → Prop} (hp : ProgIs w B s Fp) {k : Nat} {cs : Array Value} {t : TypeId} {fz : Nat × Nat} (hc : w.heap[k]? = some (.cells cs t fz)) (ht : ¬ progK t) : ¬ Fp k := fun hk => by
  obtain ⟨c', t', _, hc', ht'⟩ := hp.kind hk
  rw [hc] at hc'
  injection hc' with hc'
  injection hc' with _ hc'
  exact ht (hc' ▸ ht')
theorem doc_not {w : World} {R : Nat} {s : St} {Fd : Nat → Prop} (hp : DocIs w R s Fd) {k : Nat} {cs : Array Value} {t : TypeId} {fz : Nat × Nat} (hc : w.heap[k]? = some (.cells cs t fz)) (ht : ¬ docK t) : ¬ Fd k := fun hk => by
  obtain ⟨c', t', hc', ht'⟩ := hp.kind hk
  rw [hc] at hc'
  injection hc' with hc'
  injection hc' with _ hc'
  exact ht (hc' ▸ ht')
section
variable {H : Nat} {w w' : World} {L : Nat} {d : Ls} {i : Nat}
theorem LawIs.sNot (_h : LawIs H w L d) {k : Nat} (h1 : ¬ d.Fp i k) (h2 : ¬ d.Fd i k) (h3 : d.vt.ownBlock ≠ some k) (h4 : k ≠ L) : ¬ stepS d i L k := by
  rintro (e | e | e | e)
  · exact h1 e
  · exact h2 e
  · exact h3 e
  · exact h4 e
theorem LawIs.rowNot (h : LawIs H w L d) (hi : i < d.nb) {B : Nat} {e : TypeId} {sz n : Nat} {v : Value} {xs : List Value} (hv : w.ownsRow B e sz v n xs) (h1 : ¬ progK e) (h2 : ¬ docK e) (h3 : ∀ g, v.ownBlock = some g → d.vt.ownBlock ≠ some g) (h4 : e ≠ 52) : ∀ g, v.ownBlock = some g → ¬ stepS d i L g := fun g hg => by
  obtain ⟨c, fz, hc⟩ := owns_kind hv g hg
  refine h.sNot (prog_not (h.pr i hi) hc h1) (doc_not (h.dc i hi) hc h2) (h3 g hg) (fun e => ?_)
  rw [e, h.bk] at hc
  injection hc with hc
  injection hc with _ hc
  exact h4 hc.symm
theorem LawIs.vtNot (h : LawIs H w L d) {B : Nat} {e : TypeId} {sz n : Nat} {v : Value} {xs : List Value} (hv : w.ownsRow B e sz v n xs) (he : e ≠ 54) : ∀ g, v.ownBlock = some g → d.vt.ownBlock ≠ some g := fun g hg hg' => by
  obtain ⟨c, fz, hc⟩ := owns_kind hv g hg
  obtain ⟨c', fz', hc'⟩ := owns_kind h.rt g hg'
  rw [hc] at hc'
  injection hc' with hc'
  injection hc' with _ hc'
  exact he hc'
theorem LawIs.lineNot (h : LawIs H w L d) (hi : i < d.nb) {g : Nat} {cs : Array Value} {fz : Nat × Nat} (hc : w.heap[g]? = some (.cells cs 58 fz)) (ha : d.apart g) : ¬ stepS d i L g := by
  refine h.sNot (fun e => ha i hi (.inr e)) (fun e => ha i hi (.inl e)) (fun e => ?_) (fun e => ?_)
  · obtain ⟨c', fz', hc'⟩ := owns_kind h.rt g e
    rw [hc] at hc'; simp at hc'
  · rw [e, h.bk] at hc; simp at hc
theorem LawIs.itemNot (h : LawIs H w L d) (hi : i < d.nb) {g : Nat} {cs : Array Value} {fz : Nat × Nat} (hc : w.heap[g]? = some (.cells cs 106 fz)) : ¬ stepS d i L g := by
  refine h.sNot (prog_not (h.pr i hi) hc (by decide)) (doc_not (h.dc i hi) hc (by decide)) (fun e => ?_) (fun e => ?_)
  · obtain ⟨c', fz', hc'⟩ := owns_kind h.rt g e
    rw [hc] at hc'; simp at hc'
  · rw [e, h.bk] at hc; simp at hc
/-- A list that reads alike reads on, behind a step on book i. -/
theorem LawIs.apartOn (_h : LawIs H w L d) {Fd' : Nat → Prop} {s : St} {Fp' : Nat → Prop} {nt : Nat} {tv : Nat → Value} {vt : Value} (hFp : ∀ k, Fp' k → d.Fp i k ∨ w.heap.size ≤ k) (hFd : ∀ k, Fd' k → d.Fd i k ∨ w.heap.size ≤ k) (hi : i < d.nb) : ∀ g, g < w.heap.size → d.apart g → (d.turned i s Fp' Fd' nt tv vt).apart g := fun g hg ha j hj hk => by
  have hj' : j < d.nb := hj
  by_cases e : j = i
  · subst e
    simp only [Ls.turned, upd_same] at hk
    rcases hk with hk | hk
    · rcases hFd g hk with h1 | h1
      · exact ha j hj' (.inl h1)
      · omega
    · rcases hFp g hk with h1 | h1
      · exact ha j hj' (.inr h1)
      · omega
  · simp only [Ls.turned, upd_ne _ _ e] at hk
    exact ha j hj' hk
theorem LawIs.pairStep (h : LawIs H w L d) (hi : i < d.nb) {s' : St} {Fp' Fd' : Nat → Prop} {nt' : Nat} {tv' : Nat → Value} {vt' : Value} (T : Turn (stepS d i L) w w')
    (hL' : w'.heap[L]? = some (.cells #[d.vb, d.vl, d.vi, vt', d.v0, d.v1] 52 (0, 0))) (hrt : w'.ownsRow H 54 1 vt' nt' ((List.range nt').map tv')) (hvt : ∀ b, vt'.ownBlock = some b → d.vt.ownBlock = some b ∨ w.heap.size ≤ b)
    (hP : ProgIs w' (d.B i) s' Fp') (hD : DocIs w' (d.R i) s' Fd') (ho : s'.Ok) (hFp : ∀ k, Fp' k → d.Fp i k ∨ w.heap.size ≤ k) (hFd : ∀ k, Fd' k → d.Fd i k ∨ w.heap.size ≤ k)
    (hPD : ∀ k, Fp' k → ¬ Fd' k)
    (hct : ∀ k, k < nt' → Full w' 58 2 [.string overB, .int .i64 (-99)] (d.turned i s' Fp' Fd' nt' tv' vt').apart (tv' k)) : LawIs H w' L (d.turned i s' Fp' Fd' nt' tv' vt') := by
  have hLt := blk_lt h.bk
  have hlo := h.lo
  have hdo : ∀ j k, j < d.nb → d.Fd j k → ¬ d.Fp i k := fun j k hj hk => by
    exact fun hp => h.pd i j k hi hj hp hk
  have hpo : ∀ j k, j < d.nb → d.Fp j k → ¬ d.Fd i k := fun j k hj hk => by
    exact h.pd j i k hj hi hk
  have hLn : ∀ k, (∃ j, j < d.nb ∧ (d.Fp j k ∨ d.Fd j k)) → d.vt.ownBlock ≠ some k ∧ k ≠ L := by
    rintro k ⟨j, hj, hk⟩
    have hk' : ∃ c t fz, w.heap[k]? = some (.cells c t fz) ∧ t ≠ 54 ∧ t ≠ 52 := by
      rcases hk with hk | hk
      · obtain ⟨c, t, fz, hc, ht⟩ := (h.pr j hj).kind hk
        exact ⟨c, t, fz, hc, by rcases ht with rfl | rfl | rfl | rfl | rfl | rfl | rfl | rfl <;> decide⟩
      · obtain ⟨c, t, hc, ht⟩ := (h.dc j hj).kind hk
        exact ⟨c, t, _, hc, by rcases ht with rfl | rfl | rfl | rfl <;> decide⟩
    obtain ⟨c, t, fz, hc, h1, h2⟩ := hk'
    refine ⟨fun e => ?_, fun e => ?_⟩
    · obtain ⟨c', fz', hc'⟩ := owns_kind h.rt k e
      rw [hc] at hc'
      injection hc' with hc'
      injection hc' with _ hc'
      exact h1 hc'
    · rw [e, h.bk] at hc
      injection hc with hc
      injection hc with _ hc
      exact h2 hc.symm
  refine ⟨h.lo, hL', owns_turn h.rb T (h.rowNot hi h.rb (by decide) (by decide) (h.vtNot h.rb (by decide)) (by decide)), owns_turn h.rl T (h.rowNot hi h.rl (by decide) (by decide) (fun g e => h.a1 g e) (by decide)), owns_turn h.ri T (h.rowNot hi h.ri (by decide) (by decide) (h.vtNot h.ri (by decide)) (by decide)), hrt, owns_turn h.r0 T (h.rowNot hi h.r0 (by decide) (by decide) (h.vtNot h.r0 (by decide)) (by decide)), owns_turn h.r1 T (h.rowNot hi h.r1 (by decide) (by decide) (h.vtNot h.r1 (by decide)) (by decide)), ?_, h.a2, ?_, ?_, ?_, ?_, ?_, ?_, ?_, ?_, ?_, ?_, hct⟩
  · intro k hk hk'
    rcases hvt k hk' with e | e
    · exact h.a1 k hk e
    · have := (h.rl.lt k hk).2; omega
  · intro j hj
    have hj' : j < d.nb := hj
    by_cases e : j = i
    · subst e; simp only [Ls.turned, upd_same]; exact hP
    · simp only [Ls.turned, upd_ne _ _ e]
      refine (h.pr j hj').turn T (fun k hk hs => ?_)
      rcases hs with hs | hs | hs | hs
      · exact h.pp j i k hj' hi e hk hs
      · exact hpo j k hj' hk hs
      · exact (hLn k ⟨j, hj', .inl hk⟩).1 hs
      · exact (hLn k ⟨j, hj', .inl hk⟩).2 hs
  · intro j hj
    have hj' : j < d.nb := hj
    by_cases e : j = i
    · subst e; simp only [Ls.turned, upd_same]; exact hD
    · simp only [Ls.turned, upd_ne _ _ e]
      refine (h.dc j hj').turn T (fun k hk hs => ?_)
      rcases hs with hs | hs | hs | hs
      · exact hdo j k hj' hk hs
      · exact h.dd j i k hj' hi e hk hs
      · exact (hLn k ⟨j, hj', .inr hk⟩).1 hs
      · exact (hLn k ⟨j, hj', .inr hk⟩).2 hs
  · intro j hj
    have hj' : j < d.nb := hj
    by_cases e : j = i
    · subst e; simp only [Ls.turned, upd_same]; exact ho
    · simp only [Ls.turned, upd_ne _ _ e]; exact h.ok j hj'
  · intro a b k ha hb hab hk hk'
    have ha' : a < d.nb := ha
    have hb' : b < d.nb := hb
    simp only [Ls.turned] at hk hk'
    by_cases e : a = i
    · subst e
      rw [upd_same] at hk
      rw [upd_ne _ _ (fun e => hab e.symm)] at hk'
      rcases hFp k hk with h1 | h1
      · exact h.pp a b k ha' hb' hab h1 hk'
      · have := h.plt hb' hk'; omega
    · rw [upd_ne _ _ e] at hk
      by_cases e' : b = i
      · subst e'
        rw [upd_same] at hk'
        rcases hFp k hk' with h1 | h1
        · exact h.pp a b k ha' hb' hab hk h1
        · have := h.plt ha' hk; omega
      · rw [upd_ne _ _ e'] at hk'
        exact h.pp a b k ha' hb' hab hk hk'
  · intro a b k ha hb hab hk hk'
    have ha' : a < d.nb := ha
    have hb' : b < d.nb := hb
    simp only [Ls.turned] at hk hk'
    by_cases e : a = i
    · subst e
      rw [upd_same] at hk
      rw [upd_ne _ _ (fun e => hab e.symm)] at hk'
      rcases hFd k hk with h1 | h1
      · exact h.dd a b k ha' hb' hab h1 hk'
      · have := h.dlt hb' hk'; omega
    · rw [upd_ne _ _ e] at hk
      by_cases e' : b = i
      · subst e'
        rw [upd_same] at hk'
        rcases hFd k hk' with h1 | h1
        · exact h.dd a b k ha' hb' hab hk h1
        · have := h.dlt ha' hk; omega
      · rw [upd_ne _ _ e'] at hk'
        exact h.dd a b k ha' hb' hab hk hk'
  · intro a b k ha hb hk hk'
    have ha' : a < d.nb := ha
    have hb' : b < d.nb := hb
    simp only [Ls.turned] at hk hk'
    by_cases e : a = i
    · subst e
      rw [upd_same] at hk
      by_cases e' : b = a
      · subst e'
        rw [upd_same] at hk'
        exact hPD k hk hk'
      · rw [upd_ne _ _ e'] at hk'
        rcases hFp k hk with h1 | h1
        · exact h.pd a b k ha' hb' h1 hk'
        · have := h.dlt hb' hk'; omega
    · rw [upd_ne _ _ e] at hk
      by_cases e' : b = i
      · subst e'
        rw [upd_same] at hk'
        rcases hFd k hk' with h1 | h1
        · exact h.pd a b k ha' hb' hk h1
        · have := h.plt ha' hk; omega
      · rw [upd_ne _ _ e'] at hk'
        exact h.pd a b k ha' hb' hk hk'
  · intro j k hj hk
    have hj' : j < d.nb := hj
    simp only [Ls.turned] at hk
    by_cases e : j = i
    · subst e
      rw [upd_same] at hk
      rcases hFp k hk with h1 | h1
      · exact h.pH j k hj' h1
      · omega
    · rw [upd_ne _ _ e] at hk; exact h.pH j k hj' hk
  · intro j k hj hk
    have hj' : j < d.nb := hj
    simp only [Ls.turned] at hk
    by_cases e : j = i
    · subst e
      rw [upd_same] at hk
      rcases hFd k hk with h1 | h1
      · exact h.dH j k hj' h1
      · omega
    · rw [upd_ne _ _ e] at hk; exact h.dH j k hj' hk
  · intro k hk
    exact (h.cl k hk).turn T (fun _ _ _ hc ha => h.lineNot hi hc ha) (h.apartOn hFp hFd hi)
  · intro k hk
    exact (h.ci k hk).turn T (fun g cs fz hc _ => h.itemNot hi hc) (h.apartOn hFp hFd hi)
/-- What was lent before reads on. -/
theorem LawIs.lentOn (h : LawIs H w L d) (hi : i < d.nb) {s' : St} {Fp' Fd' : Nat → Prop} {nt' : Nat} {tv' : Nat → Value} {vt' : Value} (T : Turn (stepS d i L) w w') (hFp : ∀ k, Fp' k → d.Fp i k ∨ w.heap.size ≤ k) (hFd : ∀ k, Fd' k → d.Fd i k ∨ w.heap.size ≤ k) : ∀ k, k < d.nt → Full w' 58 2 [.string overB, .int .i64 (-99)] (d.turned i s' Fp' Fd' nt' tv' vt').apart (d.tv k) := fun k hk =>
  (h.ct k hk).turn T (fun _ _ _ hc ha => h.lineNot hi hc ha) (h.apartOn hFp hFd hi)
theorem LawIs.stepH (h : LawIs H w L d) (hi : i < d.nb) : ∀ k, stepS d i L k → H ≤ k := by
  rintro k (e | e | e | e)
  · exact h.pH i k hi e
  · exact h.dH i k hi e
  · exact (h.rt.lt k e).1
  · rw [e]; exact h.lo
end
end Go.Proofs.YtjnmoddcodnadaaGreatDoor
namespace Go.Proofs.YtjnmoddcodnadaaGreatDoor
open Go.RowKit Go.Annal Go.Sort
/-- The lines that are lent: those, and marks behind them. -/
def lent8 (xa : Nat → ByteArray) (xm : Nat → Int) (n k : Nat) : List Ln := (List.range n).map (fun i => (xa i, xm i)) ++ List.replicate k (⟨#[]⟩, -77)
theorem lent8_succ (xa : Nat → ByteArray) (xm : Nat → Int) (n k : Nat) : cells2 (lent8 xa xm n (k + 1)) = cells2 (lent8 xa xm n k) ++ [.string ⟨#[]⟩, .int .i64 (-77)] := by
  unfold lent8
  rw [List.replicate_succ', ← List.append_assoc, cells2_append]
  rfl
theorem lent8_len (xa : Nat → ByteArray) (xm : Nat → Int) (n k : Nat) : (lent8 xa xm n k).length = n + k := by simp [lent8]
theorem lent8_lt (xa : Nat → ByteArray) (xm : Nat → Int) (n m k : Nat) (hk : k < n) (h : k < (lent8 xa xm n m).length) : (lent8 xa xm n m)[k] = (xa k, xm k) := by
  have : (lent8 xa xm n m)[k]? = some (xa k, xm k) := by unfold lent8; rw [List.getElem?_append_left (by simpa using hk)]; simp [hk]
  rw [List.getElem?_eq_getElem h] at this; exact Option.some.inj this
theorem lent8_ge (xa : Nat → ByteArray) (xm : Nat → Int) (n m k : Nat) (hk : n ≤ k) (h : k < (lent8 xa xm n m).length) : (lent8 xa xm n m)[k] = (⟨#[]⟩, -77) := by
  have hl := lent8_len xa xm n m
  have : (lent8 xa xm n m)[k]? = some (⟨#[]⟩, -77) := by unfold lent8; rw [List.getElem?_append_right (by simpa using hk)]; rw [List.getElem?_replicate, if_pos (by simp; omega)]
  rw [List.getElem?_eq_getElem h] at this; exact Option.some.inj this
theorem full_at {w : World} {X : Nat} {e : TypeId} {sz n g cap : Nat} {c : List Value} {xs : List Value} (h : w.ownsRow X e sz (.slice (some ⟨g, 0, none⟩) n cap) n xs) (hn : n ≤ 2000000000) (hx : ∀ k, k < n → ∀ o, o < sz → xs[k * sz + o]? = c[o]?) : Full w e sz c (fun k => k = g) (.slice (some ⟨g, 0, none⟩) n cap) := by
  obtain ⟨ad, n', cap', e1, h1, h2, h3⟩ := full_of_owns h hn hx
  injection e1 with e1 e2 e3
  subst e1 e2 e3
  refine ⟨_, _, _, rfl, h1, h2, fun hp => ?_⟩
  obtain ⟨g', cs, fz, e4, hc, _, hcc⟩ := h3 hp
  injection e4 with e4
  injection e4 with e4
  subst e4
  exact ⟨g, cs, fz, rfl, hc, rfl, hcc⟩
theorem src_lines {w : World} {lad : Option Addr} {n cap : Nat} {xa : Nat → ByteArray} {xm : Nat → Int} (h : LinesV w lad n cap xa xm) (hnil : lad = none → cap = 0) : SrcAt w 2 (.slice lad n cap) n (lineCells xa xm n) := by
  cases lad with
  | none =>
    have hc := hnil rfl
    have hl := h.le
    obtain rfl : n = 0 := by omega
    subst hc
    exact .inl ⟨rfl, rfl, rfl⟩
  | some a =>
    refine .inr ⟨a, cap, rfl, lineCells_len _ _ _, fun j u hj => ?_⟩
    have hjl : j < n * 2 := by have := (List.getElem?_eq_some_iff.1 hj).1; rwa [lineCells_len] at this
    obtain ⟨lg, lo, e, hL⟩ := h.ls (by omega)
    injection e with e
    subst e
    rw [addr_add]
    rcases Nat.mod_two_eq_zero_or_one j with hm | hm
    · obtain ⟨k, rfl⟩ : ∃ k, j = k * 2 := ⟨j / 2, by omega⟩
      rw [lineCells_a _ _ _ _ (by omega)] at hj
      cases hj
      exact hL.ca k (by omega)
    · obtain ⟨k, rfl⟩ : ∃ k, j = k * 2 + 1 := ⟨j / 2, by omega⟩
      rw [lineCells_m _ _ _ _ (by omega)] at hj
      cases hj
      rw [← Nat.add_assoc]
      exact hL.cm k (by omega)
theorem linesV_of {w : World} {X g n k cg : Nat} {xa : Nat → ByteArray} {xm : Nat → Int} (h : w.ownsRow X 58 2 (.slice (some ⟨g, 0, none⟩) (n + k) cg) (n + k) (cells2 (lent8 xa xm n k))) (hf : n ≤ 1000000000) (hs : ∀ j, j < n → (xa j).size ≤ 1000000000) : LinesV w (some ⟨g, 0, none⟩) n cg xa xm := by
  obtain ⟨ad, c, gg, e, hc, hav, hcell⟩ := owns_view h
  injection e with e1 e2 e3
  subst e3
  refine ⟨by omega, hf, hs, fun hn => ⟨g, 0, rfl, ?_⟩⟩
  obtain ⟨rfl, _, _⟩ := hav (by omega)
  injection e1 with e1
  injection e1 with e1
  subst e1
  have hget : ∀ j (hj : j < n) o, o < 2 → w.cell? ⟨g, 0 + j * 2 + o, none⟩ = (enc2 (xa j, xm j))[o]? := fun j hj o ho => by
    rw [Nat.zero_add, hcell (j * 2 + o) (by omega), cells2_get _ j (by rw [lent8_len]; omega) o ho]
    congr 2
    unfold lent8
    rw [List.getElem_append_left (by simpa using hj)]
    simp
  exact ⟨fun j hj => hget j hj 0 (by omega), fun j hj => hget j hj 1 (by omega)⟩
theorem LinesV.turn {w w' : World} {lad : Option Addr} {n cap : Nat} {xa : Nat → ByteArray} {xm : Nat → Int} (h : LinesV w lad n cap xa xm) {S : Nat → Prop} (ht : Turn S w w') (hs : ∀ a, lad = some a → 0 < n → a.block < w.heap.size ∧ ¬ S a.block) : LinesV w' lad n cap xa xm :=
  ⟨h.le, h.few, h.sm, fun hn => by
    obtain ⟨lg, lo, e, hL⟩ := h.ls hn
    obtain ⟨h1, h2⟩ := hs _ e hn
    exact ⟨lg, lo, e, hL.turn ht h2 h1⟩⟩
set_option maxHeartbeats 4000000 in
set_option maxRecDepth 100000 in
theorem posts_any (H L i n cap : Nat) (d : Ls) (day : Int) (lad : Option Addr) (xa : Nat → ByteArray) (xm : Nat → Int) (w : World) (h : LawIs H w L d) (hi : i < d.nb) (hnt : d.nt ≤ 100000000)
    (hL : LinesV w lad n cap xa xm) (hnil : lad = none → cap = 0) (hap : ∀ a, lad = some a → 0 < n → a.block < w.heap.size ∧ ∀ j, j < d.nb → ¬ d.Fp j a.block ∧ ¬ d.Fd j a.block) :
    Calls Tryz.prog 41 #[.pointer (some ⟨L, 0, none⟩), .agg #[.pointer (some ⟨d.B i, 0, none⟩), .pointer (some ⟨d.R i, 0, none⟩)], .int .i64 day, .slice lad n cap] w fun r w' => r = .returned (.bool true) ∧ ∃ d', LawIs H w' L d' ∧ Ls.Grows d d' ∧ Turn (fun b => H ≤ b) w w' := by
  have HL : Hid (LawIs H w L d) := h
  obtain ⟨i0, hi0, hz0, hz1, hz2⟩ := info_parts Tryz.infoLine
  obtain ⟨W0, hW0⟩ : ∃ W0, W0 = w.alloc (.cells #[.pointer (some ⟨d.B i, 0, none⟩), .pointer (some ⟨d.R i, 0, none⟩)] 94) := ⟨_, rfl⟩
  have hb0 : Below w.heap.size w W0 := by rw [hW0]; exact ((Grew.refl w).alloc _).below
  have hp : W0.heap[w.heap.size]? = some (.cells #[.pointer (some ⟨d.B i, 0, none⟩), .pointer (some ⟨d.R i, 0, none⟩)] 94 (0, 0)) := by rw [hW0]; exact heap_alloc_new w _
  have HW : Hid (type_of% hW0) := hW0
  have HP : Hid (type_of% hp) := hp
  have hsrc := src_lines (hL.mv hb0) hnil
  have hone : ∀ u ∈ lineCells xa xm n, u.oneCell' = true := cells2_one _
  have hfew := hL.few
  have HLV : Hid (type_of% hL) := hL
  have HAP : Hid (type_of% hap) := hap
  have hws := hb0.size
  have CP : Hid (∀ W g cg, Below W0.heap.size W0 W → W.ownsRow W0.heap.size 58 2 (.slice (some ⟨g, 0, none⟩) (n + 8) cg) (n + 8) (cells2 (lent8 xa xm n 8)) → Calls Tryz.prog 28 #[.pointer (some ⟨d.B i, 0, none⟩), .int .i64 day, .slice (some ⟨g, 0, none⟩) n cg] W fun r w' => r = .returned (.tuple #[.int .i64 ((d.st i).postN day xa xm n), .int .i64 ((d.st i).postE day xa xm n)]) ∧ ∃ Fp', ProgIs w' (d.B i) ((d.st i).afterPost day xa xm n) Fp' ∧ Turn (d.Fp i) W w' ∧ ∀ k, Fp' k → d.Fp i k ∨ W.heap.size ≤ k) := fun W g cg hW ho =>
    progPost (d.B i) (d.st i) (d.Fp i) day _ n cg xa xm W ((HL.out.mv (hb0.trans (hW.mono hws))).pr i hi) (HL.out.ok i hi) (linesV_of ho HLV.out.few HLV.out.sm)
  have CD : Hid (∀ W, Turn (d.Fp i) w W → Calls Tryz.prog 80 #[.pointer (some ⟨d.R i, 0, none⟩), .int .i64 day, .slice lad n cap] W fun r w' => r = .returned (.tuple #[.int .i64 ((d.st i).postN day xa xm n), .int .i64 ((d.st i).postE day xa xm n)]) ∧ ∃ Fd', DocIs w' (d.R i) ((d.st i).afterPost day xa xm n) Fd' ∧ Turn (d.Fd i) W w' ∧ ∀ k, Fd' k → d.Fd i k ∨ W.heap.size ≤ k) := fun W hW =>
    docPost (d.R i) (d.st i) (d.Fd i) day lad n cap xa xm W ((HL.out.dc i hi).turn hW (fun k hk hp => HL.out.pd i i k hi hi hp hk)) (HL.out.ok i hi) (HLV.out.turn hW (fun a e hn => ⟨(HAP.out a e hn).1, ((HAP.out a e hn).2 i hi).1⟩))
  clear h hW0 hp hL hap
  generalize hpn : (d.st i).postN day xa xm n = pn at CP CD
  generalize hpe : (d.st i).postE day xa xm n = pe at CP CD
  clear hpn hpe
  generalize hBi : d.B i = Bi at *
  generalize hRi : d.R i = Ri at *
  have HBi : Hid (type_of% hBi) := hBi
  have HRi : Hid (type_of% hRi) := hRi
  clear hBi hRi
  go_enter Tryz.func41, Tryz.ntmps41
  go_wp2_with (at_builtin; rw [← HW.out]; refine wpList_append_src rfl (.tmp 18) (.tmp 19) 54 rfl W0.heap.size 58 i0 _ 2 24 Tryz.underlying54 hi0 hz0 hz1 hz2 rfl (by decide) (.slice none 0 0) 0 [] rfl (World.ownsRow_nil _ _ _ _) _ n (lineCells xa xm n) rfl hsrc hone (by unfold maxLen; omega) (by omega) (Nat.le_refl _) ?_; intro v1 w1 hown1 hg1; have hB1 : Below W0.heap.size W0 w1 := (Below.refl _ _).grown hg1 (Nat.le_refl _) (fun k hk => by cases hk))
  rw [Nat.zero_add, List.nil_append] at hown1
  have HO1 : Hid (w1.ownsRow W0.heap.size 58 2 v1 (n + 0) (cells2 (lent8 xa xm n 0))) := by
    show w1.ownsRow _ _ _ _ _ _
    unfold lent8
    rw [List.replicate_zero, List.append_nil]
    exact hown1
  have HB1 : Hid (type_of% hB1) := hB1
  clear hown1 hg1 hB1 hsrc hone
  go_loopw [9, 10] (fun gv iv wr => ∃ k : Nat, k ≤ 8 ∧ iv = .int .i64 k ∧ Hid (wr.ownsRow W0.heap.size 58 2 gv (n + k) (cells2 (lent8 xa xm n k))) ∧ Hid (Below W0.heap.size W0 wr)) (fun _ iv _ => 8 - (intOf iv).toNat)
  case atStart => exact ⟨0, by omega, rfl, HO1, HB1⟩
  case round =>
    obtain ⟨k, hk, rfl, hown, hb⟩ := hrel
    clear HO1 HB1
    by_cases hlt : k < 8
    · have hlt' : (k : Int) < 8 := by omega
      have hws := hb0.size
      have hws2 := hb.out.size
      go_wp2_with (at_builtin; refine wpList_append_lies _ rfl (.tmp 25) (.tmp 27) 54 rfl W0.heap.size 58 i0 _ 2 24 Tryz.underlying54 hi0 hz0 hz1 hz2 rfl (by decide) _ (n + k) _ rfl (hown.out.alloc _) ⟨wr.heap.size, 0, none⟩ 1 1 [.string ⟨#[]⟩, .int .i64 (-77)] rfl rfl (World.news_of_block (cs := #[.string ⟨#[]⟩, .int .i64 (-77)]) (heap_alloc_new wr _)) (by simp [Value.oneCell']) (by decide) (by unfold maxLen; omega) (by omega) (by simp; omega) (wr.heap.size + 1) (by simp) ?_; intro g2 cap2 w2 hown2 hg2 hat2 hlt2)
      have hb3 : Below W0.heap.size W0 w2 := ((hb.out.alloc hws2 _)).grown hg2 (by simp; omega) (fun k hk => (hown.out.lt k hk).1)
      exact ⟨⟨k + 1, by omega, by go_num, by show w2.ownsRow _ _ _ _ _ _; rw [lent8_succ]; exact hown2, hb3⟩, by simp [intOf]; omega⟩
    · have hlt' : ¬ (k : Int) < 8 := by omega
      obtain rfl : k = 8 := by omega
      obtain ⟨ad, cg, gg, eg, hgc, hgav, _⟩ := owns_view hown.out
      obtain ⟨rfl, hgb, _⟩ := hgav (by omega)
      rw [eg] at hown
      rw [eg]
      clear eg hgav
      have hpw := (hb.out.block _ (blk_lt HP.out)).trans HP.out
      have p0 := blk_cell' hpw (o := 0) rfl
      have hn1 : (0 : Int) ≤ (n : Int) := by omega
      have hn2 : (n : Int) ≤ (cg : Int) := by omega
      have hn3 : n ≤ cg := by omega
      go_wp2
      go_region_with (go_at_call 28; refine Calls.mono (CP.out _ gg cg hb.out.drew hown.out.drew) ?_; rintro e w2 ⟨rfl, HQ1⟩)
      all_goals
        obtain ⟨Fp', hP', hTp, hFp'⟩ := HQ1
        have hbw : Below w.heap.size w wr.drew := hb0.trans (hb.out.drew.mono hws)
        have hT2 : Turn (d.Fp i) w w2 := (Turn.of_below hbw).trans hTp
        have hnp : ∀ k, w.heap.size ≤ k → ¬ d.Fp i k := fun k hk h => by have := HL.out.plt hi h; omega
        have hpw2 := hTp.blk (w := wr.drew) hpw (hnp _ (Nat.le_refl _))
        have p1 := blk_cell' hpw2 (o := 1) rfl
        have hown2 := owns_turn hown.out.drew hTp (fun g e => by have e' : gg = g := Option.some.inj e; subst e'; exact hnp _ (by omega))
        have HO2 : Hid (type_of% hown2) := hown2
        have HT2 : Hid (type_of% hT2) := hT2
        have HTP : Hid (type_of% hTp) := hTp
        have HPR : Hid (type_of% hP') := hP'
        have hggl : gg < wr.heap.size := (hown.out.lt gg rfl).2
        have HFP : Hid (∀ k, Fp' k → d.Fp i k ∨ (gg < k ∧ w.heap.size ≤ k)) := fun k hk => (hFp' k hk).imp id (fun h => ⟨Nat.lt_of_lt_of_le hggl h, Nat.le_trans hbw.size h⟩)
        have HGL : Hid (gg < w2.heap.size) := Nat.lt_of_lt_of_le hggl hTp.size
        have HBW : Hid (type_of% hbw) := hbw
        clear hown2 hT2 hTp hP' hFp' hbw hpw p0 hown hb
      go_wp2_with (go_at_call 80; refine Calls.mono (CD.out _ HT2.out) ?_; rintro e w3 ⟨rfl, HQ2⟩)
      all_goals
        obtain ⟨Fd', hD', hTd, hFd'⟩ := HQ2
        have hnd : ∀ k, w.heap.size ≤ k → ¬ d.Fd i k := fun k hk h => by have := HL.out.dlt hi h; omega
        have hown3 := owns_turn HO2.out hTd (fun g e => by have e' : gg = g := Option.some.inj e; subst e'; exact hnd _ (by omega))
        have HO3 : Hid (type_of% hown3) := hown3
        have HTD : Hid (type_of% hTd) := hTd
        have HDR : Hid (type_of% hD') := hD'
        have HFD : Hid (∀ k, Fd' k → d.Fd i k ∨ (gg < k ∧ w.heap.size ≤ k)) := fun k hk => (hFd' k hk).imp id (fun h => ⟨Nat.lt_of_lt_of_le HGL.out h, Nat.le_trans HT2.out.size h⟩)
        have HFD2 : Hid (type_of% hFd') := hFd'
        clear hown3 hTd hD' hFd' p1 hpw2
      have hL3 : Hid (LinesV w3 lad n cap xa xm ∧ ∀ a, lad = some a → 0 < n → a.block < w.heap.size) := by
        have hT3 : Turn (fun b => d.Fp i b ∨ d.Fd i b) w w3 := (HT2.out.mono (fun _ _ h => .inl h)).trans (HTD.out.mono (fun _ _ h => .inr h))
        refine ⟨HLV.out.turn hT3 (fun a e hn => ?_), fun a e hn => ?_⟩
        · exact ⟨(HAP.out a e hn).1, fun h => h.elim ((HAP.out a e hn).2 i hi).1 ((HAP.out a e hn).2 i hi).2⟩
        · exact (HAP.out a e hn).1
      go_wp2
      rename World => w3
      go_loopw [15, 16, 17] (fun whv iv _ wq => ∃ k : Nat, k ≤ n + 8 ∧ iv = .int .i64 k ∧ whv = .bool true ∧ Hid (wq.ownsRow W0.heap.size 58 2 (.slice (some ⟨gg, 0, none⟩) (n + 8) cg) (n + 8) (cells2 (List.replicate k (overB, -99) ++ (lent8 xa xm n 8).drop k))) ∧ Hid (Turn (fun b => b = gg) w3 wq)) (fun _ iv _ _ => n + 8 - (intOf iv).toNat)
      case atStart => exact ⟨0, by omega, rfl, rfl, HO3, Turn.refl _ _⟩
      case round =>
        obtain ⟨k, hk8, rfl, rfl, hown, hT⟩ := hrel
        by_cases hlt8 : k < n + 8
        · have hlt8' : (k : Int) < (n : Int) + 8 := by omega
          have hlt8'' : (k : Int) < ((n + 8 : Nat) : Int) := by omega
          have hk0 : (0 : Int) ≤ (k : Int) := by omega
          have hlen := lent8_len xa xm n 8
          have hkl : k < (lent8 xa xm n 8).length := by omega
          have hdr : (lent8 xa xm n 8).drop k = (lent8 xa xm n 8)[k] :: (lent8 xa xm n 8).drop (k + 1) := List.drop_eq_getElem_cons hkl
          have ho := hown.out
          rw [hdr] at ho
          have HST : Hid (∀ W, Grew wr W → ((W.setCell ⟨gg, k * 2, none⟩ (.string overB)).setCell ⟨gg, k * 2 + 1, none⟩ (.int .i64 (-99))).ownsRow W0.heap.size 58 2 (.slice (some ⟨gg, 0, none⟩) (n + 8) cg) (n + 8) (cells2 (List.replicate (k + 1) (overB, -99) ++ (lent8 xa xm n 8).drop (k + 1)))) := by
            intro W hW
            have hst := (((owns_mv ho hW.below).stored (k * 2) (.string overB)).1.stored (k * 2 + 1) (.int .i64 (-99))).1
            have hcs := cells2_put (List.replicate k (overB, -99)) ((lent8 xa xm n 8).drop (k + 1)) (lent8 xa xm n 8)[k] overB (-99)
            rw [List.length_replicate] at hcs
            rw [hcs] at hst
            rw [List.replicate_succ', List.append_assoc]
            exact hst
          have hyk : ∀ o, o < 2 → wr.cell? ⟨gg, k * 2 + o, none⟩ = (enc2 (lent8 xa xm n 8)[k])[o]? := fun o ho' => by
            rw [ho.cellAt (k * 2 + o) (by omega), cells2_get _ k (by simp; omega) o ho']
            congr 2
            rw [List.getElem_append_right (by simp)]
            simp
          have f0 := ho.frozenAt (k * 2)
          have f1 := ho.frozenAt (k * 2 + 1)
          have hglt : gg < wr.heap.size := (ho.lt gg rfl).2
          clear hdr hown
          by_cases hkn : k < n
          · have hkn' : (k : Int) < (n : Int) := by omega
            have hel : (lent8 xa xm n 8)[k] = (xa k, xm k) := lent8_lt xa xm n 8 k hkn hkl
            have y0 : wr.cell? ⟨gg, k * 2, none⟩ = some (.string (xa k)) := by have := hyk 0 (by omega); rw [hel] at this; exact this
            have y1 : wr.cell? ⟨gg, k * 2 + 1, none⟩ = some (.int .i64 (xm k)) := by have := hyk 1 (by omega); rw [hel] at this; exact this
            obtain ⟨lg, lo, rfl, hLA⟩ := hL3.out.1.ls (by omega)
            have hlglt : lg < w.heap.size := hL3.out.2 _ rfl (by omega)
            have hLq := hLA.turn hT.out (S := fun b => b = gg) (by omega) (by have := HTD.out.size; have := HT2.out.size; omega)
            have l0 := hLq.ca k hkn
            have l1 := hLq.cm k hkn
            have hlne : lg ≠ gg := by omega
            have hsz3 := HTD.out.size
            have hsz2 := HT2.out.size
            have hszq := hT.out.size
            have hlw : lg < wr.heap.size := by omega
            clear hsz3 hsz2 hszq
            have hcapk : n ≤ cap := HLV.out.le
            clear hyk hLA hLq ho
            go_wp2
            have hga : Grew wr (wr.alloc (.cells #[.string (xa k), .int .i64 (xm k)] 58)) := (Grew.refl _).alloc _
            have z0 := hga.cell' y0
            have z1 := hga.cell' y1
            go_quiet (fail)
            go_wp2_with (go_at_call 46; refine Calls.mono (over_any _) ?_; rintro e w5 ⟨rfl, hg5⟩; have hq5 : Grew wr w5 := (hga.drewN _).trans hg5; have z05 := hq5.cell' y0; have z15 := hq5.cell' y1; have f05 := (hq5.frozen (p := ⟨gg, k * 2, none⟩) hglt).trans f0; have f15 := (hq5.frozen (p := ⟨gg, k * 2 + 1, none⟩) hglt).trans f1)
            exact ⟨⟨k + 1, by omega, by go_num, rfl, HST.out _ hq5, show Hid _ from ((hT.out.trans (Turn.of_below hq5.below)).set ⟨gg, k * 2, none⟩ _ (fun _ => rfl)).set ⟨gg, k * 2 + 1, none⟩ _ (fun _ => rfl)⟩, by simp [intOf]; omega⟩
          · have hkn' : ¬ (k : Int) < (n : Int) := by omega
            have hel : (lent8 xa xm n 8)[k] = (⟨#[]⟩, -77) := lent8_ge xa xm n 8 k (by omega) hkl
            have y0 : wr.cell? ⟨gg, k * 2, none⟩ = some (.string ⟨#[]⟩) := by have := hyk 0 (by omega); rw [hel] at this; exact this
            have y1 : wr.cell? ⟨gg, k * 2 + 1, none⟩ = some (.int .i64 (-77)) := by have := hyk 1 (by omega); rw [hel] at this; exact this
            clear hyk ho
            go_wp2
            have hga : Grew wr (wr.alloc (.cells #[.string ⟨#[]⟩, .int .i64 (-77)] 58)) := (Grew.refl _).alloc _
            have z0 := hga.cell' y0
            have z1 := hga.cell' y1
            go_quiet (fail)
            go_wp2_with (go_at_call 46; refine Calls.mono (over_any _) ?_; rintro e w5 ⟨rfl, hg5⟩; have hq5 : Grew wr w5 := (hga.drewN _).trans hg5; have z05 := hq5.cell' y0; have z15 := hq5.cell' y1; have f05 := (hq5.frozen (p := ⟨gg, k * 2, none⟩) hglt).trans f0; have f15 := (hq5.frozen (p := ⟨gg, k * 2 + 1, none⟩) hglt).trans f1)
            exact ⟨⟨k + 1, by omega, by go_num, rfl, HST.out _ hq5, show Hid _ from ((hT.out.trans (Turn.of_below hq5.below)).set ⟨gg, k * 2, none⟩ _ (fun _ => rfl)).set ⟨gg, k * 2 + 1, none⟩ _ (fun _ => rfl)⟩, by simp [intOf]; omega⟩
        · have hlt8' : ¬ (k : Int) < (n : Int) + 8 := by omega
          have hlt8'' : ¬ (k : Int) < ((n + 8 : Nat) : Int) := by omega
          obtain rfl : k = n + 8 := by omega
          have ho := hown.out
          rw [List.drop_of_length_le (by rw [lent8_len]; omega), List.append_nil] at ho
          have hsz3 := HTD.out.size
          have hsz2 := HT2.out.size
          have hszq := hT.out.size
          have hszp := HTP.out.size
          have hszw := HBW.out.size
          have hLw := blk_lt HL.out.bk
          have T23 : Turn (fun b => d.Fp i b ∨ d.Fd i b) w w3 := (HT2.out.mono (fun _ _ h => .inl h)).trans (HTD.out.mono (fun _ _ h => .inr h))
          have TQ : Turn (fun b => d.Fp i b ∨ d.Fd i b) w wr := ⟨hT.out.os.trans T23.os, hT.out.tape.trans T23.tape, hT.out.output.trans T23.output, by omega, fun k hk hs => (hT.out.block k (by omega) (by omega)).trans (T23.block k hk hs)⟩
          have hLq := TQ.blk HL.out.bk (fun hs => hs.elim (prog_not (HL.out.pr i hi) HL.out.bk (by decide)) (doc_not (HL.out.dc i hi) HL.out.bk (by decide)))
          have hrtq := owns_turn HL.out.rt TQ (fun g e hs => by
            obtain ⟨c, fz, hc⟩ := owns_kind HL.out.rt g e
            exact hs.elim (prog_not (HL.out.pr i hi) hc (by decide)) (doc_not (HL.out.dc i hi) hc (by decide)))
          have cL3 := blk_cell' hLq (o := 3) rfl
          have fL3 := blk_free hLq 3
          have htL : d.vt.ownBlock ≠ some L := fun e => by
            obtain ⟨c, fz, hc⟩ := owns_kind HL.out.rt L e
            rw [HL.out.bk] at hc; simp at hc
          obtain ⟨i5, hi5, hz05, hz15, hz25⟩ := info_parts Tryz.infoLines
          have hHw : H ≤ wr.heap.size := by have := HL.out.lo; omega
          have HOQ : Hid (type_of% ho) := ho
          have HTQ : Hid (type_of% TQ) := TQ
          clear ho TQ T23 hown
          go_wp2_with (first
            | (at_builtin; refine wpList_append_lies _ rfl (.tmp 80) (.tmp 82) 48 rfl H 54 i5 _ 1 24 Tryz.underlying48 hi5 hz05 hz15 hz25 rfl (by decide) d.vt d.nt _ rfl (hrtq.alloc _) ⟨wr.heap.size, 0, none⟩ 1 1 [.slice (some ⟨gg, 0, none⟩) (n + 8) cg] rfl rfl (World.news_of_block (cs := #[.slice (some ⟨gg, 0, none⟩) (n + 8) cg]) (heap_alloc_new wr _)) (by simp [Value.oneCell']) (by decide) (by unfold maxLen; omega) (by omega) (by simp; omega) (wr.heap.size + 1) (by simp) ?_; intro g6 cap6 w6 hown6 hg6 hat6 hlt6; have hL6 : w6.heap[L]? = some (.cells #[d.vb, d.vl, d.vi, d.vt, d.v0, d.v1] 52 (0, 0)) := (hg6.block _ (by simp; have := blk_lt hLq; omega) (Ne.symm htL)).trans (Grew.blk ((Grew.refl wr).alloc _) hLq); have cL63 := blk_cell' hL6 (o := 3) rfl; have fL63 := blk_free hL6 3)
            | (go_at_call 40; refine Calls.mono (num_any _ _) ?_; rintro e wx ⟨rfl, hw⟩; rw [hw]; clear hw wx))
          go_ret
          have hok := HL.out.ok i hi
          have hKq : KindIn wr (fun b => d.vt.ownBlock = some b ∨ b = L) [54, 52] := by
            rintro b (hb' | rfl) hlt
            · obtain ⟨c, fz, hc⟩ := owns_kind hrtq b hb'; exact ⟨c, _, fz, hc, by decide⟩
            · exact ⟨_, _, _, hLq, by decide⟩
          have T67 : Turn (fun b => d.vt.ownBlock = some b ∨ b = L) wr (w6.setCell ⟨L, 3, none⟩ (.slice (some ⟨g6, 0, none⟩) (d.nt + 1) cap6)) := (Turn.of_grown ((Turn.refl _ wr).alloc _) hg6 (fun k hk _ => .inl hk)).set _ _ (fun _ => .inr rfl)
          have T7 : Turn (stepS d i L) w (w6.setCell ⟨L, 3, none⟩ (.slice (some ⟨g6, 0, none⟩) (d.nt + 1) cap6)) := (HTQ.out.mono (fun _ _ h => h.elim .inl (fun h => .inr (.inl h)))).trans (T67.mono (fun _ _ h => h.elim (fun h => .inr (.inr (.inl h))) (fun h => .inr (.inr (.inr h)))))
          have hD2 : DocIs w2 (d.R i) (d.st i) (d.Fd i) := (HL.out.dc i hi).turn HT2.out (fun k hk hp => HL.out.pd i i k hi hi hp hk)
          have hP3 := HPR.out.turn HTD.out (fun k hk hk' => (HFP.out k hk).elim (fun h => HL.out.pd i i k hi hi h hk') (fun h => by have := HL.out.dlt hi hk'; omega))
          have hP4 := hP3.turn hT.out (fun k hk e => by
            subst e
            rcases HFP.out k hk with h | h
            · have := HL.out.plt hi h; omega
            · omega)
          have hP7 := hP4.turn T67 (hKq.prog hP4 (by decide))
          have hD4 := HDR.out.turn hT.out (fun k hk e => by
            subst e
            rcases HFD.out k hk with h | h
            · have := HL.out.dlt hi h; omega
            · omega)
          have hD7 := hD4.turn T67 (hKq.doc hD4 (by decide))
          have hFd7 : ∀ k, Fd' k → d.Fd i k ∨ w.heap.size ≤ k := fun k hk => (HFD.out k hk).imp id (fun h => h.2)
          have hFp7 : ∀ k, Fp' k → d.Fp i k ∨ w.heap.size ≤ k := fun k hk => (HFP.out k hk).imp id (fun h => h.2)
          have hPD7 : ∀ k, Fp' k → ¬ Fd' k := fun k hk hk' => by
            rcases HFD2.out k hk' with h | h
            · rcases HFP.out k hk with h' | h'
              · exact HL.out.pd i i k hi hi h' h
              · have := HL.out.dlt hi h; omega
            · have := HPR.out.lt hk; omega
          rw [← HBi.out] at hP7
          rw [← HRi.out] at hD7
          have hfull : Full wr 58 2 [.string overB, .int .i64 (-99)] (fun k => k = gg) (.slice (some ⟨gg, 0, none⟩) (n + 8) cg) := full_at HOQ.out (by omega) (fun k hk o ho => rep_get _ _ _ _ hk ho)
          refine ⟨rfl, d.turned i ((d.st i).afterPost day xa xm n) Fp' Fd' (d.nt + 1) (upd d.tv d.nt (.slice (some ⟨gg, 0, none⟩) (n + 8) cg)) (.slice (some ⟨g6, 0, none⟩) (d.nt + 1) cap6), HL.out.pairStep hi T7 (blk_set hL6 3 _) ?_ ?_ hP7 hD7 (St.afterPost_ok hok _ _ _ _) hFp7 hFd7 hPD7 ?_, ⟨⟨Nat.le_refl _, Nat.le_succ _⟩, Nat.le_add_right _ _, Nat.le_add_right _ _, Nat.le_refl _⟩, T7.mono (fun k _ hk => HL.out.stepH hi k hk)⟩
          · have e1 : (List.range (d.nt + 1)).map (upd d.tv d.nt (.slice (some ⟨gg, 0, none⟩) (n + 8) cg)) = (List.range d.nt).map d.tv ++ [.slice (some ⟨gg, 0, none⟩) (n + 8) cg] := range_snoc d.nt d.tv _
            rw [e1]
            exact ownsRow_setCell_other hown6 (a := ⟨L, 3, none⟩) (fun e => by
              obtain ⟨c, fz, hc⟩ := owns_kind hown6 L e
              rw [hL6] at hc; simp at hc) _
          · intro b e
            have : g6 = b := Option.some.inj e
            subst this
            rcases hat6 with h | h
            · exact .inl h
            · exact .inr (by omega)
          · intro k hk
            by_cases e : k = d.nt
            · subst e
              rw [upd_same]
              refine hfull.turn T67 (fun g cs fz hc _ => hKq.no hc (by decide)) (fun g _ hg j hj hk => ?_)
              subst hg
              have hj' : j < d.nb := hj
              by_cases e : j = i
              · subst e
                simp only [Ls.turned, upd_same] at hk
                rcases hk with hk | hk
                · rcases HFD.out g hk with h | h
                  · have := HL.out.dlt hj' h; omega
                  · omega
                · rcases HFP.out g hk with h | h
                  · have := HL.out.plt hj' h; omega
                  · omega
              · simp only [Ls.turned, upd_ne _ _ e] at hk
                rcases hk with hk | hk
                · have := HL.out.dlt hj' hk; omega
                · have := HL.out.plt hj' hk; omega
            · rw [upd_ne _ _ e]
              exact HL.out.lentOn hi T7 hFp7 hFd7 k (by omega)
end Go.Proofs.YtjnmoddcodnadaaGreatDoor
namespace Go.Proofs.YtjnmoddcodnadaaGreatDoor
open Go.RowKit Go.Annal
/-- The document's New, as one step of a region that draws. -/
theorem step_newR {ops : Array Oper} {o : Oper} {a : Act} {w : World} {K : Act → World → Prop} {Q : Exit → Act → World → Prop} {E : Prop}
    (hg : o.guard = none) (hop : o.op = Op.call { callee := Callee.value (Operand.func 35), args := #[], argTypes := #[] })
    (hK : K (a.put o.dst (.pointer (some ⟨w.heap.size, 0, none⟩))) (w.alloc (.cells #[.slice none 0 0, .slice none 0 0, .int .i64 (-1), .string ⟨#[]⟩] 103))) :
    if Region.wanted o (yielded ops a.tmps) = true then Oper.wp Tryz.prog o a w K Q else E := by
  have hw : Region.wanted o (yielded ops a.tmps) = true := by simp [Region.wanted, hg]
  rw [if_pos hw]
  unfold Oper.wp
  simp only [execOp, hop, resolve, Act.eval]
  go_simp
  refine Calls.mono (newR_any w) ?_
  rintro r w' ⟨rfl, rfl⟩
  exact hK
end Go.Proofs.YtjnmoddcodnadaaGreatDoor
namespace Go.Proofs.YtjnmoddcodnadaaGreatDoor
open Go.RowKit Go.Annal Go.Sort
theorem Tryz.infoPair : (Tryz.prog.info? 94).map (fun i => (i.zero, i.size, i.bytes)) = some (some (.agg #[.pointer none, .pointer none]), 2, 16) := by kernel_rfl
theorem docNew {w : World} {R : Nat} (h : w.heap[R]? = some (.cells #[.slice none 0 0, .slice none 0 0, .int .i64 (-1), .string ⟨#[]⟩] 103 (0, 0))) : DocIs w R St.new (fun k => k = R) :=
  ⟨none, none, 0, 0, fun _ => 0, fun _ => 0, ⟨h, ⟨rfl, .inl ⟨rfl, rfl⟩⟩, ⟨rfl, .inl ⟨rfl, rfl⟩⟩, fun k hk => absurd hk (Nat.not_lt_zero _), by decide⟩, fun k => ⟨.inl, fun h => h.elim id (fun h => h.elim (fun h => by cases h) (fun h => h.elim (fun h => by cases h) (fun ⟨i, hi, _⟩ => absurd hi (Nat.not_lt_zero _))))⟩⟩
def Ls.addBook (d : Ls) (b r : Nat) (vb : Value) : Ls := { d with nb := d.nb + 1, B := upd d.B d.nb b, R := upd d.R d.nb r, st := upd d.st d.nb St.new, Fp := upd d.Fp d.nb (fun k => k = b), Fd := upd d.Fd d.nb (fun k => k = r), vb := vb }
theorem progNewAt {w : World} {B : Nat} (h : w.heap[B]? = some (.cells #[.slice none 0 0, .slice none 0 0, .slice none 0 0, .int .i64 0] 68 (0, 0))) : ProgIs w B St.new (fun k => k = B) := by
  refine ⟨⟨0, 0, none, 0, 0, none, 0, 0, none, 0, fun _ => 0, fun _ => ⟨#[]⟩, [], fun _ => .nilIface⟩, fun _ => 0, fun _ => 0, fun _ _ => (0, 0, 0), fun _ => False, fun _ => 0, fun _ => 0, fun _ _ => ⟨#[]⟩, fun _ _ => 0, fun _ => .post, ⟨⟨h, ⟨rfl, .inl ⟨rfl, rfl⟩⟩, ⟨rfl, .inl ⟨rfl, rfl⟩⟩, ⟨rfl, .inl ⟨rfl, rfl⟩⟩, fun x a b _ hb => absurd hb (Nat.not_lt_zero _)⟩, ⟨fun _ => none, fun _ => 0, fun _ _ => 0, fun _ _ => 0, fun _ _ => [], fun i hi => absurd hi (Nat.not_lt_zero _), fun i j k hi => absurd hi (Nat.not_lt_zero _), fun k => ⟨fun h => h.elim, fun ⟨i, hi, _⟩ => absurd hi (Nat.not_lt_zero _)⟩⟩, rfl, rfl, rfl, by decide, NamesIs.zero _ _, fun i hi => absurd hi (Nat.not_lt_zero _), fun i hi => absurd hi (Nat.not_lt_zero _), fun i hi => absurd hi (Nat.not_lt_zero _), fun i hi => absurd hi (Nat.not_lt_zero _), fun i hi => absurd hi (Nat.not_lt_zero _), fun i hi => absurd hi (Nat.not_lt_zero _), fun i hi => absurd hi (Nat.not_lt_zero _), fun i hi => absurd hi (Nat.not_lt_zero _), TextIs.new _ _ _ _ _⟩, fun b => ?_⟩
  constructor
  · intro h; exact .inl (.inl h)
  · rintro ((h | h | h | h) | h | ⟨i, hi, _⟩)
    · exact h
    · cases h
    · cases h
    · cases h
    · exact h.elim
    · exact absurd hi (Nat.not_lt_zero _)
theorem LawIs.book {H : Nat} {w w' : World} {L : Nat} {d : Ls} {b r : Nat} {vb' : Value} (h : LawIs H w L d) (T : Turn (fun b => d.vb.ownBlock = some b ∨ b = L) w w') (hL' : w'.heap[L]? = some (.cells #[vb', d.vl, d.vi, d.vt, d.v0, d.v1] 52 (0, 0)))
    (hrb : w'.ownsRow H 94 2 vb' (d.nb + 1) (pairCells (upd d.B d.nb b) (upd d.R d.nb r) (d.nb + 1))) (hP : ProgIs w' b St.new (fun k => k = b)) (hD : DocIs w' r St.new (fun k => k = r)) (hb : w.heap.size ≤ b) (hr : w.heap.size ≤ r) (hbr : b ≠ r) : LawIs H w' L (d.addBook b r vb') := by
  have hK : KindIn w (fun b => d.vb.ownBlock = some b ∨ b = L) [94, 52] := by
    rintro k (hk | rfl) _
    · obtain ⟨c, fz, hc⟩ := owns_kind h.rb k hk; exact ⟨c, _, fz, hc, by decide⟩
    · exact ⟨_, _, _, h.bk, by decide⟩
  have hLt := blk_lt h.bk
  have hlo := h.lo
  have hap : ∀ g, g < w.heap.size → d.apart g → (d.addBook b r vb').apart g := fun g hg ha j hj hk => by
    have hj' : j < d.nb + 1 := hj
    by_cases e : j = d.nb
    · subst e
      simp only [Ls.addBook, upd_same] at hk
      omega
    · simp only [Ls.addBook, upd_ne _ _ e] at hk
      exact ha j (by omega) hk
  refine ⟨h.lo, hL', hrb, owns_turn h.rl T (hK.row h.rl (by decide)), owns_turn h.ri T (hK.row h.ri (by decide)), owns_turn h.rt T (hK.row h.rt (by decide)), owns_turn h.r0 T (hK.row h.r0 (by decide)), owns_turn h.r1 T (hK.row h.r1 (by decide)), h.a1, h.a2, ?_, ?_, ?_, ?_, ?_, ?_, ?_, ?_, fun i hi => (h.cl i hi).turn T (fun _ _ _ hc _ => hK.no hc (by decide)) hap, fun i hi => (h.ci i hi).turn T (fun _ _ _ hc _ => hK.no hc (by decide)) hap, fun i hi => (h.ct i hi).turn T (fun _ _ _ hc _ => hK.no hc (by decide)) hap⟩
  · intro j hj
    have hj' : j < d.nb + 1 := hj
    by_cases e : j = d.nb
    · subst e; simp only [Ls.addBook, upd_same]; exact hP
    · simp only [Ls.addBook, upd_ne _ _ e]
      exact (h.pr j (by omega)).turn T (hK.prog (h.pr j (by omega)) (by decide))
  · intro j hj
    have hj' : j < d.nb + 1 := hj
    by_cases e : j = d.nb
    · subst e; simp only [Ls.addBook, upd_same]; exact hD
    · simp only [Ls.addBook, upd_ne _ _ e]
      exact (h.dc j (by omega)).turn T (hK.doc (h.dc j (by omega)) (by decide))
  · intro j hj
    have hj' : j < d.nb + 1 := hj
    by_cases e : j = d.nb
    · subst e; simp only [Ls.addBook, upd_same]; exact St.new_ok
    · simp only [Ls.addBook, upd_ne _ _ e]; exact h.ok j (by omega)
  · intro x y k hx hy hxy hk hk'
    have hx' : x < d.nb + 1 := hx
    have hy' : y < d.nb + 1 := hy
    simp only [Ls.addBook] at hk hk'
    by_cases e : x = d.nb
    · subst e
      rw [upd_same] at hk
      rw [upd_ne _ _ (fun e => hxy e.symm)] at hk'
      have := h.plt (by omega) hk'; omega
    · rw [upd_ne _ _ e] at hk
      by_cases e' : y = d.nb
      · subst e'
        rw [upd_same] at hk'
        have := h.plt (by omega) hk; omega
      · rw [upd_ne _ _ e'] at hk'
        exact h.pp x y k (by omega) (by omega) hxy hk hk'
  · intro x y k hx hy hxy hk hk'
    have hx' : x < d.nb + 1 := hx
    have hy' : y < d.nb + 1 := hy
    simp only [Ls.addBook] at hk hk'
    by_cases e : x = d.nb
    · subst e
      rw [upd_same] at hk
      rw [upd_ne _ _ (fun e => hxy e.symm)] at hk'
      have := h.dlt (by omega) hk'; omega
    · rw [upd_ne _ _ e] at hk
      by_cases e' : y = d.nb
      · subst e'
        rw [upd_same] at hk'
        have := h.dlt (by omega) hk; omega
      · rw [upd_ne _ _ e'] at hk'
        exact h.dd x y k (by omega) (by omega) hxy hk hk'
  · intro x y k hx hy hk hk'
    have hx' : x < d.nb + 1 := hx
    have hy' : y < d.nb + 1 := hy
    simp only [Ls.addBook] at hk hk'
    by_cases e : x = d.nb
    · subst e
      rw [upd_same] at hk
      by_cases e' : y = d.nb
      · subst e'
        rw [upd_same] at hk'
        omega
      · rw [upd_ne _ _ e'] at hk'
        have := h.dlt (by omega) hk'; omega
    · rw [upd_ne _ _ e] at hk
      by_cases e' : y = d.nb
      · subst e'
        rw [upd_same] at hk'
        have := h.plt (by omega) hk; omega
      · rw [upd_ne _ _ e'] at hk'
        exact h.pd x y k (by omega) (by omega) hk hk'
  · intro j k hj hk
    have hj' : j < d.nb + 1 := hj
    simp only [Ls.addBook] at hk
    by_cases e : j = d.nb
    · subst e; rw [upd_same] at hk; omega
    · rw [upd_ne _ _ e] at hk; exact h.pH j k (by omega) hk
  · intro j k hj hk
    have hj' : j < d.nb + 1 := hj
    simp only [Ls.addBook] at hk
    by_cases e : j = d.nb
    · subst e; rw [upd_same] at hk; omega
    · rw [upd_ne _ _ e] at hk; exact h.dH j k (by omega) hk
set_option maxHeartbeats 4000000 in
set_option maxRecDepth 100000 in
theorem step_new (H L : Nat) (d : Ls) (kw A B C : Int) (name : ByteArray) (lv : Value) (w : World) (h : LawIs H w L d) (hnb : d.nb ≤ 100000000) :
    Calls Tryz.prog 17 #[.pointer (some ⟨L, 0, none⟩), .agg #[.int .i64 1, .int .i64 kw, .string name, .int .i64 A, .int .i64 B, .int .i64 C, lv]] w fun r w' => r = .returned (.bool true) ∧ ∃ d', LawIs H w' L d' ∧ Ls.Grows d d' ∧ d'.nb = d.nb + 1 ∧ Turn (fun b => H ≤ b) w w' := by
  obtain ⟨i0, hi0, hz0, hz1, hz2⟩ := info_parts Tryz.infoPair
  go_enter Tryz.func17, Tryz.ntmps17
  obtain ⟨W1, hW1⟩ : ∃ W1, W1 = (w.alloc (.cells #[.int .i64 1, .int .i64 kw, .string name, .int .i64 A, .int .i64 B, .int .i64 C, lv] 56)).alloc (.cells #[.slice none 0 0, .slice none 0 0, .slice none 0 0, .int .i64 0] 68) := ⟨_, rfl⟩
  have hb1 : Below w.heap.size w W1 := by rw [hW1]; exact (((Grew.refl w).alloc _).alloc _).below
  have hL1 := (h.mv hb1)
  have hbk1 : W1.heap[w.heap.size + 1]? = some (.cells #[.slice none 0 0, .slice none 0 0, .slice none 0 0, .int .i64 0] 68 (0, 0)) := by
    have := heap_alloc_new (w.alloc (.cells #[.int .i64 1, .int .i64 kw, .string name, .int .i64 A, .int .i64 B, .int .i64 C, lv] 56)) (.cells #[.slice none 0 0, .slice none 0 0, .slice none 0 0, .int .i64 0] 68)
    rw [World.size_alloc] at this
    rw [hW1]; exact this
  have hs1 : W1.heap.size = w.heap.size + 2 := by rw [hW1]; simp
  have HW1 : Hid (type_of% hW1) := hW1
  have HBK1 : Hid (type_of% hbk1) := hbk1
  have HS1 : Hid (type_of% hs1) := hs1
  clear hW1 hbk1 hs1
  go_wp2_with (first
    | (go_at_call 25; refine Calls.mono (annalNew_any _) ?_; rintro e wx ⟨rfl, hw⟩; rw [← HW1.out] at hw; rw [hw]; clear hw wx))
  have cL := blk_cell' hL1.bk (o := 0) rfl
  have fL := blk_free hL1.bk 0
  have hb2 : ((W1.alloc (.cells #[.slice none 0 0, .slice none 0 0, .int .i64 (-1), .string ⟨#[]⟩] 103)).alloc (.cells #[.pointer (some ⟨w.heap.size + 1, 0, none⟩), .pointer (some ⟨W1.heap.size, 0, none⟩)] 94)).drew.heap[W1.heap.size + 1]? = some (.cells #[.pointer (some ⟨w.heap.size + 1, 0, none⟩), .pointer (some ⟨W1.heap.size, 0, none⟩)] 94 (0, 0)) := by
    have := heap_alloc_new (W1.alloc (.cells #[.slice none 0 0, .slice none 0 0, .int .i64 (-1), .string ⟨#[]⟩] 103)) (.cells #[.pointer (some ⟨w.heap.size + 1, 0, none⟩), .pointer (some ⟨W1.heap.size, 0, none⟩)] 94)
    rwa [World.size_alloc] at this
  have hLlt := blk_lt hL1.bk
  have hbL : d.vb.ownBlock ≠ some L := fun e => by
    obtain ⟨c, fz, hc⟩ := owns_kind h.rb L e
    rw [h.bk] at hc; simp at hc
  have hHw : H ≤ W1.heap.size := by have := h.lo; omega
  go_region_law (first
    | (refine step_newR (by rfl) (by rfl) ?_)
    | (refine step_append_lies _ (by rfl) _ _ _ (by rfl) H 94 i0 _ 2 16 Tryz.underlying47 hi0 hz0 hz1 hz2 rfl (by decide) d.vb d.nb _ (by rfl) (by exact ((hL1.rb.alloc _).alloc _).drew) ⟨W1.heap.size + 1, 0, none⟩ 1 1 [.pointer (some ⟨w.heap.size + 1, 0, none⟩), .pointer (some ⟨W1.heap.size, 0, none⟩)] (by rfl) rfl (World.news_of_block (cs := #[.pointer (some ⟨w.heap.size + 1, 0, none⟩), .pointer (some ⟨W1.heap.size, 0, none⟩)]) hb2) (by simp [Value.oneCell']) (by decide) (by unfold maxLen; omega) (by omega) (by simp; omega) (W1.heap.size + 2) (by simp) ?_; intro g6 cap6 w6 hown6 hg6 hat6 hlt6; have hL6 : w6.heap[L]? = some (.cells #[d.vb, d.vl, d.vi, d.vt, d.v0, d.v1] 52 (0, 0)) := (hg6.block _ (by simp; omega) (Ne.symm hbL)).trans (Grew.blk (((Grew.refl W1).alloc _).alloc _).drew hL1.bk); have cL6 := blk_cell' hL6 (o := 0) rfl; have fL6 := blk_free hL6 0))
  all_goals go_wp2
  all_goals go_ret
  all_goals
    have hs1 := HS1.out
    have T6 : Turn (fun b => d.vb.ownBlock = some b ∨ b = L) W1 (w6.setCell ⟨L, 0, none⟩ (.slice (some ⟨g6, 0, none⟩) (d.nb + 1) cap6)) := (Turn.of_grown (((Turn.refl _ W1).alloc _).alloc _).drew hg6 (fun k hk _ => .inl hk)).set _ _ (fun _ => .inr rfl)
    have T : Turn (fun b => d.vb.ownBlock = some b ∨ b = L) w (w6.setCell ⟨L, 0, none⟩ (.slice (some ⟨g6, 0, none⟩) (d.nb + 1) cap6)) := (Turn.of_below hb1).trans T6
    have hvlt : ∀ k, d.vb.ownBlock = some k → k < w.heap.size := fun k e => (h.rb.lt k e).2
    have hwL := blk_lt h.bk
    have hB7 := T6.blk HBK1.out (fun hs => hs.elim (fun e => by have := hvlt _ e; omega) (fun e => by omega))
    have hR6 : w6.heap[W1.heap.size]? = some (.cells #[.slice none 0 0, .slice none 0 0, .int .i64 (-1), .string ⟨#[]⟩] 103 (0, 0)) := (hg6.block _ (by simp; omega) (fun e => by have := hvlt _ e.symm; omega)).trans (Grew.blk ((Grew.refl _).alloc _).drew (heap_alloc_new W1 _))
    have hR7 : (w6.setCell ⟨L, 0, none⟩ (.slice (some ⟨g6, 0, none⟩) (d.nb + 1) cap6)).heap[W1.heap.size]? = some (.cells #[.slice none 0 0, .slice none 0 0, .int .i64 (-1), .string ⟨#[]⟩] 103 (0, 0)) := (Below.heap_setCell w6 ⟨L, 0, none⟩ _ W1.heap.size (by show W1.heap.size ≠ L; omega)).trans hR6
    refine ⟨rfl, d.addBook (w.heap.size + 1) W1.heap.size (.slice (some ⟨g6, 0, none⟩) (d.nb + 1) cap6), h.book T (blk_set hL6 0 _) ?_ (progNewAt hB7) (docNew hR7) (by omega) (by omega) (by omega), ⟨⟨Nat.le_succ _, Nat.le_refl _⟩, Nat.le_add_right _ _, Nat.le_add_right _ _, Nat.le_succ _⟩, rfl, T.mono (fun k _ hk => hk.elim (fun e => (h.rb.lt k e).1) (fun e => by rw [e]; exact h.lo))⟩
    have e1 : pairCells (upd d.B d.nb (w.heap.size + 1)) (upd d.R d.nb W1.heap.size) (d.nb + 1) = pairCells d.B d.R d.nb ++ [.pointer (some ⟨w.heap.size + 1, 0, none⟩), .pointer (some ⟨W1.heap.size, 0, none⟩)] := by
      unfold pairCells
      rw [List.range_succ, List.flatMap_append]
      congr 1
      · apply flat_congr
        intro i hi
        rw [upd_ne _ _ (by omega), upd_ne _ _ (by omega)]
      · simp [upd]
    rw [e1]
    exact ownsRow_setCell_other hown6 (a := ⟨L, 0, none⟩) (fun e => by
      obtain ⟨c, fz, hc⟩ := owns_kind hown6 L e
      rw [hL6] at hc; simp at hc) _
end Go.Proofs.YtjnmoddcodnadaaGreatDoor
namespace Go.Proofs.YtjnmoddcodnadaaGreatDoor
open Go.RowKit Go.Annal Go.Sort
theorem pick_lt (kw : Int) (n : Nat) (hn : 0 < n) : 0 ≤ pickI kw n ∧ pickI kw n < n := by
  unfold pickI
  exact ⟨Int.emod_nonneg _ (by omega), Int.emod_lt_of_pos _ (by omega)⟩
set_option maxHeartbeats 4000000 in
set_option maxRecDepth 100000 in
theorem step_open (H L : Nat) (d : Ls) (kw A B C : Int) (name : ByteArray) (lv : Value) (w : World) (h : LawIs H w L d) (hnb : d.nb ≤ 100000000) (hn0 : 0 < d.nb) (h1 : -9223372036854775808 ≤ kw) (h2 : kw ≤ 9223372036854775807) (hs : name.size ≤ 1000000000) :
    Calls Tryz.prog 17 #[.pointer (some ⟨L, 0, none⟩), .agg #[.int .i64 2, .int .i64 kw, .string name, .int .i64 A, .int .i64 B, .int .i64 C, lv]] w fun r w' => r = .returned (.bool true) ∧ ∃ d', LawIs H w' L d' ∧ Ls.Grows d d' ∧ Turn (fun b => H ≤ b) w w' := by
  have HL : Hid (LawIs H w L d) := h
  obtain ⟨ip, hip⟩ : ∃ ip : Nat, pickI kw d.nb = ip := ⟨(pickI kw d.nb).toNat, by have := pick_lt kw d.nb hn0; omega⟩
  have hipl : ip < d.nb := by have := pick_lt kw d.nb hn0; omega
  have CK : Hid (∀ W, Calls Tryz.prog 37 #[.int .i64 kw, .int .i64 d.nb] W fun r w' => r = .returned (.int .i64 ip) ∧ w' = W) := fun W => by
    have := pick_any kw d.nb W h1 h2 (by omega) (by omega)
    rw [hip] at this
    exact this
  obtain ⟨adb, cb, gb, eb, hcb, hab, hbc⟩ := owns_view h.rb
  obtain ⟨rfl, _, _⟩ := hab (by omega)
  have cL := blk_cell' h.bk (o := 0) rfl
  rw [eb] at cL
  have q0 : w.cell? ⟨gb, ip * 2, none⟩ = some (.pointer (some ⟨d.B ip, 0, none⟩)) := by
    rw [hbc (ip * 2) (by omega)]
    exact flat_get 2 (fun i => [Value.pointer (some ⟨d.B i, 0, none⟩), .pointer (some ⟨d.R i, 0, none⟩)]) (fun _ => rfl) d.nb ip 0 hipl (by omega)
  have q1 : w.cell? ⟨gb, ip * 2 + 1, none⟩ = some (.pointer (some ⟨d.R ip, 0, none⟩)) := by
    rw [hbc (ip * 2 + 1) (by omega)]
    exact flat_get 2 (fun i => [Value.pointer (some ⟨d.B i, 0, none⟩), .pointer (some ⟨d.R i, 0, none⟩)]) (fun _ => rfl) d.nb ip 1 hipl (by omega)
  have hi1 : (0 : Int) ≤ (ip : Int) := by omega
  have hi2 : (ip : Int) < (d.nb : Int) := by omega
  have hn1 : ¬ (d.nb : Int) = 0 := by omega
  clear h hbc eb hip
  have hga : Grew w (w.alloc (.cells #[.int .i64 2, .int .i64 kw, .string name, .int .i64 A, .int .i64 B, .int .i64 C, lv] 56)) := (Grew.refl w).alloc _
  have cL' := hga.cell' cL
  have q0' := hga.cell' q0
  have q1' := hga.cell' q1
  go_enter Tryz.func17, Tryz.ntmps17
  go_wp2_with (first
    | (go_at_call 37; refine Calls.mono (CK.out _) ?_; rintro e wx ⟨rfl, hw⟩; rw [hw]; clear hw wx))
  have hne1 : L ≠ w.heap.size := by have := blk_lt HL.out.bk; omega
  go_region_held3 (fun w' => w'.cell? ⟨L, 0, none⟩ = some (.slice (some ⟨gb, 0, none⟩) d.nb cb) ∧ w'.cell? ⟨w.heap.size, 1, none⟩ = some (.int .i64 kw) ∧ w'.cell? ⟨gb, ip * 2, none⟩ = some (.pointer (some ⟨d.B ip, 0, none⟩)) ∧ w'.cell? ⟨gb, ip * 2 + 1, none⟩ = some (.pointer (some ⟨d.R ip, 0, none⟩))) (go_keep) (first | (go_at_call 37; refine Calls.mono (CK.out _) ?_; rintro e wx ⟨rfl, hw⟩; rw [hw]; clear hw wx))
  all_goals
    have hb2 : Below w.heap.size w ((w.alloc (.cells #[.int .i64 2, .int .i64 kw, .string name, .int .i64 A, .int .i64 B, .int .i64 C, lv] 56)).alloc (.cells #[.pointer (some ⟨d.B ip, 0, none⟩), .pointer (some ⟨d.R ip, 0, none⟩)] 94)).drew := ((((Grew.refl w).alloc _).alloc _).drew).below
    have hx1 : ((w.alloc (.cells #[.int .i64 2, .int .i64 kw, .string name, .int .i64 A, .int .i64 B, .int .i64 C, lv] 56)).alloc (.cells #[.pointer (some ⟨d.B ip, 0, none⟩), .pointer (some ⟨d.R ip, 0, none⟩)] 94)).drew.heap[w.heap.size]? = some (.cells #[.int .i64 2, .int .i64 kw, .string name, .int .i64 A, .int .i64 B, .int .i64 C, lv] 56 (0, 0)) := Grew.blk ((Grew.refl _).alloc _).drew (heap_alloc_new w _)
    have hx2 : ((w.alloc (.cells #[.int .i64 2, .int .i64 kw, .string name, .int .i64 A, .int .i64 B, .int .i64 C, lv] 56)).alloc (.cells #[.pointer (some ⟨d.B ip, 0, none⟩), .pointer (some ⟨d.R ip, 0, none⟩)] 94)).drew.heap[w.heap.size + 1]? = some (.cells #[.pointer (some ⟨d.B ip, 0, none⟩), .pointer (some ⟨d.R ip, 0, none⟩)] 94 (0, 0)) := by
      have := heap_alloc_new (w.alloc (.cells #[.int .i64 2, .int .i64 kw, .string name, .int .i64 A, .int .i64 B, .int .i64 C, lv] 56)) (.cells #[.pointer (some ⟨d.B ip, 0, none⟩), .pointer (some ⟨d.R ip, 0, none⟩)] 94)
      rwa [World.size_alloc] at this
    obtain ⟨W2, hW2⟩ : ∃ W2, ((w.alloc (.cells #[.int .i64 2, .int .i64 kw, .string name, .int .i64 A, .int .i64 B, .int .i64 C, lv] 56)).alloc (.cells #[.pointer (some ⟨d.B ip, 0, none⟩), .pointer (some ⟨d.R ip, 0, none⟩)] 94)).drew = W2 := ⟨_, rfl⟩
    rw [hW2] at hb2 hx1 hx2 ⊢
    clear hW2 cL' q0' q1' hga cL q0 q1
  all_goals
    have a0 := blk_cell' hx1 (o := 0) rfl
    have a2 := blk_cell' hx1 (o := 2) rfl
    have a3 := blk_cell' hx1 (o := 3) rfl
    have b0 := blk_cell' hx2 (o := 0) rfl
    have b1 := blk_cell' hx2 (o := 1) rfl
    have C1 : Hid (type_of% (progOpen (d.B ip) (d.st ip) (d.Fp ip) name A W2 ((HL.out.mv hb2).pr ip hipl) (HL.out.ok ip hipl) hs)) := progOpen (d.B ip) (d.st ip) (d.Fp ip) name A W2 ((HL.out.mv hb2).pr ip hipl) (HL.out.ok ip hipl) hs
    have C2 : Hid (∀ W, Turn (d.Fp ip) W2 W → Calls Tryz.prog 39 #[.pointer (some ⟨d.R ip, 0, none⟩), .string name, .int .i64 A] W fun r w' => r = .returned (.int .i64 ((d.st ip).openE name A)) ∧ ∃ Fd', DocIs w' (d.R ip) ((d.st ip).afterOpen name A) Fd' ∧ Turn (d.Fd ip) W w' ∧ ∀ k, Fd' k → d.Fd ip k ∨ W.heap.size ≤ k) := fun W hW => docOpen (d.R ip) (d.st ip) (d.Fd ip) name A W (((HL.out.mv hb2).dc ip hipl).turn hW (fun k hk hp => HL.out.pd ip ip k hipl hipl hp hk)) (HL.out.ok ip hipl) hs
    have hnp : ∀ k, w.heap.size ≤ k → ¬ d.Fp ip k := fun k hk h => by have := HL.out.plt hipl h; omega
    generalize hpe : (d.st ip).openE name A = pe at C1 C2
    clear hpe
  go_wp2_with (first
    | (go_at_call 38; refine Calls.mono C1.out ?_; rintro e w3 ⟨rfl, Fp', hP', hTp, hFp'⟩; have hy1 := hTp.blk hx1 (hnp _ (Nat.le_refl _)); have hy2 := hTp.blk hx2 (hnp _ (Nat.le_succ _)); have c2 := blk_cell' hy1 (o := 2) rfl; have c3 := blk_cell' hy1 (o := 3) rfl; have d1 := blk_cell' hy2 (o := 1) rfl)
    | (go_at_call 39; refine Calls.mono (C2.out _ hTp) ?_; rintro e w4 ⟨rfl, Fd', hD', hTd, hFd'⟩)
    | (go_at_call 40; refine Calls.mono (num_any _ _) ?_; rintro e wx ⟨rfl, hw⟩; rw [hw]; clear hw wx))
  all_goals go_ret
  all_goals
    have hwt : Turn (stepS d ip L) w w4 := (Turn.of_below hb2).trans ((hTp.mono (fun _ _ h => .inl h)).trans (hTd.mono (fun _ _ h => .inr (.inl h))))
    have hT2 : Turn (fun b => d.Fp ip b ∨ d.Fd ip b) w w4 := (Turn.of_below hb2).trans ((hTp.mono (fun _ _ h => .inl h)).trans (hTd.mono (fun _ _ h => .inr h)))
    have hL4 := hT2.blk HL.out.bk (fun hs => hs.elim (prog_not (HL.out.pr ip hipl) HL.out.bk (by decide)) (doc_not (HL.out.dc ip hipl) HL.out.bk (by decide)))
    have hrt4 := owns_turn HL.out.rt hT2 (fun g e hs => by
      obtain ⟨c, fz, hc⟩ := owns_kind HL.out.rt g e
      exact hs.elim (prog_not (HL.out.pr ip hipl) hc (by decide)) (doc_not (HL.out.dc ip hipl) hc (by decide)))
    have hD3 : DocIs w3 (d.R ip) (d.st ip) (d.Fd ip) := ((HL.out.mv hb2).dc ip hipl).turn hTp (fun k hk hp => HL.out.pd ip ip k hipl hipl hp hk)
    have hP4 := hP'.turn hTd (fun k hk hk' => (hFp' k hk).elim (fun h => HL.out.pd ip ip k hipl hipl h hk') (fun h => by have := HL.out.dlt hipl hk'; have := hb2.size; omega))
    have hbs := hb2.size
    have hps := hTp.size
    have hFp4 : ∀ k, Fp' k → d.Fp ip k ∨ w.heap.size ≤ k := fun k hk => (hFp' k hk).imp id (fun h => by omega)
    have hFd4 : ∀ k, Fd' k → d.Fd ip k ∨ w.heap.size ≤ k := fun k hk => (hFd' k hk).imp id (fun h => by omega)
    have hPD4 : ∀ k, Fp' k → ¬ Fd' k := fun k hk hk' => by
      rcases hFd' k hk' with h | h
      · rcases hFp' k hk with h' | h'
        · exact HL.out.pd ip ip k hipl hipl h' h
        · have := HL.out.dlt hipl h; omega
      · have := hP'.lt hk; omega
    exact ⟨rfl, d.turned ip ((d.st ip).afterOpen name A) Fp' Fd' d.nt d.tv d.vt, HL.out.pairStep hipl hwt hL4 hrt4 (fun b e => .inl e) hP4 hD' (St.afterOpen_ok (HL.out.ok ip hipl) _ _) hFp4 hFd4 hPD4 (HL.out.lentOn hipl hwt hFp4 hFd4), ⟨⟨Nat.le_refl _, Nat.le_succ _⟩, Nat.le_add_right _ _, Nat.le_add_right _ _, Nat.le_succ _⟩, hwt.mono (fun k _ hk => HL.out.stepH hipl k hk)⟩
end Go.Proofs.YtjnmoddcodnadaaGreatDoor
namespace Go.Proofs.YtjnmoddcodnadaaGreatDoor
open Go.RowKit Go.Annal Go.Sort
set_option maxHeartbeats 4000000 in
set_option maxRecDepth 100000 in
theorem step_post (H L : Nat) (d : Ls) (kw A B C : Int) (name : ByteArray) (n cap : Nat) (lad : Option Addr) (w : World) (h : LawIs H w L d) (hnb : d.nb ≤ 100000000) (hn0 : 0 < d.nb) (h1 : -9223372036854775808 ≤ kw) (h2 : kw ≤ 9223372036854775807) (hnt : d.nt ≤ 100000000) (xa : Nat → ByteArray) (xm : Nat → Int) (hLn : LinesV w lad n cap xa xm) (hnil : lad = none → cap = 0) (hap : ∀ a, lad = some a → 0 < n → a.block < w.heap.size ∧ ∀ j, j < d.nb → ¬ d.Fp j a.block ∧ ¬ d.Fd j a.block) :
    Calls Tryz.prog 17 #[.pointer (some ⟨L, 0, none⟩), .agg #[.int .i64 3, .int .i64 kw, .string name, .int .i64 A, .int .i64 B, .int .i64 C, .slice lad n cap]] w fun r w' => r = .returned (.bool true) ∧ ∃ d', LawIs H w' L d' ∧ Ls.Grows d d' ∧ Turn (fun b => H ≤ b) w w' := by
  have HL : Hid (LawIs H w L d) := h
  obtain ⟨ip, hip⟩ : ∃ ip : Nat, pickI kw d.nb = ip := ⟨(pickI kw d.nb).toNat, by have := pick_lt kw d.nb hn0; omega⟩
  have hipl : ip < d.nb := by have := pick_lt kw d.nb hn0; omega
  have CK : Hid (∀ W, Calls Tryz.prog 37 #[.int .i64 kw, .int .i64 d.nb] W fun r w' => r = .returned (.int .i64 ip) ∧ w' = W) := fun W => by
    have := pick_any kw d.nb W h1 h2 (by omega) (by omega)
    rw [hip] at this
    exact this
  obtain ⟨adb, cb, gb, eb, hcb, hab, hbc⟩ := owns_view h.rb
  obtain ⟨rfl, _, _⟩ := hab (by omega)
  have cL := blk_cell' h.bk (o := 0) rfl
  rw [eb] at cL
  have q0 : w.cell? ⟨gb, ip * 2, none⟩ = some (.pointer (some ⟨d.B ip, 0, none⟩)) := by
    rw [hbc (ip * 2) (by omega)]
    exact flat_get 2 (fun i => [Value.pointer (some ⟨d.B i, 0, none⟩), .pointer (some ⟨d.R i, 0, none⟩)]) (fun _ => rfl) d.nb ip 0 hipl (by omega)
  have q1 : w.cell? ⟨gb, ip * 2 + 1, none⟩ = some (.pointer (some ⟨d.R ip, 0, none⟩)) := by
    rw [hbc (ip * 2 + 1) (by omega)]
    exact flat_get 2 (fun i => [Value.pointer (some ⟨d.B i, 0, none⟩), .pointer (some ⟨d.R i, 0, none⟩)]) (fun _ => rfl) d.nb ip 1 hipl (by omega)
  have hi1 : (0 : Int) ≤ (ip : Int) := by omega
  have hi2 : (ip : Int) < (d.nb : Int) := by omega
  have hn1 : ¬ (d.nb : Int) = 0 := by omega
  clear h hbc eb hip
  have hga : Grew w (w.alloc (.cells #[.int .i64 3, .int .i64 kw, .string name, .int .i64 A, .int .i64 B, .int .i64 C, .slice lad n cap] 56)) := (Grew.refl w).alloc _
  have cL' := hga.cell' cL
  have q0' := hga.cell' q0
  have q1' := hga.cell' q1
  go_enter Tryz.func17, Tryz.ntmps17
  go_wp2_with (first
    | (go_at_call 37; refine Calls.mono (CK.out _) ?_; rintro e wx ⟨rfl, hw⟩; rw [hw]; clear hw wx))
  have hne1 : L ≠ w.heap.size := by have := blk_lt HL.out.bk; omega
  go_region_held3 (fun w' => w'.cell? ⟨L, 0, none⟩ = some (.slice (some ⟨gb, 0, none⟩) d.nb cb) ∧ w'.cell? ⟨w.heap.size, 1, none⟩ = some (.int .i64 kw) ∧ w'.cell? ⟨gb, ip * 2, none⟩ = some (.pointer (some ⟨d.B ip, 0, none⟩)) ∧ w'.cell? ⟨gb, ip * 2 + 1, none⟩ = some (.pointer (some ⟨d.R ip, 0, none⟩))) (go_keep) (first | (go_at_call 37; refine Calls.mono (CK.out _) ?_; rintro e wx ⟨rfl, hw⟩; rw [hw]; clear hw wx))
  all_goals
    have hb2 : Below w.heap.size w ((w.alloc (.cells #[.int .i64 3, .int .i64 kw, .string name, .int .i64 A, .int .i64 B, .int .i64 C, .slice lad n cap] 56)).alloc (.cells #[.pointer (some ⟨d.B ip, 0, none⟩), .pointer (some ⟨d.R ip, 0, none⟩)] 94)).drew := ((((Grew.refl w).alloc _).alloc _).drew).below
    have hx1 : ((w.alloc (.cells #[.int .i64 3, .int .i64 kw, .string name, .int .i64 A, .int .i64 B, .int .i64 C, .slice lad n cap] 56)).alloc (.cells #[.pointer (some ⟨d.B ip, 0, none⟩), .pointer (some ⟨d.R ip, 0, none⟩)] 94)).drew.heap[w.heap.size]? = some (.cells #[.int .i64 3, .int .i64 kw, .string name, .int .i64 A, .int .i64 B, .int .i64 C, .slice lad n cap] 56 (0, 0)) := Grew.blk ((Grew.refl _).alloc _).drew (heap_alloc_new w _)
    have hx2 : ((w.alloc (.cells #[.int .i64 3, .int .i64 kw, .string name, .int .i64 A, .int .i64 B, .int .i64 C, .slice lad n cap] 56)).alloc (.cells #[.pointer (some ⟨d.B ip, 0, none⟩), .pointer (some ⟨d.R ip, 0, none⟩)] 94)).drew.heap[w.heap.size + 1]? = some (.cells #[.pointer (some ⟨d.B ip, 0, none⟩), .pointer (some ⟨d.R ip, 0, none⟩)] 94 (0, 0)) := by
      have := heap_alloc_new (w.alloc (.cells #[.int .i64 3, .int .i64 kw, .string name, .int .i64 A, .int .i64 B, .int .i64 C, .slice lad n cap] 56)) (.cells #[.pointer (some ⟨d.B ip, 0, none⟩), .pointer (some ⟨d.R ip, 0, none⟩)] 94)
      rwa [World.size_alloc] at this
    obtain ⟨W2, hW2⟩ : ∃ W2, ((w.alloc (.cells #[.int .i64 3, .int .i64 kw, .string name, .int .i64 A, .int .i64 B, .int .i64 C, .slice lad n cap] 56)).alloc (.cells #[.pointer (some ⟨d.B ip, 0, none⟩), .pointer (some ⟨d.R ip, 0, none⟩)] 94)).drew = W2 := ⟨_, rfl⟩
    rw [hW2] at hb2 hx1 hx2 ⊢
    clear hW2 cL' q0' q1' hga cL q0 q1
  all_goals
    have a0 := blk_cell' hx1 (o := 0) rfl
    have a3 := blk_cell' hx1 (o := 3) rfl
    have a6 := blk_cell' hx1 (o := 6) rfl
    have b0 := blk_cell' hx2 (o := 0) rfl
    have b1 := blk_cell' hx2 (o := 1) rfl
    have C1 : Hid (type_of% (posts_any H L ip n cap d A lad xa xm W2 (HL.out.mv hb2) hipl hnt (hLn.mv hb2) hnil (fun a e hn => ⟨Nat.lt_of_lt_of_le (hap a e hn).1 hb2.size, (hap a e hn).2⟩))) := posts_any H L ip n cap d A lad xa xm W2 (HL.out.mv hb2) hipl hnt (hLn.mv hb2) hnil (fun a e hn => ⟨Nat.lt_of_lt_of_le (hap a e hn).1 hb2.size, (hap a e hn).2⟩)
  go_wp2_with (go_at_call 41; refine Calls.mono C1.out ?_; rintro e w3 ⟨rfl, d', hd', hgr, hT⟩)
  all_goals go_ret
  all_goals exact ⟨rfl, d', hd', hgr, (Turn.of_below hb2).trans hT⟩
end Go.Proofs.YtjnmoddcodnadaaGreatDoor
