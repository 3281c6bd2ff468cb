import Derived.Test.YtjnmoddcodnadaaGreatDoorG35
set_option linter.unusedVariables false
set_option linter.unusedSimpArgs false
namespace Go.Proofs.YtjnmoddcodnadaaGreatDoor
open Go.RowKit Go.Annal Go.Sort
/-- Blocks of S that were there are of one of these types. -/
def KindIn (w : World) (S : Nat → Prop) (ts : List TypeId) : Prop := ∀ b, S b → b < w.heap.size → ∃ cs t fz, w.heap[b]? = some (.cells cs t fz) ∧ t ∈ ts
theorem KindIn.no {w : World} {S : Nat → Prop} {ts : List TypeId} (h : KindIn w S ts) {b : Nat} {cs : Array Value} {t : TypeId} {fz : Nat × Nat} (hb : w.heap[b]? = some (.cells cs t fz)) (ht : t ∉ ts) : ¬ S b := fun hs => by
  obtain ⟨cs', t', fz', hc, hm⟩ := h b hs (blk_lt hb)
  rw [hb] at hc
  injection hc with hc
  injection hc with _ hc
  exact ht (hc ▸ hm)
theorem KindIn.row {w : World} {S : Nat → Prop} {ts : List TypeId} (h : KindIn w S ts) {B : Nat} {e : TypeId} {sz n : Nat} {v : Value} {xs : List Value} (hv : w.ownsRow B e sz v n xs) (ht : e ∉ ts) : ∀ g, v.ownBlock = some g → ¬ S g := fun g hg => by
  obtain ⟨c, fz, hc⟩ := owns_kind hv g hg
  exact h.no hc ht
theorem KindIn.prog {w : World} {S : Nat → Prop} {ts : List TypeId} (h : KindIn w S ts) {B : Nat} {s : St} {Fp : Nat → Prop} (hp : ProgIs w B s Fp) (ht : ∀ t ∈ ts, ¬ progK t) : ∀ k, Fp k → ¬ S k := fun k hk => by
  obtain ⟨cs, t, fz, hc, hkk⟩ := hp.kind hk
  exact h.no hc (fun hm => ht t hm hkk)
theorem KindIn.doc {w : World} {S : Nat → Prop} {ts : List TypeId} (h : KindIn w S ts) {R : Nat} {s : St} {Fd : Nat → Prop} (hp : DocIs w R s Fd) (ht : ∀ t ∈ ts, ¬ docK t) : ∀ k, Fd k → ¬ S k := fun k hk => by
  obtain ⟨cs, t, hc, hkk⟩ := hp.kind hk
  exact h.no hc (fun hm => ht t hm hkk)
theorem LawIs.dlt {H : Nat} {w : World} {L : Nat} {d : Ls} (h : LawIs H w L d) {j k : Nat} (hj : j < d.nb) (hk : d.Fd j k) : k < w.heap.size := by
  obtain ⟨cs, t, hc, _⟩ := (h.dc j hj).kind hk
  exact blk_lt hc
theorem LawIs.plt {H : Nat} {w : World} {L : Nat} {d : Ls} (h : LawIs H w L d) {j k : Nat} (hj : j < d.nb) (hk : d.Fp j k) : k < w.heap.size := by
  obtain ⟨cs, t, _, hc, _⟩ := (h.pr j hj).kind hk
  exact blk_lt hc
def put4 {α : Type} (n : Nat) (f : Nat → α) (a b c e : α) (i : Nat) : α := if i < n then f i else if i = n then a else if i = n + 1 then b else if i = n + 2 then c else e
theorem put4_map {α β : Type} (n : Nat) (f : Nat → α) (a b c e : α) (h : α → β) : (List.range (n + 4)).map (fun i => h (put4 n f a b c e i)) = (List.range n).map (fun i => h (f i)) ++ [h a, h b, h c, h e] := by
  rw [show n + 4 = n + 1 + 1 + 1 + 1 by omega, List.range_succ, List.range_succ, List.range_succ, List.range_succ]
  simp only [List.map_append, List.append_assoc, List.map_cons, List.map_nil, List.cons_append, List.nil_append]
  congr 1
  · apply List.map_congr_left
    intro i hi
    have : i < n := by simpa using hi
    simp [put4, this]
  · simp [put4, show ¬ (n + 1 < n) by omega, show ¬ (n + 2 < n) by omega, show ¬ (n + 3 < n) by omega]
def Ls.addLines (d : Ls) (v u1 u2 u3 vl' v0' : Value) : Ls := { d with nl := d.nl + 4, lv := put4 d.nl d.lv v u1 u2 u3, lm := put4 d.nl d.lm (-1 - (d.nl : Int)) (-1 - (d.nl : Int)) (-1 - (d.nl : Int)) (-1 - (d.nl : Int)), vl := vl', v0 := v0' }
def Ls.addItems (d : Ls) (v u1 u2 u3 vi' v1' : Value) : Ls := { d with ni := d.ni + 4, iv := put4 d.ni d.iv v u1 u2 u3, im := put4 d.ni d.im (-1 - (d.ni : Int)) (-1 - (d.ni : Int)) (-1 - (d.ni : Int)) (-1 - (d.ni : Int)), vi := vi', v1 := v1' }
theorem put4_full {w : World} {e : TypeId} {sz : Nat} {P : Nat → Prop} {n : Nat} {f : Nat → Value} {g : Nat → Int} {a b c d : Value} {m : Int} (C : Int → List Value) (h : ∀ i, i < n → Full w e sz (C (g i)) P (f i)) (ha : Full w e sz (C m) P a) (hb : Full w e sz (C m) P b) (hc : Full w e sz (C m) P c) (hd : Full w e sz (C m) P d) :
    ∀ i, i < n + 4 → Full w e sz (C (put4 n g m m m m i)) P (put4 n f a b c d i) := by
  intro i hi
  unfold put4
  by_cases h1 : i < n
  · rw [if_pos h1, if_pos h1]; exact h i h1
  · rw [if_neg h1, if_neg h1]
    by_cases h2 : i = n
    · rw [if_pos h2, if_pos h2]; exact ha
    · rw [if_neg h2, if_neg h2]
      by_cases h3 : i = n + 1
      · rw [if_pos h3, if_pos h3]; exact hb
      · rw [if_neg h3, if_neg h3]
        by_cases h4 : i = n + 2
        · rw [if_pos h4, if_pos h4]; exact hc
        · rw [if_neg h4, if_neg h4]; exact hd
/-- A list of lines that came out is its owner's. -/
theorem lawOwnLines (H L : Nat) (d : Ls) (v : Value) (l : List Ln) (w0 w : World) (h : LawIs H w0 L d) (hb : Below w0.heap.size w0 w) (hv : w.ownsRow w0.heap.size 58 2 v l.length (cells2 l)) (hn : l.length ≤ 1000) (hnl : d.nl ≤ 100000000) :
    Calls Tryz.prog 88 #[.pointer (some ⟨L, 0, none⟩), v] w fun r w' => r = .returned (.tuple #[]) ∧ ∃ u1 u2 u3 vl' v0', LawIs H w' L (d.addLines v u1 u2 u3 vl' v0') ∧ Turn (fun b => H ≤ b) w w' := by
  have hw := h.mv hb
  have hbs := hb.size
  have hLt := blk_lt h.bk
  have hHw : H ≤ w.heap.size := by have := h.lo; omega
  refine (ownLines_any H w0.heap.size L d.nl v d.vb d.vl d.vi d.vt d.v0 d.v1 l _ _ w hw.bk hw.rl hw.r0 hv hn hnl hbs hHw).mono ?_
  rintro r w' ⟨rfl, u1, u2, u3, vl', v0', hL', hrl', hr0', hO, hT, hl', h0'⟩
  refine ⟨rfl, u1, u2, u3, vl', v0', ?_, ?_⟩
  · have T : Turn (fun b => v.ownBlock = some b ∨ d.vl.ownBlock = some b ∨ b = L ∨ d.v0.ownBlock = some b) w0 w' := (Turn.of_below hb).trans hT
    have hK : KindIn w0 (fun b => v.ownBlock = some b ∨ d.vl.ownBlock = some b ∨ b = L ∨ d.v0.ownBlock = some b) [54, 52, 3] := by
      rintro b (hb' | hb' | rfl | hb') hlt
      · have := (hv.lt b hb').1; omega
      · obtain ⟨c, fz, hc⟩ := owns_kind h.rl b hb'; exact ⟨c, _, fz, hc, by decide⟩
      · exact ⟨_, _, _, h.bk, by decide⟩
      · obtain ⟨c, fz, hc⟩ := owns_kind h.r0 b hb'; exact ⟨c, _, fz, hc, by decide⟩
    have hap : ∀ g, w0.heap.size ≤ g → d.apart g := fun g hg j hj hk => by
      rcases hk with hk | hk
      · have := h.dlt hj hk; omega
      · have := h.plt hj hk; omega
    have hnew : ∀ {y : Value}, Full w' 58 2 [.string markB, .int .i64 (-1 - (d.nl : Int))] (fun g => w0.heap.size ≤ g) y → Full w' 58 2 [.string markB, .int .i64 (-1 - (d.nl : Int))] d.apart y := fun hy => hy.turn (S := fun _ => False) (Turn.refl _ _) (fun _ _ _ _ _ h => h) (fun g _ hg => hap g hg)
    have hold : ∀ {c : List Value} {y : Value}, Full w0 58 2 c d.apart y → Full w' 58 2 c d.apart y := fun hy => hy.turn T (fun g cs fz hc _ => hK.no hc (by decide)) (fun _ _ h => h)
    have hltt : ∀ k, d.vt.ownBlock = some k → k < w.heap.size := fun k e => (hw.rt.lt k e).2
    have hlt1 : ∀ k, d.v1.ownBlock = some k → k < w.heap.size := fun k e => (hw.r1.lt k e).2
    refine ⟨h.lo, hL', owns_turn h.rb T (hK.row h.rb (by decide)), ?_, owns_turn h.ri T (hK.row h.ri (by decide)), owns_turn h.rt T ?_, ?_, owns_turn h.r1 T ?_, ?_, ?_, fun i hi => (h.pr i hi).turn T (hK.prog (h.pr i hi) (by decide)), fun i hi => (h.dc i hi).turn T (hK.doc (h.dc i hi) (by decide)), h.ok, h.pp, h.dd, h.pd, h.pH, h.dH, ?_, fun i hi => (h.ci i hi).turn T (fun g cs fz hc _ => hK.no hc (by decide)) (fun _ _ h => h), fun i hi => hold (h.ct i hi)⟩
    · show w'.ownsRow H _ 1 vl' (d.nl + 4) ((List.range (d.nl + 4)).map (fun i => id (put4 d.nl d.lv v u1 u2 u3 i)))
      rw [put4_map]
      exact hrl'
    · rintro g hg (e | e | e | e)
      · have := (hv.lt g e).1; have := (h.rt.lt g hg).2; omega
      · exact h.a1 g e hg
      · obtain ⟨c, fz, hc⟩ := owns_kind h.rt g hg
        rw [e, h.bk] at hc; simp at hc
      · obtain ⟨c, fz, hc⟩ := owns_kind h.rt g hg
        obtain ⟨c', fz', hc'⟩ := owns_kind h.r0 g e
        rw [hc] at hc'; simp at hc'
    · show w'.ownsRow H _ 1 v0' (d.nl + 4) ((List.range (d.nl + 4)).map (fun i => Value.int .i64 (put4 d.nl d.lm _ _ _ _ i)))
      rw [put4_map d.nl d.lm _ _ _ _ (fun x => Value.int .i64 x)]
      exact hr0'
    · rintro g hg (e | e | e | e)
      · have := (hv.lt g e).1; have := (h.r1.lt g hg).2; omega
      · obtain ⟨c, fz, hc⟩ := owns_kind h.r1 g hg
        obtain ⟨c', fz', hc'⟩ := owns_kind h.rl g e
        rw [hc] at hc'; simp at hc'
      · obtain ⟨c, fz, hc⟩ := owns_kind h.r1 g hg
        rw [e, h.bk] at hc; simp at hc
      · exact h.a2 g e hg
    · intro k hk hk'
      rcases hl' k hk with e | e
      · exact h.a1 k e hk'
      · have := hltt k hk'; omega
    · intro k hk hk'
      rcases h0' k hk with e | e
      · exact h.a2 k e hk'
      · have := hlt1 k hk'; omega
    · exact put4_full (fun x => [.string markB, .int .i64 x]) (fun i hi => hold (h.cl i hi)) (hnew hO.f0) (hnew hO.f1) (hnew hO.f2) (hnew hO.f3)
  · refine hT.mono (fun k _ hk => ?_)
    rcases hk with e | e | e | e
    · have := (hv.lt k e).1; have := h.lo; omega
    · exact (h.rl.lt k e).1
    · rw [e]; exact h.lo
    · exact (h.r0.lt k e).1
/-- A list of items that came out is its owner's. -/
theorem lawOwnItems (H L : Nat) (d : Ls) (v : Value) (l : List It) (w0 w : World) (h : LawIs H w0 L d) (hb : Below w0.heap.size w0 w) (hv : w.ownsRow w0.heap.size 106 3 v l.length (cells3 l)) (hn : l.length ≤ 1000) (hnl : d.ni ≤ 100000000) :
    Calls Tryz.prog 92 #[.pointer (some ⟨L, 0, none⟩), v] w fun r w' => r = .returned (.tuple #[]) ∧ ∃ u1 u2 u3 vl' v0', LawIs H w' L (d.addItems v u1 u2 u3 vl' v0') ∧ Turn (fun b => H ≤ b) w w' := by
  have hw := h.mv hb
  have hbs := hb.size
  have hLt := blk_lt h.bk
  have hHw : H ≤ w.heap.size := by have := h.lo; omega
  refine (ownItems_any H w0.heap.size L d.ni v d.vb d.vi d.vl d.vt d.v1 d.v0 l _ _ w hw.bk hw.ri hw.r1 hv hn hnl hbs hHw).mono ?_
  rintro r w' ⟨rfl, u1, u2, u3, vl', v0', hL', hrl', hr0', hO, hT, hl', h0'⟩
  refine ⟨rfl, u1, u2, u3, vl', v0', ?_, ?_⟩
  · have T : Turn (fun b => v.ownBlock = some b ∨ d.vi.ownBlock = some b ∨ b = L ∨ d.v1.ownBlock = some b) w0 w' := (Turn.of_below hb).trans hT
    have hK : KindIn w0 (fun b => v.ownBlock = some b ∨ d.vi.ownBlock = some b ∨ b = L ∨ d.v1.ownBlock = some b) [104, 52, 3] := by
      rintro b (hb' | hb' | rfl | hb') hlt
      · have := (hv.lt b hb').1; omega
      · obtain ⟨c, fz, hc⟩ := owns_kind h.ri b hb'; exact ⟨c, _, fz, hc, by decide⟩
      · exact ⟨_, _, _, h.bk, by decide⟩
      · obtain ⟨c, fz, hc⟩ := owns_kind h.r1 b hb'; exact ⟨c, _, fz, hc, by decide⟩
    have hap : ∀ g, w0.heap.size ≤ g → d.apart g := fun g hg j hj hk => by
      rcases hk with hk | hk
      · have := h.dlt hj hk; omega
      · have := h.plt hj hk; omega
    have hnew : ∀ {y : Value}, Full w' 106 3 [.int .i64 (-1 - (d.ni : Int)), .int .i64 (-1 - (d.ni : Int)), .int .i64 (-1 - (d.ni : Int))] (fun g => w0.heap.size ≤ g) y → Full w' 106 3 [.int .i64 (-1 - (d.ni : Int)), .int .i64 (-1 - (d.ni : Int)), .int .i64 (-1 - (d.ni : Int))] d.apart y := fun hy => hy.turn (S := fun _ => False) (Turn.refl _ _) (fun _ _ _ _ _ h => h) (fun g _ hg => hap g hg)
    have hold : ∀ {c : List Value} {y : Value}, Full w0 106 3 c d.apart y → Full w' 106 3 c d.apart y := fun hy => hy.turn T (fun g cs fz hc _ => hK.no hc (by decide)) (fun _ _ h => h)
    have hlt0 : ∀ k, d.v0.ownBlock = some k → k < w.heap.size := fun k e => (hw.r0.lt k e).2
    refine ⟨h.lo, hL', owns_turn h.rb T (hK.row h.rb (by decide)), owns_turn h.rl T (hK.row h.rl (by decide)), ?_, owns_turn h.rt T (hK.row h.rt (by decide)), owns_turn h.r0 T ?_, ?_, h.a1, ?_, fun i hi => (h.pr i hi).turn T (hK.prog (h.pr i hi) (by decide)), fun i hi => (h.dc i hi).turn T (hK.doc (h.dc i hi) (by decide)), h.ok, h.pp, h.dd, h.pd, h.pH, h.dH, fun i hi => (h.cl i hi).turn T (fun g cs fz hc _ => hK.no hc (by decide)) (fun _ _ h => h), ?_, fun i hi => (h.ct i hi).turn T (fun g cs fz hc _ => hK.no hc (by decide)) (fun _ _ h => h)⟩
    · show w'.ownsRow H _ 1 vl' (d.ni + 4) ((List.range (d.ni + 4)).map (fun i => id (put4 d.ni d.iv v u1 u2 u3 i)))
      rw [put4_map]
      exact hrl'
    · rintro g hg (e | e | e | e)
      · have := (hv.lt g e).1; have := (h.r0.lt g hg).2; omega
      · obtain ⟨c, fz, hc⟩ := owns_kind h.r0 g hg
        obtain ⟨c', fz', hc'⟩ := owns_kind h.ri g e
        rw [hc] at hc'; simp at hc'
      · obtain ⟨c, fz, hc⟩ := owns_kind h.r0 g hg
        rw [e, h.bk] at hc; simp at hc
      · exact h.a2 g hg e
    · show w'.ownsRow H _ 1 v0' (d.ni + 4) ((List.range (d.ni + 4)).map (fun i => Value.int .i64 (put4 d.ni d.im _ _ _ _ i)))
      rw [put4_map d.ni d.im _ _ _ _ (fun x => Value.int .i64 x)]
      exact hr0'
    · intro k hk hk'
      rcases h0' k hk' with e | e
      · exact h.a2 k hk e
      · have := hlt0 k hk; omega
    · exact put4_full (fun x => [.int .i64 x, .int .i64 x, .int .i64 x]) (fun i hi => hold (h.ci i hi)) (hnew hO.f0) (hnew hO.f1) (hnew hO.f2) (hnew hO.f3)
  · refine hT.mono (fun k _ hk => ?_)
    rcases hk with e | e | e | e
    · have := (hv.lt k e).1; have := h.lo; omega
    · exact (h.ri.lt k e).1
    · rw [e]; exact h.lo
    · exact (h.r1.lt k e).1
end Go.Proofs.YtjnmoddcodnadaaGreatDoor
namespace Go.Proofs.YtjnmoddcodnadaaGreatDoor
open Go.RowKit Go.Annal Go.Sort
/-- What a step leaves: more of everything, at most so much. -/
structure Ls.Grows (d d' : Ls) : Prop where
  nb : d.nb ≤ d'.nb ∧ d'.nb ≤ d.nb + 1
  nl : d'.nl ≤ d.nl + 4
  ni : d'.ni ≤ d.ni + 4
  nt : d'.nt ≤ d.nt + 1
/-- The arguments of a step, as they lie behind a call's begin. -/
structure ArgAt (W : World) (b B R : Nat) (kind kw A B' C : Int) (name : ByteArray) (lv : Value) : Prop where
  p0 : W.cell? ⟨b, 0, none⟩ = some (.pointer (some ⟨B, 0, none⟩))
  p1 : W.cell? ⟨b, 1, none⟩ = some (.pointer (some ⟨R, 0, none⟩))
  o0 : W.cell? ⟨b + 1, 0, none⟩ = some (.int .i64 kind)
  o1 : W.cell? ⟨b + 1, 1, none⟩ = some (.int .i64 kw)
  o2 : W.cell? ⟨b + 1, 2, none⟩ = some (.string name)
  o3 : W.cell? ⟨b + 1, 3, none⟩ = some (.int .i64 A)
  o4 : W.cell? ⟨b + 1, 4, none⟩ = some (.int .i64 B')
  o5 : W.cell? ⟨b + 1, 5, none⟩ = some (.int .i64 C)
  o6 : W.cell? ⟨b + 1, 6, none⟩ = some lv
theorem ArgAt.mv {W W' : World} {b B R : Nat} {kind kw A B' C : Int} {name : ByteArray} {lv : Value} (h : ArgAt W b B R kind kw A B' C name lv) (hb : Below W.heap.size W W') : ArgAt W' b B R kind kw A B' C name lv :=
  ⟨cell_later hb h.p0, cell_later hb h.p1, cell_later hb h.o0, cell_later hb h.o1, cell_later hb h.o2, cell_later hb h.o3, cell_later hb h.o4, cell_later hb h.o5, cell_later hb h.o6⟩
theorem argAt (w : World) (B R : Nat) (kind kw A B' C : Int) (name : ByteArray) (lv : Value) :
    ArgAt ((w.alloc (.cells #[.pointer (some ⟨B, 0, none⟩), .pointer (some ⟨R, 0, none⟩)] 94)).alloc (.cells #[.int .i64 kind, .int .i64 kw, .string name, .int .i64 A, .int .i64 B', .int .i64 C, lv] 56)) w.heap.size B R kind kw A B' C name lv := by
  have h1 : ((w.alloc (.cells #[.pointer (some ⟨B, 0, none⟩), .pointer (some ⟨R, 0, none⟩)] 94)).alloc (.cells #[.int .i64 kind, .int .i64 kw, .string name, .int .i64 A, .int .i64 B', .int .i64 C, lv] 56)).heap[w.heap.size]? = some (.cells #[.pointer (some ⟨B, 0, none⟩), .pointer (some ⟨R, 0, none⟩)] 94 (0, 0)) := Grew.blk ((Grew.refl _).alloc _) (heap_alloc_new w _)
  have h2 := heap_alloc_new (w.alloc (.cells #[.pointer (some ⟨B, 0, none⟩), .pointer (some ⟨R, 0, none⟩)] 94)) (.cells #[.int .i64 kind, .int .i64 kw, .string name, .int .i64 A, .int .i64 B', .int .i64 C, lv] 56)
  rw [World.size_alloc] at h2
  exact ⟨blk_cell' h1 rfl, blk_cell' h1 rfl, blk_cell' h2 rfl, blk_cell' h2 rfl, blk_cell' h2 rfl, blk_cell' h2 rfl, blk_cell' h2 rfl, blk_cell' h2 rfl, blk_cell' h2 rfl⟩
set_option maxHeartbeats 1000000 in
set_option maxRecDepth 100000 in
theorem asks_bal (H L i : Nat) (d : Ls) (kw A B C : Int) (name : ByteArray) (lv : Value) (w : World) (h : LawIs H w L d) (hi : i < d.nb) :
    Calls Tryz.prog 45 #[.pointer (some ⟨L, 0, none⟩), .agg #[.pointer (some ⟨d.B i, 0, none⟩), .pointer (some ⟨d.R i, 0, none⟩)], .agg #[.int .i64 4, .int .i64 kw, .string name, .int .i64 A, .int .i64 B, .int .i64 C, lv]] w fun r w' => r = .returned (.bool true) ∧ LawIs H w' L d ∧ Below w.heap.size w w' := by
  have HL : Hid (LawIs H w L d) := h
  have hA := argAt w (d.B i) (d.R i) 4 kw A B C name lv
  obtain ⟨W0, hW0⟩ : ∃ W0, W0 = (w.alloc (.cells #[.pointer (some ⟨d.B i, 0, none⟩), .pointer (some ⟨d.R i, 0, none⟩)] 94)).alloc (.cells #[.int .i64 4, .int .i64 kw, .string name, .int .i64 A, .int .i64 B, .int .i64 C, lv] 56) := ⟨_, rfl⟩
  rw [← hW0] at hA
  have hb0 : Below w.heap.size w W0 := by rw [hW0]; exact (((Grew.refl w).alloc _).alloc _).below
  have HA : Hid (type_of% hA) := hA
  have HW : Hid (type_of% hW0) := hW0
  have C1 : Hid (type_of% (progBal (d.B i) (d.st i) (d.Fp i) name A B W0 ((h.mv hb0).pr i hi) (h.ok i hi))) := progBal (d.B i) (d.st i) (d.Fp i) name A B W0 ((h.mv hb0).pr i hi) (h.ok i hi)
  have C2 : Hid (∀ W, Below w.heap.size w W → Calls Tryz.prog 84 #[.pointer (some ⟨d.R i, 0, none⟩), .string name, .int .i64 A, .int .i64 B] W fun r w' => r = .returned (.tuple #[.int .i64 ((d.st i).bal name A B), .int .i64 ((d.st i).balE name A B)]) ∧ w' = W) := fun W hW => docBal (d.R i) (d.st i) (d.Fd i) name A B W ((HL.out.mv hW).dc i hi) (HL.out.ok i hi)
  clear h hA hW0
  generalize (d.st i).bal name A B = bl at C1 C2
  generalize (d.st i).balE name A B = be at C1 C2
  generalize d.B i = Bi at *
  generalize d.R i = Ri at *
  go_enter Tryz.func45, Tryz.ntmps45
  go_wp2_with (first
    | (go_at_call 34; rw [← HW.out]; refine Calls.mono C1.out ?_; rintro e w1 ⟨rfl, hb1⟩; obtain ⟨p0, p1, o0, o1, o2, o3, o4, o5, o6⟩ := HA.out.mv hb1; have hb2 : Below w.heap.size w w1 := hb0.trans (hb1.mono hb0.size))
    | (go_at_call 84; refine Calls.mono (C2.out _ hb2) ?_; rintro e wx ⟨rfl, hw⟩; rw [hw]; clear hw wx)
    | (go_at_call 40; refine Calls.mono (num_any _ _) ?_; rintro e wx ⟨rfl, hw⟩; rw [hw]; clear hw wx))
  go_ret
  exact ⟨rfl, HL.out.mv hb2, hb2⟩
end Go.Proofs.YtjnmoddcodnadaaGreatDoor
namespace Go.Proofs.YtjnmoddcodnadaaGreatDoor
open Go.RowKit Go.Annal Go.Sort
theorem lines_of_owns {w : World} {X g cap n : Nat} {l : List Ln} (h : w.ownsRow X 58 2 (.slice (some ⟨g, 0, none⟩) n cap) l.length (cells2 l)) (hn : n = l.length) : LinesAt w g 0 n (fun k => (l.getD k (⟨#[]⟩, 0)).1) (fun k => (l.getD k (⟨#[]⟩, 0)).2) := by
  subst hn
  have hc : ∀ k (hk : k < l.length) o, o < 2 → w.cell? ⟨g, 0 + k * 2 + o, none⟩ = (enc2 l[k])[o]? := fun k hk o ho => by
    rw [Nat.zero_add]
    rw [h.cellAt (k * 2 + o) (by omega), cells2_get l k hk o ho]
  refine ⟨fun k hk => ?_, fun k hk => ?_⟩
  · have := hc k hk 0 (by omega)
    simp only [List.getD_eq_getElem?_getD, List.getElem?_eq_getElem hk]
    exact this
  · have := hc k hk 1 (by omega)
    simp only [List.getD_eq_getElem?_getD, List.getElem?_eq_getElem hk]
    exact this
theorem same_lines (v u : Value) (X Y : Nat) (l : List Ln) (w : World) (hv : w.ownsRow X 58 2 v l.length (cells2 l)) (hu : w.ownsRow Y 58 2 u l.length (cells2 l)) (hn : l.length ≤ 1000) :
    Calls Tryz.prog 87 #[v, u] w fun r w' => r = .returned (.bool true) ∧ Below w.heap.size w w' := by
  obtain ⟨av, cv, gv, ev, _, hav, _⟩ := owns_view hv
  obtain ⟨au, cu, gu, eu, _, hau, _⟩ := owns_view hu
  rcases Nat.eq_zero_or_pos l.length with h0 | hp
  · rw [ev, eu, h0]
    refine (sameLines_none av au cv cu w).mono ?_
    rintro r w' ⟨rfl, rfl⟩
    exact ⟨rfl, Below.refl _ _⟩
  · obtain ⟨rfl, _, _⟩ := hav hp
    obtain ⟨rfl, _, _⟩ := hau hp
    subst ev eu
    refine (sameLines_yes gv gu l.length cv cu 0 0 _ _ w (lines_of_owns hv rfl) (lines_of_owns hu rfl) hn).mono ?_
    rintro r w' ⟨rfl, q, rfl⟩
    exact ⟨rfl, below_drewN w q⟩
theorem items_of_owns {w : World} {X g cap n : Nat} {l : List It} (h : w.ownsRow X 106 3 (.slice (some ⟨g, 0, none⟩) n cap) l.length (cells3 l)) (hn : n = l.length) : ItemsAt w g 0 n (fun k => (l.getD k (0, 0, 0)).1) (fun k => (l.getD k (0, 0, 0)).2.1) (fun k => (l.getD k (0, 0, 0)).2.2) := by
  subst hn
  have hc : ∀ k (hk : k < l.length) o, o < 3 → w.cell? ⟨g, 0 + k * 3 + o, none⟩ = (enc3 l[k])[o]? := fun k hk o ho => by
    rw [Nat.zero_add]
    rw [h.cellAt (k * 3 + o) (by omega), cells3_get l k hk o ho]
  refine ⟨fun k hk => ?_, fun k hk => ?_, fun k hk => ?_⟩
  · have := hc k hk 0 (by omega)
    simp only [List.getD_eq_getElem?_getD, List.getElem?_eq_getElem hk]
    exact this
  · have := hc k hk 1 (by omega)
    simp only [List.getD_eq_getElem?_getD, List.getElem?_eq_getElem hk]
    exact this
  · have := hc k hk 2 (by omega)
    simp only [List.getD_eq_getElem?_getD, List.getElem?_eq_getElem hk]
    exact this
theorem same_items (v u : Value) (X Y : Nat) (l : List It) (w : World) (hv : w.ownsRow X 106 3 v l.length (cells3 l)) (hu : w.ownsRow Y 106 3 u l.length (cells3 l)) (hn : l.length ≤ 1000) :
    Calls Tryz.prog 91 #[v, u] w fun r w' => r = .returned (.bool true) ∧ Below w.heap.size w w' := by
  obtain ⟨av, cv, gv, ev, _, hav, _⟩ := owns_view hv
  obtain ⟨au, cu, gu, eu, _, hau, _⟩ := owns_view hu
  rcases Nat.eq_zero_or_pos l.length with h0 | hp
  · rw [ev, eu, h0]
    refine (sameItems_none av au cv cu w).mono ?_
    rintro r w' ⟨rfl, rfl⟩
    exact ⟨rfl, Below.refl _ _⟩
  · obtain ⟨rfl, _, _⟩ := hav hp
    obtain ⟨rfl, _, _⟩ := hau hp
    subst ev eu
    refine (sameItems_yes gv gu l.length cv cu 0 0 _ _ _ w (items_of_owns hv rfl) (items_of_owns hu rfl) hn).mono ?_
    rintro r w' ⟨rfl, q, rfl⟩
    exact ⟨rfl, below_drewN w q⟩
theorem trial_len {s : St} (ho : s.Ok) (day known : Int) : (s.trial day known).length ≤ 1000 := by
  unfold St.trial
  split
  · have := trL_len (fun x => enS s.dy s.la s.lm x day s.ln known.toNat) (nmS s.fn s.na)
    rw [nmS_len] at this
    have := ho.na
    omega
  · simp
theorem items_len {s : St} (ho : s.Ok) (name : ByteArray) (d1 d2 known : Int) : (s.items name d1 d2 known).length ≤ 1000 := by
  unfold St.items
  split
  · rename_i he
    have h1 := (askErr_zero he).2.2
    have h2 := knownB_yes h1
    have hne := ho.ne
    have := enI_len s.dy s.la s.lm name d1 d2 s.ln known.toNat (fun i hi => ho.ln i (by omega))
    omega
  · simp
theorem owns_below {w w' : World} {B : Nat} {e : TypeId} {sz n : Nat} {v : Value} {xs : List Value} (h : w.ownsRow B e sz v n xs) (hb : Below w.heap.size w w') : w'.ownsRow B e sz v n xs := owns_turn h (S := fun _ => False) (Turn.of_below hb) (fun _ _ h => h)
set_option maxHeartbeats 1000000 in
set_option maxRecDepth 100000 in
theorem asks_trial (H L i : Nat) (d : Ls) (kw A B C : Int) (name : ByteArray) (lv : Value) (w : World) (h : LawIs H w L d) (hi : i < d.nb) (hnl : d.nl ≤ 100000000) (hni : d.ni ≤ 100000000) (hnt : d.nt ≤ 100000000) :
    Calls Tryz.prog 45 #[.pointer (some ⟨L, 0, none⟩), .agg #[.pointer (some ⟨d.B i, 0, none⟩), .pointer (some ⟨d.R i, 0, none⟩)], .agg #[.int .i64 5, .int .i64 kw, .string name, .int .i64 A, .int .i64 B, .int .i64 C, lv]] w fun r w' => r = .returned (.bool true) ∧ ∃ d', LawIs H w' L d' ∧ Ls.Grows d d' ∧ Turn (fun b => H ≤ b) w w' := by
  have HL : Hid (LawIs H w L d) := h
  have hA := argAt w (d.B i) (d.R i) 5 kw A B C name lv
  obtain ⟨W0, hW0⟩ : ∃ W0, W0 = (w.alloc (.cells #[.pointer (some ⟨d.B i, 0, none⟩), .pointer (some ⟨d.R i, 0, none⟩)] 94)).alloc (.cells #[.int .i64 5, .int .i64 kw, .string name, .int .i64 A, .int .i64 B, .int .i64 C, lv] 56) := ⟨_, rfl⟩
  rw [← hW0] at hA
  have hb0 : Below w.heap.size w W0 := by rw [hW0]; exact (((Grew.refl w).alloc _).alloc _).below
  have HA : Hid (type_of% hA) := hA
  have HW : Hid (type_of% hW0) := hW0
  have hl := trial_len (h.ok i hi) A B
  have C1 : Hid (type_of% (progTrial (d.B i) (d.st i) (d.Fp i) A B W0 ((h.mv hb0).pr i hi) (h.ok i hi))) := progTrial (d.B i) (d.st i) (d.Fp i) A B W0 ((h.mv hb0).pr i hi) (h.ok i hi)
  have C2 : Hid (∀ W, Below w.heap.size w W → Calls Tryz.prog 86 #[.pointer (some ⟨d.R i, 0, none⟩), .int .i64 A, .int .i64 B] W fun r w' => ∃ v, r = .returned (.tuple #[v, .int .i64 ((d.st i).trialE A B)]) ∧ w'.ownsRow W.heap.size 58 2 v ((d.st i).trial A B).length (cells2 ((d.st i).trial A B)) ∧ Below W.heap.size W w') := fun W hW => docTrial (d.R i) (d.st i) (d.Fd i) A B W ((HL.out.mv hW).dc i hi) (HL.out.ok i hi)
  clear h hA hW0
  generalize (d.st i).trial A B = lt at C1 C2 hl
  generalize (d.st i).trialE A B = be at C1 C2
  have C3 : Hid (∀ (W0' W : World) (v : Value), Below w.heap.size w W0' → Below W0'.heap.size W0' W → W.ownsRow W0'.heap.size 58 2 v lt.length (cells2 lt) → Calls Tryz.prog 88 #[.pointer (some ⟨L, 0, none⟩), v] W fun r w' => r = .returned (.tuple #[]) ∧ ∃ d', LawIs H w' L d' ∧ Ls.Grows d d' ∧ Turn (fun b => H ≤ b) W w') := by
    intro W0' W v hb hb' hv
    refine (lawOwnLines H L d v lt W0' W (HL.out.mv hb) hb' hv hl hnl).mono ?_
    rintro r w' ⟨rfl, u1, u2, u3, vl', v0', hq, hT⟩
    exact ⟨rfl, _, hq, ⟨⟨Nat.le_refl _, Nat.le_succ _⟩, Nat.le_refl _, Nat.le_add_right _ _, Nat.le_succ _⟩, hT⟩
  generalize d.B i = Bi at *
  generalize d.R i = Ri at *
  go_enter Tryz.func45, Tryz.ntmps45
  go_wp2_with (first
    | (go_at_call 85; rw [← HW.out]; refine Calls.mono C1.out ?_; rintro e w1 ⟨v, rfl, hv, hb1⟩; obtain ⟨p0, p1, o0, o1, o2, o3, o4, o5, o6⟩ := HA.out.mv hb1; have hb2 : Below w.heap.size w w1 := hb0.trans (hb1.mono hb0.size); have HV : Hid _ := hv; clear hv)
    | (go_at_call 86; refine Calls.mono (C2.out _ hb2) ?_; rintro e w2 ⟨u, rfl, hu, hb3⟩; have hb4 : Below w.heap.size w w2 := hb2.trans (hb3.mono hb2.size); have hb5 : Below W0.heap.size W0 w2 := hb1.trans (hb3.mono hb1.size); have HU : Hid _ := hu; clear hu)
    | (go_at_call 87; refine Calls.mono (same_lines _ _ _ _ lt _ (owns_below HV.out hb3) HU.out hl) ?_; rintro e w3 ⟨rfl, hb6⟩; have hb7 : Below w.heap.size w w3 := hb4.trans (hb6.mono hb4.size); have hb8 : Below W0.heap.size W0 w3 := hb5.trans (hb6.mono hb5.size))
    | (go_at_call 18; refine Calls.mono (looks_any H _ L d (HL.out.mv hb7) hnl hni hnt) ?_; rintro e w4 ⟨rfl, hb9⟩; have hb10 : Below w.heap.size w w4 := hb7.trans (hb9.mono hb7.size); have hb11 : Below W0.heap.size W0 w4 := hb8.trans (hb9.mono hb8.size))
    | (go_at_call 88; refine Calls.mono (C3.out W0 _ _ hb0 hb11 (owns_below (owns_below (owns_below HV.out hb3) hb6) hb9)) ?_; rintro e w5 ⟨rfl, d', hd', hgr, hT⟩)
    | (go_at_call 40; refine Calls.mono (num_any _ _) ?_; rintro e wx ⟨rfl, hw⟩; rw [hw]; clear hw wx))
  go_ret
  exact ⟨rfl, d', hd', hgr, (Turn.of_below hb10).trans hT⟩
set_option maxHeartbeats 1000000 in
set_option maxRecDepth 100000 in
theorem asks_items (H L i : Nat) (d : Ls) (kw A B C : Int) (name : ByteArray) (lv : Value) (w : World) (h : LawIs H w L d) (hi : i < d.nb) (hnl : d.nl ≤ 100000000) (hni : d.ni ≤ 100000000) (hnt : d.nt ≤ 100000000) :
    Calls Tryz.prog 45 #[.pointer (some ⟨L, 0, none⟩), .agg #[.pointer (some ⟨d.B i, 0, none⟩), .pointer (some ⟨d.R i, 0, none⟩)], .agg #[.int .i64 6, .int .i64 kw, .string name, .int .i64 A, .int .i64 B, .int .i64 C, lv]] w fun r w' => r = .returned (.bool true) ∧ ∃ d', LawIs H w' L d' ∧ Ls.Grows d d' ∧ Turn (fun b => H ≤ b) w w' := by
  have HL : Hid (LawIs H w L d) := h
  have hA := argAt w (d.B i) (d.R i) 6 kw A B C name lv
  obtain ⟨W0, hW0⟩ : ∃ W0, W0 = (w.alloc (.cells #[.pointer (some ⟨d.B i, 0, none⟩), .pointer (some ⟨d.R i, 0, none⟩)] 94)).alloc (.cells #[.int .i64 6, .int .i64 kw, .string name, .int .i64 A, .int .i64 B, .int .i64 C, lv] 56) := ⟨_, rfl⟩
  rw [← hW0] at hA
  have hb0 : Below w.heap.size w W0 := by rw [hW0]; exact (((Grew.refl w).alloc _).alloc _).below
  have HA : Hid (type_of% hA) := hA
  have HW : Hid (type_of% hW0) := hW0
  have hl := items_len (h.ok i hi) name A B C
  have C1 : Hid (type_of% (progItems (d.B i) (d.st i) (d.Fp i) name A B C W0 ((h.mv hb0).pr i hi) (h.ok i hi))) := progItems (d.B i) (d.st i) (d.Fp i) name A B C W0 ((h.mv hb0).pr i hi) (h.ok i hi)
  have C2 : Hid (∀ W, Below w.heap.size w W → Calls Tryz.prog 90 #[.pointer (some ⟨d.R i, 0, none⟩), .string name, .int .i64 A, .int .i64 B, .int .i64 C] W fun r w' => ∃ v, r = .returned (.tuple #[v, .int .i64 ((d.st i).itemsE name A B C)]) ∧ w'.ownsRow W.heap.size 106 3 v ((d.st i).items name A B C).length (cells3 ((d.st i).items name A B C)) ∧ Below W.heap.size W w') := fun W hW => docItems (d.R i) (d.st i) (d.Fd i) name A B C W ((HL.out.mv hW).dc i hi) (HL.out.ok i hi)
  clear h hA hW0
  generalize (d.st i).items name A B C = lt at C1 C2 hl
  generalize (d.st i).itemsE name A B C = be at C1 C2
  have C3 : Hid (∀ (W0' W : World) (v : Value), Below w.heap.size w W0' → Below W0'.heap.size W0' W → W.ownsRow W0'.heap.size 106 3 v lt.length (cells3 lt) → Calls Tryz.prog 92 #[.pointer (some ⟨L, 0, none⟩), v] W fun r w' => r = .returned (.tuple #[]) ∧ ∃ d', LawIs H w' L d' ∧ Ls.Grows d d' ∧ Turn (fun b => H ≤ b) W w') := by
    intro W0' W v hb hb' hv
    refine (lawOwnItems H L d v lt W0' W (HL.out.mv hb) hb' hv hl hni).mono ?_
    rintro r w' ⟨rfl, u1, u2, u3, vl', v0', hq, hT⟩
    exact ⟨rfl, _, hq, ⟨⟨Nat.le_refl _, Nat.le_succ _⟩, Nat.le_add_right _ _, Nat.le_refl _, Nat.le_succ _⟩, hT⟩
  generalize d.B i = Bi at *
  generalize d.R i = Ri at *
  go_enter Tryz.func45, Tryz.ntmps45
  go_wp2_with (first
    | (go_at_call 89; rw [← HW.out]; refine Calls.mono C1.out ?_; rintro e w1 ⟨v, rfl, hv, hb1⟩; obtain ⟨p0, p1, o0, o1, o2, o3, o4, o5, o6⟩ := HA.out.mv hb1; have hb2 : Below w.heap.size w w1 := hb0.trans (hb1.mono hb0.size); have HV : Hid _ := hv; clear hv)
    | (go_at_call 90; refine Calls.mono (C2.out _ hb2) ?_; rintro e w2 ⟨u, rfl, hu, hb3⟩; have hb4 : Below w.heap.size w w2 := hb2.trans (hb3.mono hb2.size); have hb5 : Below W0.heap.size W0 w2 := hb1.trans (hb3.mono hb1.size); have HU : Hid _ := hu; clear hu)
    | (go_at_call 91; refine Calls.mono (same_items _ _ _ _ lt _ (owns_below HV.out hb3) HU.out hl) ?_; rintro e w3 ⟨rfl, hb6⟩; have hb7 : Below w.heap.size w w3 := hb4.trans (hb6.mono hb4.size); have hb8 : Below W0.heap.size W0 w3 := hb5.trans (hb6.mono hb5.size))
    | (go_at_call 18; refine Calls.mono (looks_any H _ L d (HL.out.mv hb7) hnl hni hnt) ?_; rintro e w4 ⟨rfl, hb9⟩; have hb10 : Below w.heap.size w w4 := hb7.trans (hb9.mono hb7.size); have hb11 : Below W0.heap.size W0 w4 := hb8.trans (hb9.mono hb8.size))
    | (go_at_call 92; refine Calls.mono (C3.out W0 _ _ hb0 hb11 (owns_below (owns_below (owns_below HV.out hb3) hb6) hb9)) ?_; rintro e w5 ⟨rfl, d', hd', hgr, hT⟩)
    | (go_at_call 40; refine Calls.mono (num_any _ _) ?_; rintro e wx ⟨rfl, hw⟩; rw [hw]; clear hw wx))
  go_ret
  exact ⟨rfl, d', hd', hgr, (Turn.of_below hb10).trans hT⟩
end Go.Proofs.YtjnmoddcodnadaaGreatDoor
namespace Go.Proofs.YtjnmoddcodnadaaGreatDoor
open Go.RowKit Go.Annal Go.Sort
/-- Book i is another one now, and what was lent. -/
def Ls.turned (d : Ls) (i : Nat) (s : St) (Fp Fd : Nat → Prop) (nt : Nat) (tv : Nat → Value) (vt : Value) : Ls := { d with st := upd d.st i s, Fp := upd d.Fp i Fp, Fd := upd d.Fd i Fd, nt := nt, tv := tv, vt := vt }
/-- The blocks that a step on book i turns. -/
def stepS (d : Ls) (i L : Nat) (b : Nat) : Prop := d.Fp i b ∨ d.Fd i b ∨ d.vt.ownBlock = some b ∨ b = L
theorem prog_not {w : World} {B : Nat} {s : St} {Fp : Nat → Prop} (hp : ProgIs w B s Fp) {k : Nat} {cs : Array Value} {t : TypeId} {fz : Nat × Nat} (hc : w.heap[k]? = some (.cells cs t fz)) (ht : ¬ progK t) : ¬ Fp k := fun hk => by
  obtain ⟨c', t', _, hc', ht'⟩ := hp.kind hk
  rw [hc] at hc'
  injection hc' with hc'
  injection hc' with _ hc'
  exact ht (hc' ▸ ht')
theorem doc_not {w : World} {R : Nat} {s : St} {Fd : Nat → Prop} (hp : DocIs w R s Fd) {k : Nat} {cs : Array Value} {t : TypeId} {fz : Nat × Nat} (hc : w.heap[k]? = some (.cells cs t fz)) (ht : ¬ docK t) : ¬ Fd k := fun hk => by
  obtain ⟨c', t', hc', ht'⟩ := hp.kind hk
  rw [hc] at hc'
  injection hc' with hc'
  injection hc' with _ hc'
  exact ht (hc' ▸ ht')
section
variable {H : Nat} {w w' : World} {L : Nat} {d : Ls} {i : Nat}
theorem LawIs.sNot (_h : LawIs H w L d) {k : Nat} (h1 : ¬ d.Fp i k) (h2 : ¬ d.Fd i k) (h3 : d.vt.ownBlock ≠ some k) (h4 : k ≠ L) : ¬ stepS d i L k := by
  rintro (e | e | e | e)
  · exact h1 e
  · exact h2 e
  · exact h3 e
  · exact h4 e
theorem LawIs.rowNot (h : LawIs H w L d) (hi : i < d.nb) {B : Nat} {e : TypeId} {sz n : Nat} {v : Value} {xs : List Value} (hv : w.ownsRow B e sz v n xs) (h1 : ¬ progK e) (h2 : ¬ docK e) (h3 : ∀ g, v.ownBlock = some g → d.vt.ownBlock ≠ some g) (h4 : e ≠ 52) : ∀ g, v.ownBlock = some g → ¬ stepS d i L g := fun g hg => by
  obtain ⟨c, fz, hc⟩ := owns_kind hv g hg
  refine h.sNot (prog_not (h.pr i hi) hc h1) (doc_not (h.dc i hi) hc h2) (h3 g hg) (fun e => ?_)
  rw [e, h.bk] at hc
  injection hc with hc
  injection hc with _ hc
  exact h4 hc.symm
theorem LawIs.vtNot (h : LawIs H w L d) {B : Nat} {e : TypeId} {sz n : Nat} {v : Value} {xs : List Value} (hv : w.ownsRow B e sz v n xs) (he : e ≠ 54) : ∀ g, v.ownBlock = some g → d.vt.ownBlock ≠ some g := fun g hg hg' => by
  obtain ⟨c, fz, hc⟩ := owns_kind hv g hg
  obtain ⟨c', fz', hc'⟩ := owns_kind h.rt g hg'
  rw [hc] at hc'
  injection hc' with hc'
  injection hc' with _ hc'
  exact he hc'
theorem LawIs.lineNot (h : LawIs H w L d) (hi : i < d.nb) {g : Nat} {cs : Array Value} {fz : Nat × Nat} (hc : w.heap[g]? = some (.cells cs 58 fz)) (ha : d.apart g) : ¬ stepS d i L g := by
  refine h.sNot (fun e => ha i hi (.inr e)) (fun e => ha i hi (.inl e)) (fun e => ?_) (fun e => ?_)
  · obtain ⟨c', fz', hc'⟩ := owns_kind h.rt g e
    rw [hc] at hc'; simp at hc'
  · rw [e, h.bk] at hc; simp at hc
theorem LawIs.itemNot (h : LawIs H w L d) (hi : i < d.nb) {g : Nat} {cs : Array Value} {fz : Nat × Nat} (hc : w.heap[g]? = some (.cells cs 106 fz)) : ¬ stepS d i L g := by
  refine h.sNot (prog_not (h.pr i hi) hc (by decide)) (doc_not (h.dc i hi) hc (by decide)) (fun e => ?_) (fun e => ?_)
  · obtain ⟨c', fz', hc'⟩ := owns_kind h.rt g e
    rw [hc] at hc'; simp at hc'
  · rw [e, h.bk] at hc; simp at hc
/-- A list that reads alike reads on, behind a step on book i. -/
theorem LawIs.apartOn (_h : LawIs H w L d) {Fd' : Nat → Prop} {s : St} {Fp' : Nat → Prop} {nt : Nat} {tv : Nat → Value} {vt : Value} (hFp : ∀ k, Fp' k → d.Fp i k ∨ w.heap.size ≤ k) (hFd : ∀ k, Fd' k → d.Fd i k ∨ w.heap.size ≤ k) (hi : i < d.nb) : ∀ g, g < w.heap.size → d.apart g → (d.turned i s Fp' Fd' nt tv vt).apart g := fun g hg ha j hj hk => by
  have hj' : j < d.nb := hj
  by_cases e : j = i
  · subst e
    simp only [Ls.turned, upd_same] at hk
    rcases hk with hk | hk
    · rcases hFd g hk with h1 | h1
      · exact ha j hj' (.inl h1)
      · omega
    · rcases hFp g hk with h1 | h1
      · exact ha j hj' (.inr h1)
      · omega
  · simp only [Ls.turned, upd_ne _ _ e] at hk
    exact ha j hj' hk
theorem LawIs.pairStep (h : LawIs H w L d) (hi : i < d.nb) {s' : St} {Fp' Fd' : Nat → Prop} {nt' : Nat} {tv' : Nat → Value} {vt' : Value} (T : Turn (stepS d i L) w w')
    (hL' : w'.heap[L]? = some (.cells #[d.vb, d.vl, d.vi, vt', d.v0, d.v1] 52 (0, 0))) (hrt : w'.ownsRow H 54 1 vt' nt' ((List.range nt').map tv')) (hvt : ∀ b, vt'.ownBlock = some b → d.vt.ownBlock = some b ∨ w.heap.size ≤ b)
    (hP : ProgIs w' (d.B i) s' Fp') (hD : DocIs w' (d.R i) s' Fd') (ho : s'.Ok) (hFp : ∀ k, Fp' k → d.Fp i k ∨ w.heap.size ≤ k) (hFd : ∀ k, Fd' k → d.Fd i k ∨ w.heap.size ≤ k)
    (hPD : ∀ k, Fp' k → ¬ Fd' k)
    (hct : ∀ k, k < nt' → Full w' 58 2 [.string overB, .int .i64 (-99)] (d.turned i s' Fp' Fd' nt' tv' vt').apart (tv' k)) : LawIs H w' L (d.turned i s' Fp' Fd' nt' tv' vt') := by
  have hLt := blk_lt h.bk
  have hlo := h.lo
  have hdo : ∀ j k, j < d.nb → d.Fd j k → ¬ d.Fp i k := fun j k hj hk => by
    exact fun hp => h.pd i j k hi hj hp hk
  have hpo : ∀ j k, j < d.nb → d.Fp j k → ¬ d.Fd i k := fun j k hj hk => by
    exact h.pd j i k hj hi hk
  have hLn : ∀ k, (∃ j, j < d.nb ∧ (d.Fp j k ∨ d.Fd j k)) → d.vt.ownBlock ≠ some k ∧ k ≠ L := by
    rintro k ⟨j, hj, hk⟩
    have hk' : ∃ c t fz, w.heap[k]? = some (.cells c t fz) ∧ t ≠ 54 ∧ t ≠ 52 := by
      rcases hk with hk | hk
      · obtain ⟨c, t, fz, hc, ht⟩ := (h.pr j hj).kind hk
        exact ⟨c, t, fz, hc, by rcases ht with rfl | rfl | rfl | rfl | rfl | rfl | rfl | rfl <;> decide⟩
      · obtain ⟨c, t, hc, ht⟩ := (h.dc j hj).kind hk
        exact ⟨c, t, _, hc, by rcases ht with rfl | rfl | rfl | rfl <;> decide⟩
    obtain ⟨c, t, fz, hc, h1, h2⟩ := hk'
    refine ⟨fun e => ?_, fun e => ?_⟩
    · obtain ⟨c', fz', hc'⟩ := owns_kind h.rt k e
      rw [hc] at hc'
      injection hc' with hc'
      injection hc' with _ hc'
      exact h1 hc'
    · rw [e, h.bk] at hc
      injection hc with hc
      injection hc with _ hc
      exact h2 hc.symm
  refine ⟨h.lo, hL', owns_turn h.rb T (h.rowNot hi h.rb (by decide) (by decide) (h.vtNot h.rb (by decide)) (by decide)), owns_turn h.rl T (h.rowNot hi h.rl (by decide) (by decide) (fun g e => h.a1 g e) (by decide)), owns_turn h.ri T (h.rowNot hi h.ri (by decide) (by decide) (h.vtNot h.ri (by decide)) (by decide)), hrt, owns_turn h.r0 T (h.rowNot hi h.r0 (by decide) (by decide) (h.vtNot h.r0 (by decide)) (by decide)), owns_turn h.r1 T (h.rowNot hi h.r1 (by decide) (by decide) (h.vtNot h.r1 (by decide)) (by decide)), ?_, h.a2, ?_, ?_, ?_, ?_, ?_, ?_, ?_, ?_, ?_, ?_, hct⟩
  · intro k hk hk'
    rcases hvt k hk' with e | e
    · exact h.a1 k hk e
    · have := (h.rl.lt k hk).2; omega
  · intro j hj
    have hj' : j < d.nb := hj
    by_cases e : j = i
    · subst e; simp only [Ls.turned, upd_same]; exact hP
    · simp only [Ls.turned, upd_ne _ _ e]
      refine (h.pr j hj').turn T (fun k hk hs => ?_)
      rcases hs with hs | hs | hs | hs
      · exact h.pp j i k hj' hi e hk hs
      · exact hpo j k hj' hk hs
      · exact (hLn k ⟨j, hj', .inl hk⟩).1 hs
      · exact (hLn k ⟨j, hj', .inl hk⟩).2 hs
  · intro j hj
    have hj' : j < d.nb := hj
    by_cases e : j = i
    · subst e; simp only [Ls.turned, upd_same]; exact hD
    · simp only [Ls.turned, upd_ne _ _ e]
      refine (h.dc j hj').turn T (fun k hk hs => ?_)
      rcases hs with hs | hs | hs | hs
      · exact hdo j k hj' hk hs
      · exact h.dd j i k hj' hi e hk hs
      · exact (hLn k ⟨j, hj', .inr hk⟩).1 hs
      · exact (hLn k ⟨j, hj', .inr hk⟩).2 hs
  · intro j hj
    have hj' : j < d.nb := hj
    by_cases e : j = i
    · subst e; simp only [Ls.turned, upd_same]; exact ho
    · simp only [Ls.turned, upd_ne _ _ e]; exact h.ok j hj'
  · intro a b k ha hb hab hk hk'
    have ha' : a < d.nb := ha
    have hb' : b < d.nb := hb
    simp only [Ls.turned] at hk hk'
    by_cases e : a = i
    · subst e
      rw [upd_same] at hk
      rw [upd_ne _ _ (fun e => hab e.symm)] at hk'
      rcases hFp k hk with h1 | h1
      · exact h.pp a b k ha' hb' hab h1 hk'
      · have := h.plt hb' hk'; omega
    · rw [upd_ne _ _ e] at hk
      by_cases e' : b = i
      · subst e'
        rw [upd_same] at hk'
        rcases hFp k hk' with h1 | h1
        · exact h.pp a b k ha' hb' hab hk h1
        · have := h.plt ha' hk; omega
      · rw [upd_ne _ _ e'] at hk'
        exact h.pp a b k ha' hb' hab hk hk'
  · intro a b k ha hb hab hk hk'
    have ha' : a < d.nb := ha
    have hb' : b < d.nb := hb
    simp only [Ls.turned] at hk hk'
    by_cases e : a = i
    · subst e
      rw [upd_same] at hk
      rw [upd_ne _ _ (fun e => hab e.symm)] at hk'
      rcases hFd k hk with h1 | h1
      · exact h.dd a b k ha' hb' hab h1 hk'
      · have := h.dlt hb' hk'; omega
    · rw [upd_ne _ _ e] at hk
      by_cases e' : b = i
      · subst e'
        rw [upd_same] at hk'
        rcases hFd k hk' with h1 | h1
        · exact h.dd a b k ha' hb' hab hk h1
        · have := h.dlt ha' hk; omega
      · rw [upd_ne _ _ e'] at hk'
        exact h.dd a b k ha' hb' hab hk hk'
  · intro a b k ha hb hk hk'
    have ha' : a < d.nb := ha
    have hb' : b < d.nb := hb
    simp only [Ls.turned] at hk hk'
    by_cases e : a = i
    · subst e
      rw [upd_same] at hk
      by_cases e' : b = a
      · subst e'
        rw [upd_same] at hk'
        exact hPD k hk hk'
      · rw [upd_ne _ _ e'] at hk'
        rcases hFp k hk with h1 | h1
        · exact h.pd a b k ha' hb' h1 hk'
        · have := h.dlt hb' hk'; omega
    · rw [upd_ne _ _ e] at hk
      by_cases e' : b = i
      · subst e'
        rw [upd_same] at hk'
        rcases hFd k hk' with h1 | h1
        · exact h.pd a b k ha' hb' hk h1
        · have := h.plt ha' hk; omega
      · rw [upd_ne _ _ e'] at hk'
        exact h.pd a b k ha' hb' hk hk'
  · intro j k hj hk
    have hj' : j < d.nb := hj
    simp only [Ls.turned] at hk
    by_cases e : j = i
    · subst e
      rw [upd_same] at hk
      rcases hFp k hk with h1 | h1
      · exact h.pH j k hj' h1
      · omega
    · rw [upd_ne _ _ e] at hk; exact h.pH j k hj' hk
  · intro j k hj hk
    have hj' : j < d.nb := hj
    simp only [Ls.turned] at hk
    by_cases e : j = i
    · subst e
      rw [upd_same] at hk
      rcases hFd k hk with h1 | h1
      · exact h.dH j k hj' h1
      · omega
    · rw [upd_ne _ _ e] at hk; exact h.dH j k hj' hk
  · intro k hk
    exact (h.cl k hk).turn T (fun _ _ _ hc ha => h.lineNot hi hc ha) (h.apartOn hFp hFd hi)
  · intro k hk
    exact (h.ci k hk).turn T (fun g cs fz hc _ => h.itemNot hi hc) (h.apartOn hFp hFd hi)
/-- What was lent before reads on. -/
theorem LawIs.lentOn (h : LawIs H w L d) (hi : i < d.nb) {s' : St} {Fp' Fd' : Nat → Prop} {nt' : Nat} {tv' : Nat → Value} {vt' : Value} (T : Turn (stepS d i L) w w') (hFp : ∀ k, Fp' k → d.Fp i k ∨ w.heap.size ≤ k) (hFd : ∀ k, Fd' k → d.Fd i k ∨ w.heap.size ≤ k) : ∀ k, k < d.nt → Full w' 58 2 [.string overB, .int .i64 (-99)] (d.turned i s' Fp' Fd' nt' tv' vt').apart (d.tv k) := fun k hk =>
  (h.ct k hk).turn T (fun _ _ _ hc ha => h.lineNot hi hc ha) (h.apartOn hFp hFd hi)
theorem LawIs.stepH (h : LawIs H w L d) (hi : i < d.nb) : ∀ k, stepS d i L k → H ≤ k := by
  rintro k (e | e | e | e)
  · exact h.pH i k hi e
  · exact h.dH i k hi e
  · exact (h.rt.lt k e).1
  · rw [e]; exact h.lo
end
end Go.Proofs.YtjnmoddcodnadaaGreatDoor
