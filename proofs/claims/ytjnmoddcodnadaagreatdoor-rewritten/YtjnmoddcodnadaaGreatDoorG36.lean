import Derived.Test.YtjnmoddcodnadaaGreatDoorG35
import Derived.Test.YtjnmoddcodnadaaGreatDoorG10
set_option linter.unusedVariables false
set_option linter.unusedSimpArgs false
namespace Go.Proofs.YtjnmoddcodnadaaGreatDoor
open Go.RowKit Go.Annal Go.Sort
theorem linesK_lines {w : World} {g n c : Nat} {ya : Nat → ByteArray} {ym : Nat → Int} {base : Nat} (h : w.ownsRow base 58 2 (.slice (some ⟨g, 0, none⟩) n c) n (lineCells ya ym n)) (hn : 0 < n) : LinesAt w g 0 n ya ym ∧ ∃ cs, w.heap[g]? = some (.cells cs 58 (0, 0)) := by
  obtain ⟨g', c', e, _, _, hL, hc⟩ := owns_lines h hn
  injection e with e1 _ _
  injection e1 with e1
  injection e1 with e1
  subst e1
  exact ⟨hL, hc⟩
section
variable {w : World} {B : Nat} {s : St} {k : Bk} {kd : Nat → Int} {mm : Nat → Nat} {ff : Nat → Nat → It} {F : Nat → Prop} {gl cl : Nat → Nat} {xa : Nat → Nat → ByteArray} {xm : Nat → Nat → Int} {kk : Nat → EvK}
/-- Of a line's block: it is no block of the book's own, and no account's. -/
theorem ProgAt.line (h : ProgAt w B s k kd mm ff F gl cl xa xm kk) {b : Nat} {cs : Array Value} {fz : Nat × Nat} (hb : w.heap[b]? = some (.cells cs 58 fz)) : ¬ (k.own B b ∨ F b) := by
  rintro (hk | hk)
  · obtain ⟨cs', t, fz', hc, ht⟩ := h.bk.kind hk
    rw [hb] at hc; simp at hc
    rcases ht with e | e | e | e <;> (rw [e] at hc; exact absurd hc.2.1 (by decide))
  · exact h.ac.not hb (by decide) (by decide) (by decide) hk
/-- An entry more. -/
theorem prog_enter (h : ProgAt w B s k kd mm ff F gl cl xa xm kk) {W w' : World} (hW : Below w.heap.size w W) {day : Int} {g n c : Nat} {e : EvK} {ya za : Nat → ByteArray} {ym zm : Nat → Int} {gn' : Nat → Bool} {tx' : ByteArray} (hn : 0 < n)
    (hown : W.ownsRow w.heap.size 58 2 (.slice (some ⟨g, 0, none⟩) n c) n (lineCells ya ym n)) (hp : (linesL ya ym n).Perm (linesL za zm n)) (ho : s.Ok) (hzd : ∀ a b, a < b → b < n → (za a).toList ≠ (za b).toList) (hin : ∀ l, l < n → isAt k.nm k.na (ya l) = true)
    (hE : EnteredIs W w' B k (evV day g n c e) day n ya ym kd mm ff F) (hgn : ∀ i, i < s.ne + 1 → gn' i = (((upd kk s.ne e) i).un != 0 || anyN (s.ne + 1) (fun j => ((upd kk s.ne e) j).un == (i : Int) + 1))) (hun : 0 ≤ e.un ∧ e.un ≤ (s.ne : Int)) (htx : tx' = s.tx ++ evT day ya ym n e ++ ⟨#[10]⟩) (hsz : (evT day ya ym n e).size ≤ 7000000000) :
    ∃ Fp', ProgIs w' B { s with ne := s.ne + 1, dy := upd s.dy s.ne day, gn := gn', ln := upd s.ln s.ne n, la := upd s.la s.ne za, lm := upd s.lm s.ne zm, tx := tx' } Fp' ∧ Turn (progFoot B k F s.ne gl) w w' ∧ ∀ b, Fp' b → progFoot B k F s.ne gl b ∨ w.heap.size ≤ b := by
  have hWs := hW.size
  have hAt := h.mv hW
  obtain ⟨g2, cap2, g4, cap4, F', hB', hA', hT, hF', hg2, hg4⟩ := hE
  have hlg := ((hown.lt g rfl))
  obtain ⟨hLn, csn, hcn⟩ := linesK_lines hown hn
  have hTw : Turn (progFoot B k F s.ne gl) w w' := by
    have t1 : Turn (progFoot B k F s.ne gl) w W := Turn.of_below hW
    exact t1.trans (hT.mono (fun b _ hb => hb.elim .inl (fun h => .inr (.inl h))))
  have hlo : ∀ i, i < s.ne → w'.ownsRow 0 58 2 (.slice (some ⟨gl i, 0, none⟩) (s.ln i) (cl i)) (s.ln i) (lineCells (xa i) (xm i) (s.ln i)) := fun i hi => by
    refine owns_turn (hAt.lo i hi) hT (fun b hb => ?_)
    obtain ⟨cs, fz, hc⟩ := owns_kind (hAt.lo i hi) b hb
    exact hAt.line hc
  have hnew := owns0 (owns_turn hown hT (fun b hb => by
    have : g = b := Option.some.inj hb
    subst this
    exact hAt.line hcn))
  refine ⟨progFoot B ((k.did g2 cap2 (evV day g n c e)).wrote g4 cap4 (evV day g n c e)) F' (s.ne + 1) (upd gl s.ne g), ⟨_, kd, _, _, F', upd gl s.ne g, upd cl s.ne c, upd xa s.ne ya, upd xm s.ne ym, upd kk s.ne e, ⟨hB', hA', h.na, ?_, h.ul, ?_, h.ns, h.kb, h.ks, ?_, ?_, ?_, ?_, ?_, ?_, ?_⟩, fun b => Iff.rfl⟩, hTw, ?_⟩
  · show k.ne + 1 = s.ne + 1
    rw [h.ne]
  · have := h.nd
    show ((k.nd + 1 : Nat) : Int) ≤ (s.na : Int) + (s.ne + 1 : Nat) + s.lk + 1
    omega
  · intro i hi
    have h1 := its_enter (ne := s.ne) (n := n) h.ns.rise s.dy (upd s.dy s.ne day) s.la (upd s.la s.ne ya) s.lm (upd s.lm s.ne ym) s.ln (upd s.ln s.ne n) ya ym day mm ff (fun q hq => by
      simp only [upd_ne _ _ (show q ≠ s.ne by omega)]
      exact ⟨trivial, trivial, fun _ _ => ⟨trivial, trivial⟩⟩) (upd_same _ _ _) (upd_same _ _ _) (fun j hj => by simp only [upd_same]; exact ⟨trivial, trivial⟩) (fun l hl => by rw [← h.na]; exact hin l hl) h.it i hi
    rw [← h.na, ← h.ne] at h1
    refine h1.trans ?_
    rw [h.ne]
    refine its_perm _ _ _ _ _ _ _ (s.ne + 1) (fun q hq => ?_) (fun q hq a b hab hb => ?_)
    · by_cases e' : q = s.ne
      · subst e'; simp only [upd_same]; exact hp
      · simp only [upd_ne _ _ e']; exact List.Perm.refl _
    · by_cases e' : q = s.ne
      · subst e'; simp only [upd_same] at *; exact hzd a b hab hb
      · simp only [upd_ne _ _ e'] at *; exact ho.tw q (by omega) a b hab hb
  · intro i hi
    show (if i = k.ne then _ else k.ev i) = evV (upd s.dy s.ne day i) (upd gl s.ne g i) (upd s.ln s.ne n i) (upd cl s.ne c i) (upd kk s.ne e i)
    have hi' : i < s.ne + 1 := hi
    rw [h.ne]
    by_cases e' : i = s.ne
    · subst e'; simp only [upd_same, if_true]
    · simp only [upd_ne _ _ e', if_neg e']; exact h.ev i (by omega)
  · intro i hi
    have hi' : i < s.ne + 1 := hi
    by_cases e' : i = s.ne
    · subst e'; simp only [upd_same]; exact hnew
    · simp only [upd_ne _ _ e']; exact hlo i (by omega)
  · intro i hi
    have hi' : i < s.ne + 1 := hi
    by_cases e' : i = s.ne
    · subst e'; simp only [upd_same]; exact hp
    · simp only [upd_ne _ _ e']; exact h.pl i (by omega)
  · intro i hi
    exact hgn i hi
  · intro i hi
    have hi' : i < s.ne + 1 := hi
    by_cases e' : i = s.ne
    · subst e'; simp only [upd_same]; exact hun
    · simp only [upd_ne _ _ e']; exact h.un i (by omega)
  · refine h.tx.entered (s' := { s with ne := s.ne + 1, dy := upd s.dy s.ne day, gn := gn', ln := upd s.ln s.ne n, la := upd s.la s.ne za, lm := upd s.lm s.ne zm, tx := tx' }) rfl rfl rfl htx ?_ h.tx.ns
    have h9 := h.tx.sz
    show (tx'.size : Int) ≤ 8000000000 * ((s.ne + 1 : Nat) : Int) + 1100000000 * s.na + 1000 * (s.lk + 1)
    rw [htx]
    simp only [ByteArray.size_append, sz_arr, List.size_toArray, List.length_cons, List.length_nil]
    omega
  · intro b hb
    rcases hb with hb | hb | ⟨i, hi, rfl⟩
    · rcases hb with rfl | hb | hb | hb
      · exact .inl (.inl (.inl rfl))
      · exact .inl (.inl (.inr (.inl hb)))
      · have : g2 = b := Option.some.inj hb
        subst this
        rcases hg2 with h2 | h2
        · exact .inl (.inl (.inr (.inr (.inl h2))))
        · exact .inr (by omega)
      · have : g4 = b := Option.some.inj hb
        subst this
        rcases hg4 with h2 | h2
        · exact .inl (.inl (.inr (.inr (.inr h2))))
        · exact .inr (by omega)
    · rcases hF' b hb with h2 | h2
      · exact .inl (.inr (.inl h2))
      · exact .inr (by omega)
    · by_cases e' : i = s.ne
      · subst e'; rw [upd_same]; exact .inr hlg.1
      · rw [upd_ne _ _ e']; exact .inl (.inr (.inr ⟨i, by omega, rfl⟩))
/-- Marks behind an entry that undoes none. -/
theorem gn_plain (h : ProgAt w B s k kd mm ff F gl cl xa xm kk) {e : EvK} (he : e.un = 0) : ∀ i, i < s.ne + 1 → upd s.gn s.ne false i = (((upd kk s.ne e) i).un != 0 || anyN (s.ne + 1) (fun j => ((upd kk s.ne e) j).un == (i : Int) + 1)) := by
  intro i hi
  by_cases e' : i = s.ne
  · subst e'
    simp only [upd_same]
    rw [he]
    symm
    rw [anyN_false (fun j hj => ?_)]
    · rfl
    · by_cases e'' : j = s.ne
      · subst e''; simp only [upd_same]; rw [he]; exact beq_eq_false_iff_ne.2 (by omega)
      · simp only [upd_ne _ _ e'']
        have := h.un j (by omega)
        exact beq_eq_false_iff_ne.2 (by omega)
  · simp only [upd_ne _ _ e']
    rw [h.gn i (by omega)]
    congr 1
    rw [Bool.eq_iff_iff]
    constructor
    · intro hh
      obtain ⟨j, hj, hq⟩ := List.any_eq_true.1 hh
      have hj' : j < s.ne := by simpa using hj
      exact anyN_true (k := j) (by omega) (by simp only [upd_ne _ _ (show j ≠ s.ne by omega)]; exact hq)
    · intro hh
      obtain ⟨j, hj, hq⟩ := List.any_eq_true.1 hh
      have hj' : j < s.ne + 1 := by simpa using hj
      by_cases e'' : j = s.ne
      · subst e''
        simp only [upd_same] at hq
        rw [he] at hq
        have : (0 : Int) = (i : Int) + 1 := by simpa using hq
        omega
      · simp only [upd_ne _ _ e''] at hq
        exact anyN_true (k := j) (by omega) hq
/-- Marks behind a reversal. -/
theorem gn_rev (h : ProgAt w B s k kd mm ff F gl cl xa xm kk) {q : Nat} (hq : q < s.ne) : ∀ i, i < s.ne + 1 → upd (upd s.gn q true) s.ne true i = (((upd kk s.ne (.rev ((q : Int) + 1))) i).un != 0 || anyN (s.ne + 1) (fun j => ((upd kk s.ne (.rev ((q : Int) + 1))) j).un == (i : Int) + 1)) := by
  intro i hi
  by_cases e' : i = s.ne
  · subst e'
    simp only [upd_same]
    have : ((EvK.rev ((q : Int) + 1)).un != 0) = true := by
      show (((q : Int) + 1) != 0) = true
      simp; omega
    rw [this]; rfl
  · rw [upd_ne _ _ e']
    have e1 : (upd kk s.ne (.rev ((q : Int) + 1))) i = kk i := upd_ne _ _ e'
    rw [e1]
    by_cases eq : i = q
    · subst eq
      rw [upd_same]
      have : anyN (s.ne + 1) (fun j => ((upd kk s.ne (.rev ((i : Int) + 1))) j).un == (i : Int) + 1) = true := anyN_true (k := s.ne) (by omega) (by simp only [upd_same]; show (((i : Int) + 1) == (i : Int) + 1) = true; simp)
      rw [this]; simp
    · rw [upd_ne _ _ eq, h.gn i (by omega)]
      congr 1
      rw [Bool.eq_iff_iff]
      constructor
      · intro hh
        obtain ⟨j, hj, hq'⟩ := List.any_eq_true.1 hh
        have hj' : j < s.ne := by simpa using hj
        exact anyN_true (k := j) (by omega) (by simp only [upd_ne _ _ (show j ≠ s.ne by omega)]; exact hq')
      · intro hh
        obtain ⟨j, hj, hq'⟩ := List.any_eq_true.1 hh
        have hj' : j < s.ne + 1 := by simpa using hj
        by_cases e'' : j = s.ne
        · subst e''
          simp only [upd_same] at hq'
          have : (q : Int) + 1 = (i : Int) + 1 := by simpa [EvK.un] using hq'
          omega
        · simp only [upd_ne _ _ e''] at hq'
          exact anyN_true (k := j) (by omega) hq'
end
end Go.Proofs.YtjnmoddcodnadaaGreatDoor
namespace Go.Proofs.YtjnmoddcodnadaaGreatDoor
open Go.RowKit Go.Annal Go.Sort
theorem atI_open {fn : Nat → ByteArray} {na : Nat} {x name : ByteArray} (h : 0 ≤ atI fn na x) : atI (upd fn na name) (na + 1) x = atI fn na x := by
  obtain ⟨i, hi, he⟩ := (atI_iff fn na x).1 h
  -- the first place
  have key : ∀ n, (∃ i, i < n ∧ fn i = x) → ∃ k, k < n ∧ fn k = x ∧ ∀ j, j < k → fn j ≠ x := by
    intro n
    induction n with
    | zero => rintro ⟨i, hi, _⟩; omega
    | succ n ih =>
      rintro ⟨i, hi, he⟩
      by_cases hx : ∃ i, i < n ∧ fn i = x
      · obtain ⟨k, hk, r⟩ := ih hx
        exact ⟨k, by omega, r⟩
      · have : i = n := Classical.byContradiction fun e => hx ⟨i, by omega, he⟩
        subst this
        exact ⟨i, by omega, he, fun j hj e => hx ⟨j, hj, e⟩⟩
  obtain ⟨q, hq, h1, h2⟩ := key na ⟨i, hi, he⟩
  rw [atI_found fn na x q hq h1 h2, atI_found (upd fn na name) (na + 1) x q (by omega) (by rw [upd_ne _ _ (by omega)]; exact h1) (fun j hj => by rw [upd_ne _ _ (by omega)]; exact h2 j hj)]
theorem atI_last {fn : Nat → ByteArray} {na : Nat} {name : ByteArray} (h : ¬ 0 ≤ atI fn na name) : atI (upd fn na name) (na + 1) name = na :=
  atI_found _ _ _ na (by omega) (upd_same _ _ _) (fun j hj e => by
    rw [upd_ne _ _ (by omega)] at e
    exact h ((atI_iff fn na name).2 ⟨j, hj, e⟩))
/-- Open. -/
theorem progOpen (B : Nat) (s : St) (Fp : Nat → Prop) (name : ByteArray) (kind : Int) (w : World) (h : ProgIs w B s Fp) (ho : s.Ok) (hs : name.size ≤ 1000000000) :
    Calls Tryz.prog 38 #[.pointer (some ⟨B, 0, none⟩), .string name, .int .i64 kind] w fun r w' => r = .returned (.int .i64 (s.openE name kind)) ∧ ∃ Fp', ProgIs w' B (s.afterOpen name kind) Fp' ∧ Turn Fp w w' ∧ ∀ b, Fp' b → Fp b ∨ w.heap.size ≤ b := by
  obtain ⟨k, kd, mm, ff, F, gl, cl, xa, xm, kk, h1, h2⟩ := id h
  have hna := ho.na
  have hth := congrFun h1.there name
  have hkna := h1.na
  by_cases he : s.openE name kind = 0
  · have hz := openE_zero he
    have h3 : isAt k.nm k.na name = false := hth.trans hz.2.2.1
    have h4 : s.na < 10 := by have := hz.2.2.2; simp at this; omega
    have hN : NamesIs (sh (lessN k.nm s.na name) name k.nm) (s.opened name kind).fn (s.na + 1) := h1.ns.open name (by rw [← hkna]; exact h3) (fun i hi => by show upd s.fn s.na name i = _; rw [upd_ne _ _ (by omega)]) (by show upd s.fn s.na name s.na = _; rw [upd_same])
    refine (OpenA_ok B k kd mm ff F name kind w h1.bk h1.ac (by rw [hkna]; exact hN.rise) (by omega) (h1.ndb ho) hs hz.1 (kindB_yes hz.2.1) h3).mono ?_
    rintro r w' ⟨rfl, hq⟩
    obtain ⟨A, g, cap, g2, cap2, F', hA, hB', hA', hT, hF', hg, hg2⟩ := hq.out
    have hnt : ¬ 0 ≤ atI s.fn s.na name := by
      have := hz.2.2.1
      unfold St.there at this
      exact of_decide_eq_false this
    have hTw : Turn Fp w w' := hT.mono (fun b _ hb => (h2 b).2 (.inl hb))
    refine ⟨by rw [he], progFoot B ((k.opens (lessN k.nm k.na name) A g cap name).did g2 cap2 (.iface 140 (.agg #[.string name, .int .i64 kind]))) F' s.ne gl, ?_, hTw, ?_⟩
    · unfold St.afterOpen
      rw [if_pos he]
      refine ⟨_, sh (lessN k.nm k.na name) kind kd, sh (lessN k.nm k.na name) 0 mm, sh (lessN k.nm k.na name) (fun _ => (0, 0, 0)) ff, F', gl, cl, xa, xm, kk, ⟨hB', hA', ?_, h1.ne, h1.ul, ?_, ?_, ?_, ?_, ?_, h1.ev, ?_, h1.pl, h1.gn, h1.un, ?_⟩, fun b => Iff.rfl⟩
      · show k.na + 1 = s.na + 1
        rw [hkna]
      · have := h1.nd
        show ((k.nd + 1 : Nat) : Int) ≤ ((s.na + 1 : Nat) : Int) + s.ne + s.lk + 1
        omega
      · show NamesIs (sh (lessN k.nm k.na name) name k.nm) _ _
        rw [hkna]; exact hN
      · intro i hi
        have hi' : i < s.na + 1 := hi
        show upd s.kd s.na kind i = 0 ∨ upd s.kd s.na kind i = 1
        by_cases e : i = s.na
        · subst e; rw [upd_same]; exact kindB_yes hz.2.1
        · rw [upd_ne _ _ e]; exact h1.kb i (by omega)
      · intro i hi
        have hi' : i < s.na + 1 := hi
        show sh (lessN k.nm k.na name) kind kd i = upd s.kd s.na kind (atI (upd s.fn s.na name) (s.na + 1) (sh (lessN k.nm k.na name) name k.nm i)).toNat
        by_cases e : i = lessN k.nm k.na name
        · subst e
          rw [sh_at, sh_at, atI_last hnt, Int.toNat_natCast, upd_same]
        · rw [sh_ne _ _ _ e, sh_ne _ _ _ e]
          have hj := sj_lt (lessN_le k.nm k.na name) (by rw [hkna]; exact hi') e
          have hat : 0 ≤ atI s.fn s.na (k.nm (sj (lessN k.nm k.na name) i)) := by
            have := h1.ns.at (k.nm (sj (lessN k.nm k.na name) i))
            rw [(isAt_iff h1.ns.rise _).2 ⟨_, by rw [← hkna]; exact hj, rfl⟩] at this
            exact of_decide_eq_true this.symm
          rw [atI_open hat, upd_ne _ _ (by have := (atI_at _ _ _ hat).1; omega)]
          exact h1.ks _ (by rw [← hkna]; exact hj)
      · intro i hi
        have hi' : i < s.na + 1 := hi
        show (List.range (sh (lessN k.nm k.na name) 0 mm i)).map (sh (lessN k.nm k.na name) (fun _ => (0, 0, 0)) ff i) = its s.dy s.la s.lm (sh (lessN k.nm k.na name) name k.nm i) s.ln s.ne
        by_cases e : i = lessN k.nm k.na name
        · subst e
          simp only [sh_at]
          refine (its_none _ _ _ _ _ _ (fun q hq j hj e => ?_)).symm
          have := ho.th q hq j hj
          rw [show s.la q j = name from e] at this
          rw [← hth, h3] at this
          cases this
        · simp only [sh_ne _ _ _ e]
          have hj := sj_lt (lessN_le k.nm k.na name) (by rw [hkna]; exact hi') e
          exact h1.it _ (by rw [← hkna]; exact hj)
      · intro i hi
        refine owns_turn (h1.lo i hi) hT (fun b hb => ?_)
        obtain ⟨cs, fz, hc⟩ := owns_kind (h1.lo i hi) b hb
        exact fun hk => h1.line hc (.inl hk)
      · refine h1.tx.did (s' := s.opened name kind) (.opens name kind) (by show (0 : Int) ≤ kind ∧ kind ≤ 1; rcases kindB_yes hz.2.1 with e | e <;> omega) rfl rfl rfl rfl ?_ (fun i hi => ?_)
        · have h9 := h1.tx.sz
          have hdl := digZ_len kind
          show ((s.tx ++ (⟨#[111, 32]⟩ ++ name ++ ⟨#[32]⟩ ++ ⟨(digZ kind).toArray⟩) ++ ⟨#[10]⟩ : ByteArray).size : Int) ≤ 8000000000 * s.ne + 1100000000 * ((s.na + 1 : Nat) : Int) + 1000 * (s.lk + 1)
          simp only [ByteArray.size_append, sz_arr, List.size_toArray, List.length_cons, List.length_nil]
          omega
        · have hi' : i < s.na + 1 := hi
          show (upd s.fn s.na name i).size ≤ _
          by_cases e : i = s.na
          · subst e; rw [upd_same]; exact hs
          · rw [upd_ne _ _ e]; exact h1.tx.ns i (by omega)
    · intro b hb
      rcases hb with (rfl | hb | hb | hb) | hb | hb
      · exact .inl ((h2 _).2 (.inl (.inl rfl)))
      · have : g = b := Option.some.inj hb
        subst this
        rcases hg with hg | hg
        · exact .inl ((h2 _).2 (.inl (.inr (.inl hg))))
        · exact .inr hg
      · have : g2 = b := Option.some.inj hb
        subst this
        rcases hg2 with hg | hg
        · exact .inl ((h2 _).2 (.inl (.inr (.inr (.inl hg)))))
        · exact .inr hg
      · exact .inl ((h2 _).2 (.inl (.inr (.inr (.inr hb)))))
      · rcases hF' b hb with hk | hk
        · exact .inl ((h2 _).2 (.inr (.inl hk)))
        · exact .inr hk
      · exact .inl ((h2 _).2 (.inr (.inr hb)))
  · obtain ⟨ga, hat⟩ := h1.bk.at h1.ac
    have hE : s.openE name kind = Go.Annal.openE (isName name) (kindB kind) (isAt k.nm k.na name) (decide (10 ≤ k.na)) := by rw [hth, hkna]; rfl
    refine (OpenA_err B ga k.ca k.na k.ada k.pa k.nm name kind w hat (by omega) hs (hE ▸ he)).mono ?_
    rintro r w' ⟨rfl, hb⟩
    refine ⟨by rw [hE], Fp, ?_, Turn.of_below hb, fun b hk => .inl hk⟩
    unfold St.afterOpen
    rw [if_neg he]
    exact h.turn (S := fun _ => False) (Turn.of_below hb) (fun _ _ h => h)
/-- Lock. -/
theorem progLock (B : Nat) (s : St) (Fp : Nat → Prop) (day : Int) (w : World) (h : ProgIs w B s Fp) (ho : s.Ok) :
    Calls Tryz.prog 31 #[.pointer (some ⟨B, 0, none⟩), .int .i64 day] w fun r w' => r = .returned (.int .i64 (s.lockE day)) ∧ ∃ Fp', ProgIs w' B (s.afterLock day) Fp' ∧ Turn Fp w w' ∧ ∀ b, Fp' b → Fp b ∨ w.heap.size ≤ b := by
  obtain ⟨k, kd, mm, ff, F, gl, cl, xa, xm, kk, h1, h2⟩ := id h
  have hul := h1.ul
  have hdec : decide (day < k.ul) = decide (day ≤ s.lk) := by rw [Bool.eq_iff_iff, decide_eq_true_iff, decide_eq_true_iff]; omega
  have hE : s.lockE day = Go.Annal.lockE (dayB day) (decide (day < k.ul)) := by rw [hdec]; rfl
  by_cases he : s.lockE day = 0
  · have hz : dayB day = true ∧ decide (day < k.ul) = false := by
      have he' := he
      rw [hE] at he'
      revert he'
      unfold Go.Annal.lockE
      cases dayB day <;> cases decide (day < k.ul) <;> decide
    refine (LockA_ok B k day w h1.bk (h1.ndb ho) hz.1 (of_decide_eq_false hz.2)).mono ?_
    rintro r w' ⟨rfl, hq⟩
    obtain ⟨g, cap, hB', hT, hg⟩ := hq.out
    have hd := of_decide_eq_false hz.2
    refine ⟨by rw [he], progFoot B { k.did g cap (.iface 131 (.agg #[.int .i64 day])) with ul := day + 1 } F s.ne gl, ?_, hT.mono (fun b _ hb => (h2 b).2 (.inl hb)), ?_⟩
    · unfold St.afterLock
      rw [if_pos he]
      refine ⟨_, kd, mm, ff, F, gl, cl, xa, xm, kk, ⟨hB', h1.ac.turn hT (fun b hb hs => h1.bk.apart h1.ac hs hb), h1.na, h1.ne, rfl, ?_, h1.ns, h1.kb, h1.ks, h1.it, h1.ev, ?_, h1.pl, h1.gn, h1.un, ?_⟩, fun b => Iff.rfl⟩
      · have := h1.nd
        show ((k.nd + 1 : Nat) : Int) ≤ (s.na : Int) + s.ne + day + 1
        omega
      · intro i hi
        refine owns_turn (h1.lo i hi) hT (fun b hb => ?_)
        obtain ⟨cs, fz, hc⟩ := owns_kind (h1.lo i hi) b hb
        exact fun hk => h1.line hc (.inl hk)
      · refine h1.tx.did (s' := { s with lk := day, tx := s.tx ++ (⟨#[108, 32]⟩ ++ ⟨(digZ day).toArray⟩) ++ ⟨#[10]⟩ }) (.locks day) (dayB_yes hz.1) rfl rfl rfl rfl ?_ h1.tx.ns
        have h9 := h1.tx.sz
        have hdl := digZ_len day
        have hd0 := hd
        show ((s.tx ++ (⟨#[108, 32]⟩ ++ ⟨(digZ day).toArray⟩) ++ ⟨#[10]⟩ : ByteArray).size : Int) ≤ 8000000000 * s.ne + 1100000000 * s.na + 1000 * (day + 1)
        simp only [ByteArray.size_append, sz_arr, List.size_toArray, List.length_cons, List.length_nil]
        omega
    · intro b hb
      rcases hb with (rfl | hb | hb | hb) | hb | hb
      · exact .inl ((h2 _).2 (.inl (.inl rfl)))
      · exact .inl ((h2 _).2 (.inl (.inr (.inl hb))))
      · have : g = b := Option.some.inj hb
        subst this
        rcases hg with hg | hg
        · exact .inl ((h2 _).2 (.inl (.inr (.inr (.inl hg)))))
        · exact .inr hg
      · exact .inl ((h2 _).2 (.inl (.inr (.inr (.inr hb)))))
      · exact .inl ((h2 _).2 (.inr (.inl hb)))
      · exact .inl ((h2 _).2 (.inr (.inr hb)))
  · refine (LockA_err B k day w h1.bk (hE ▸ he)).mono ?_
    rintro r w' ⟨rfl, rfl⟩
    refine ⟨by rw [hE], Fp, ?_, Turn.refl _ _, fun b hk => .inl hk⟩
    unfold St.afterLock
    rw [if_neg he]
    exact h
end Go.Proofs.YtjnmoddcodnadaaGreatDoor
namespace Go.Proofs.YtjnmoddcodnadaaGreatDoor
open Go.RowKit Go.Annal Go.Sort
theorem isAt_dis {nm : Nat → ByteArray} {na : Nat} {xa : Nat → ByteArray} {n : Nat} (hin : ∀ l, l < n → isAt nm na (xa l) = true) (hd : ∀ a b, a < b → b < n → (xa a).toList ≠ (xa b).toList) : ∀ a b, a < b → b < n → lessN nm na (xa a) ≠ lessN nm na (xa b) := fun a b hab hb e => by
  have ha := (isAt_eq (hin a (by omega))).2
  have hb' := (isAt_eq (hin b hb)).2
  rw [e, hb'] at ha
  exact hd a b hab hb (by rw [ha])
/-- Post. -/
theorem progPost (B : Nat) (s : St) (Fp : Nat → Prop) (day : Int) (lad : Option Addr) (n cap : Nat) (ya : Nat → ByteArray) (ym : Nat → Int) (w : World) (h : ProgIs w B s Fp) (ho : s.Ok) (hL : LinesV w lad n cap ya ym) :
    Calls Tryz.prog 28 #[.pointer (some ⟨B, 0, none⟩), .int .i64 day, .slice lad n cap] w fun r w' => r = .returned (.tuple #[.int .i64 (s.postN day ya ym n), .int .i64 (s.postE day ya ym n)]) ∧ ∃ Fp', ProgIs w' B (s.afterPost day ya ym n) Fp' ∧ Turn Fp w w' ∧ ∀ b, Fp' b → Fp b ∨ w.heap.size ≤ b := by
  have hkeep : ∀ w', Below w.heap.size w w' → s.postE day ya ym n ≠ 0 → ∃ Fp', ProgIs w' B (s.afterPost day ya ym n) Fp' ∧ Turn Fp w w' ∧ ∀ b, Fp' b → Fp b ∨ w.heap.size ≤ b := fun w' hb he => by
    refine ⟨Fp, ?_, Turn.of_below hb, fun b hk => .inl hk⟩
    unfold St.afterPost
    rw [if_neg he]
    exact h.turn (S := fun _ => False) (Turn.of_below hb) (fun _ _ h => h)
  have hN : s.postE day ya ym n ≠ 0 → s.postN day ya ym n = 0 := fun he => by unfold St.postN; rw [if_neg he]
  have hbad : ∀ E, E ≠ 0 → s.postE day ya ym n = E → (Calls Tryz.prog 59 #[.pointer (some ⟨B, 0, none⟩), .int .i64 day, .slice lad n cap] w fun r w' => r = .returned (.int .i64 E) ∧ Below w.heap.size w w') → Calls Tryz.prog 28 #[.pointer (some ⟨B, 0, none⟩), .int .i64 day, .slice lad n cap] w fun r w' => r = .returned (.tuple #[.int .i64 (s.postN day ya ym n), .int .i64 (s.postE day ya ym n)]) ∧ ∃ Fp', ProgIs w' B (s.afterPost day ya ym n) Fp' ∧ Turn Fp w w' ∧ ∀ b, Fp' b → Fp b ∨ w.heap.size ≤ b := fun E hE he CR => by
    refine (PostA_err B n cap lad day E w hE CR).mono ?_
    rintro r w' ⟨rfl, hb⟩
    exact ⟨by rw [hN (by rw [he]; exact hE), he], hkeep _ hb (by rw [he]; exact hE)⟩
  cases hd : dayB day
  · refine hbad 5 (by decide) (St.postE_day hd) ((refuse_day B n cap lad day w hd).mono ?_)
    rintro r w' ⟨rfl, rfl⟩
    exact ⟨rfl, Below.refl _ _⟩
  · by_cases hn : n < 2 ∨ 6 < n
    · refine hbad 6 (by decide) (St.postE_len hd hn) ((refuse_len B n cap lad day w hd hn).mono ?_)
      rintro r w' ⟨rfl, rfl⟩
      exact ⟨rfl, Below.refl _ _⟩
    · obtain ⟨k, kd, mm, ff, F, gl, cl, xa, xm, kk, h1, h2⟩ := id h
      have hna := ho.na
      have hne := ho.ne
      have hkna := h1.na
      have hkne := h1.ne
      have hth := h1.there
      obtain ⟨ga, hat⟩ := h1.bk.at h1.ac
      obtain ⟨lg, lo, rfl, hLA⟩ := hL.ls (by omega)
      have cE : w.cell? ⟨B, 2, none⟩ = some (.slice k.ade k.ne k.ce) := blk_cell' h1.bk.bk (o := 2) rfl
      have cU : w.cell? ⟨B, 3, none⟩ = some (.int .i64 k.ul) := blk_cell' h1.bk.bk (o := 3) rfl
      have hE : s.postE day ya ym n = Go.Annal.postE true (wrongE (isAt k.nm k.na) ya ym n) (decide (day < k.ul)) (decide (60 ≤ k.ne)) := by
        unfold St.postE
        rw [hd, hth, hkne, h1.ul]
        congr 1
        rw [Bool.eq_iff_iff, decide_eq_true_iff, decide_eq_true_iff]
        omega
      have CR := refuse_any B ga k.ca k.na k.ne lg lo n cap k.ada k.pa k.nm ya ym day k.ul w hat (by omega) cE cU hLA hd (by omega) (by omega) hL.le
      rw [← hE] at CR
      by_cases he : s.postE day ya ym n = 0
      · have hz := postE_zero (hE ▸ he)
        have hw := wrong_zero hz.2.1
        have hn60 : k.ne < 60 := by have := hz.2.2.2; simp at this; omega
        rw [he] at CR
        have hfew := h1.few ho
        have hlt : w.heap.size ≤ w.heap.size := Nat.le_refl _
        refine (PostA_ok B n cap (k.ne + 1) _ day w (fun g c W => W.ownsRow w.heap.size 58 2 (.slice (some ⟨g, 0, none⟩) n c) n (lineCells ya ym n) ∧ Below w.heap.size w W) (fun w' => ∃ Fp', ProgIs w' B (s.posted day ya ym n) Fp' ∧ Turn Fp w w' ∧ ∀ b, Fp' b → Fp b ∨ w.heap.size ≤ b) CR (fun W hW => ?_) (fun g c W hr => ?_)).mono ?_
        · have hA' := h1.mv hW
          refine (posted_any B k day lg lo n cap ya ym kd mm ff F W hA'.bk hA'.ac (by omega) (hLA.mv hW) (by omega) (by omega) hw.2.2.1).mono ?_
          rintro r w' ⟨g, c, rfl, hown, hb⟩
          exact ⟨g, c, rfl, owns_le hown hW.size, hW.trans (hb.mono hW.size)⟩
        · have hA' := h1.mv hr.2
          obtain ⟨hLn, csn, hcn⟩ := linesK_lines hr.1 (by omega)
          refine (enterA_any B k 124 (.agg #[.int .i64 day, .slice (some ⟨g, 0, none⟩) n c]) day g n c ya ym kd mm ff F W csn (0, 0) hA'.bk hA'.ac (h1.ndb ho) hn60 hLn hcn (by omega) hw.2.2.1 (isAt_dis hw.2.2.1 hw.2.2.2.1) (fun i hi => by have := hfew i hi; omega) (fun l hl => by have := hw.2.2.2.2 l hl; omega) (by omega) (fun w => method_posting w _ _ _ _)).mono ?_
          rintro r w' ⟨rfl, hEn⟩
          refine ⟨rfl, ?_⟩
          obtain ⟨Fp', q1, q2, q3⟩ := prog_enter h1 hr.2 (e := .post) (za := ya) (zm := ym) (gn' := upd s.gn s.ne false) (tx' := s.tx ++ postT day ya ym n ++ ⟨#[10]⟩) (by omega) hr.1 (List.Perm.refl _) ho hw.2.2.2.1 hw.2.2.1 hEn (gn_plain h1 rfl) ⟨Int.le_refl _, by show (0 : Int) ≤ _; omega⟩ rfl (by have := postT_size day ya ym n hL.sm; show (postT day ya ym n).size ≤ _; omega)
          exact ⟨Fp', q1, q2.mono (fun b _ hb => (h2 b).2 hb), fun b hb => (q3 b hb).elim (fun hb => .inl ((h2 b).2 hb)) .inr⟩
        · rintro r w' ⟨rfl, hq⟩
          refine ⟨?_, ?_⟩
          · have : s.postN day ya ym n = ((k.ne + 1 : Nat) : Int) := by unfold St.postN; rw [if_pos he, hkne]; omega
            rw [he, this]
          · unfold St.afterPost
            rw [if_pos he]
            exact hq
      · exact hbad _ he rfl CR
/-- Reverse. -/
theorem progRev (B : Nat) (s : St) (Fp : Nat → Prop) (entry : Int) (w : World) (h : ProgIs w B s Fp) (ho : s.Ok) :
    Calls Tryz.prog 30 #[.pointer (some ⟨B, 0, none⟩), .int .i64 entry] w fun r w' => r = .returned (.tuple #[.int .i64 (s.revN entry), .int .i64 (s.revE entry)]) ∧ ∃ Fp', ProgIs w' B (s.afterRev entry) Fp' ∧ Turn Fp w w' ∧ ∀ b, Fp' b → Fp b ∨ w.heap.size ≤ b := by
  have hN : s.revE entry ≠ 0 → s.revN entry = 0 := fun he => by unfold St.revN; rw [if_neg he]
  have hbad : ∀ E, E ≠ 0 → s.revE entry = E → (Calls Tryz.prog 62 #[.pointer (some ⟨B, 0, none⟩), .int .i64 entry] w fun r w' => r = .returned (.int .i64 E) ∧ Below w.heap.size w w') → Calls Tryz.prog 30 #[.pointer (some ⟨B, 0, none⟩), .int .i64 entry] w fun r w' => r = .returned (.tuple #[.int .i64 (s.revN entry), .int .i64 (s.revE entry)]) ∧ ∃ Fp', ProgIs w' B (s.afterRev entry) Fp' ∧ Turn Fp w w' ∧ ∀ b, Fp' b → Fp b ∨ w.heap.size ≤ b := fun E hE he CR => by
    refine (ReverseA_err B entry E w hE CR).mono ?_
    rintro r w' ⟨rfl, hb⟩
    refine ⟨by rw [hN (by rw [he]; exact hE), he], Fp, ?_, Turn.of_below hb, fun b hk => .inl hk⟩
    unfold St.afterRev
    rw [if_neg (by rw [he]; exact hE)]
    exact h.turn (S := fun _ => False) (Turn.of_below hb) (fun _ _ h => h)
  obtain ⟨k, kd, mm, ff, F, gl, cl, xa, xm, kk, h1, h2⟩ := id h
  have hna := ho.na
  have hne := ho.ne
  have hkna := h1.na
  have hkne := h1.ne
  have hul := h1.ul
  have hlk := ho.lk
  have cE : w.cell? ⟨B, 2, none⟩ = some k.nv := blk_cell' h1.bk.bk (o := 2) rfl
  have cU : w.cell? ⟨B, 3, none⟩ = some (.int .i64 k.ul) := blk_cell' h1.bk.bk (o := 3) rfl
  by_cases hout : entry < 1 ∨ (k.ne : Int) < entry
  · have he : s.revE entry = 7 := by
      unfold St.revE
      rw [decide_eq_false (by omega)]; rfl
    exact hbad 7 (by decide) he (refuseRev_out B k entry w cE hout)
  · obtain ⟨e, rfl⟩ : ∃ e : Nat, entry = (e : Int) + 1 := ⟨(entry - 1).toNat, by omega⟩
    have hes : e < s.ne := by omega
    have ht : ((e : Int) + 1 - 1).toNat = e := by omega
    obtain ⟨ge, hents⟩ := h1.bk.ents (dy := s.dy) (gl := gl) (ln := s.ln) (cl := cl) (kk := kk) (fun i hi => h1.ev i (by omega))
    have hdd := ho.dd e hes
    have hlate : decide (9999 < revDay (s.dy e) s.lk) = decide (9999 < k.ul) := by
      rw [Bool.eq_iff_iff, decide_eq_true_iff, decide_eq_true_iff, hul]
      unfold revDay
      split <;> omega
    have hgn := h1.gn e hes
    have hE : s.revE ((e : Int) + 1) = Go.Annal.revE true (s.gn e) (decide (9999 < k.ul)) (decide (60 ≤ k.ne)) := by
      unfold St.revE
      rw [ht, hlate, decide_eq_true (show 1 ≤ (e : Int) + 1 ∧ (e : Int) + 1 ≤ s.ne by omega), hkne]
    have CR := refuseRev_in B k ((e : Int) + 1) (s.gn e) w cE cU (by omega) (by omega) (fun W hW => by
      have := isReversed_any B ge k s.dy gl s.ln cl kk e ((e : Int) + 1) W (hents.mv hW) (by omega) (by omega) rfl
      rw [hkne, ← hgn] at this
      exact this)
    rw [← hE] at CR
    by_cases he : s.revE ((e : Int) + 1) = 0
    · have hz := revE_zero (hE ▸ he)
      have hn60 : k.ne < 60 := by have := hz.2.2.2; simp at this; omega
      have hl1 := ho.l1 e hes
      have hln := ho.ln e hes
      have hbd := ho.bd e hes
      rw [he] at CR
      have hfew := h1.few ho
      have hpl := h1.pl e hes
      have hmx : max (s.dy e) k.ul = revDay (s.dy e) s.lk := by
        rw [hul]; unfold revDay
        split <;> omega
      have hxm : ∀ j, j < s.ln e → -1000000000000 ≤ xm e j ∧ xm e j ≤ 1000000000000 := fun j hj => by
        obtain ⟨i, hi, _, e2⟩ := perm_mem hpl hj
        rw [← e2]; exact hbd i hi
      have hxin : ∀ l, l < s.ln e → isAt k.nm k.na (xa e l) = true := fun l hl => by
        obtain ⟨i, hi, e1, _⟩ := perm_mem hpl hl
        rw [← e1, h1.there]; exact ho.th e hes i hi
      have hxd := perm_two hpl (ho.tw e hes)
      refine (ReverseA_ok B (s.ln e) (k.ne + 1) ((e : Int) + 1) (revDay (s.dy e) s.lk) w (fun g c W => W.ownsRow w.heap.size 58 2 (.slice (some ⟨g, 0, none⟩) (s.ln e) c) (s.ln e) (lineCells (xa e) (fun j => - xm e j) (s.ln e)) ∧ Below w.heap.size w W) (fun w' => ∃ Fp', ProgIs w' B (s.reversed e) Fp' ∧ Turn Fp w w' ∧ ∀ b, Fp' b → Fp b ∨ w.heap.size ≤ b) CR (fun W hW => ?_) (fun g c W hr => ?_)).mono ?_
      · obtain ⟨hLe, _⟩ := linesK_lines (owns_mv (h1.lo e hes) hW) hl1
        refine (reversed_any B ge k s.dy gl s.ln cl kk e ((e : Int) + 1) (xa e) (xm e) W (hents.mv hW) (cell_later hW cU) (by omega) (by omega) rfl hLe (by omega) hl1 hxm (revDay (s.dy e) s.lk) hmx).mono ?_
        rintro r w' ⟨g, c, rfl, hown, hb⟩
        exact ⟨g, c, rfl, owns_le hown hW.size, hW.trans (hb.mono hW.size)⟩
      · have hA' := h1.mv hr.2
        obtain ⟨hLn, csn, hcn⟩ := linesK_lines hr.1 hl1
        refine (enterA_any B k 127 (.agg #[.int .i64 (revDay (s.dy e) s.lk), .slice (some ⟨g, 0, none⟩) (s.ln e) c, .int .i64 ((e : Int) + 1)]) (revDay (s.dy e) s.lk) g (s.ln e) c (xa e) (fun j => - xm e j) kd mm ff F W csn (0, 0) hA'.bk hA'.ac (h1.ndb ho) hn60 hLn hcn (by omega) hxin (isAt_dis hxin hxd) (fun i hi => by have := hfew i hi; omega) (fun l hl => by have := hxm l hl; omega) (by omega) (fun w => method_reversal w _ _ _ _ _)).mono ?_
        rintro r w' ⟨rfl, hEn⟩
        refine ⟨rfl, ?_⟩
        obtain ⟨Fp', q1, q2, q3⟩ := prog_enter h1 hr.2 (e := .rev ((e : Int) + 1)) (za := s.la e) (zm := fun j => - s.lm e j) (gn' := upd (upd s.gn e true) s.ne true) (tx' := s.tx ++ (⟨#[114, 32]⟩ ++ ⟨(digZ ((e : Int) + 1)).toArray⟩) ++ ⟨#[10]⟩) hl1 hr.1 (by rw [linesL_neg, linesL_neg]; exact hpl.map _) ho (ho.tw e hes) hxin hEn (gn_rev h1 hes) ⟨by show (0 : Int) ≤ (e : Int) + 1; omega, by show (e : Int) + 1 ≤ _; omega⟩ rfl (by have := digZ_len ((e : Int) + 1); unfold evT; simp only [ByteArray.size_append, sz_arr, List.size_toArray, List.length_cons, List.length_nil]; omega)
        exact ⟨Fp', q1, q2.mono (fun b _ hb => (h2 b).2 hb), fun b hb => (q3 b hb).elim (fun hb => .inl ((h2 b).2 hb)) .inr⟩
      · rintro r w' ⟨rfl, hq⟩
        refine ⟨?_, ?_⟩
        · have : s.revN ((e : Int) + 1) = ((k.ne + 1 : Nat) : Int) := by unfold St.revN; rw [if_pos he, hkne]; omega
          rw [he, this]
        · unfold St.afterRev
          rw [if_pos he, ht]
          exact hq
    · exact hbad _ he rfl CR
end Go.Proofs.YtjnmoddcodnadaaGreatDoor
namespace Go.Proofs.YtjnmoddcodnadaaGreatDoor
open Go.RowKit Go.Annal Go.Sort
/-- What the history of an account answers. -/
theorem progHistBal {w : World} {B : Nat} {s : St} {k : Bk} {kd : Nat → Int} {mm : Nat → Nat} {ff : Nat → Nat → It} {F : Nat → Prop} {gl cl : Nat → Nat} {xa : Nat → Nat → ByteArray} {xm : Nat → Nat → Int} {kk : Nat → EvK} (h : ProgAt w B s k kd mm ff F gl cl xa xm kk) (ho : s.Ok) (day known : Int) (hd : dayB day = true) (hkn : knownB known s.ne = true) (i : Nat) (hi : i < k.na) (W : World) (hW : Below w.heap.size w W) :
    Calls Tryz.prog 70 #[.pointer (some ⟨k.pa i, 2, none⟩), .int .i64 day, .int .i64 known] W fun r w' => r = .returned (.int .i64 (enS s.dy s.la s.lm (k.nm i) day s.ln known.toNat)) ∧ Below W.heap.size W w' := by
  obtain ⟨k1, k2⟩ := knownB_yes hkn
  have hfew := h.few ho i hi
  have hne := ho.ne
  have hit := h.it i (by rw [← h.na]; exact hi)
  obtain ⟨ad, cap, gr, cp, bl, g1, _, _⟩ := h.ac
  have hA := (g1 i hi).turn (S := fun _ => False) (Turn.of_below hW) (fun _ _ h => h)
  have e1 := known_its s.dy s.la s.lm (k.nm i) s.ln s.ne (mm i) (ff i) known hit k1 k2
  have := histBal_at (k.pa i) (k.nm i) (kd i) (mm i) (ff i) (ad i) (cap i) (gr i) (cp i) (bl i) W day known hA (by omega) (num_le s.dy s.la s.lm (k.nm i) s.ln s.ne (mm i) (ff i) hit ho.tw) hd
  rw [e1, ← enS_its] at this
  exact this
theorem progBal (B : Nat) (s : St) (Fp : Nat → Prop) (name : ByteArray) (day known : Int) (w : World) (h : ProgIs w B s Fp) (ho : s.Ok) :
    Calls Tryz.prog 34 #[.pointer (some ⟨B, 0, none⟩), .string name, .int .i64 day, .int .i64 known] w fun r w' => r = .returned (.tuple #[.int .i64 (s.bal name day known), .int .i64 (s.balE name day known)]) ∧ Below w.heap.size w w' := by
  obtain ⟨k, kd, mm, ff, F, gl, cl, xa, xm, kk, h1, h2⟩ := h
  obtain ⟨ga, hat⟩ := h1.bk.at h1.ac
  have hna := ho.na
  have hkna := h1.na
  have hth := congrFun h1.there name
  have hE : s.balE name day known = askErr (isAt k.nm k.na name) (dayB day) (knownB known k.ne) := by rw [hth, h1.ne]; rfl
  unfold St.bal
  rw [hE]
  refine Balance_any B ga k.ca k.na k.ne k.ada k.pa k.nm name day known _ w hat (by omega) (blk_cell' h1.bk.bk (o := 2) rfl) (fun hi hd hkn W hW => ?_)
  obtain ⟨g1, g2⟩ := isAt_eq hi
  rw [h1.ne] at hkn
  have := progHistBal h1 ho day known hd hkn _ g1 W hW
  rw [g2] at this
  exact this
theorem progTrialK {w : World} {B : Nat} {s : St} {k : Bk} {kd : Nat → Int} {mm : Nat → Nat} {ff : Nat → Nat → It} {F : Nat → Prop} {gl cl : Nat → Nat} {xa : Nat → Nat → ByteArray} {xm : Nat → Nat → Int} {kk : Nat → EvK} (h1 : ProgAt w B s k kd mm ff F gl cl xa xm kk) (ho : s.Ok) (day known : Int) (g1 : dayB day = true) (g2 : knownB known s.ne = true) :
    Calls Tryz.prog 85 #[.pointer (some ⟨B, 0, none⟩), .int .i64 day, .int .i64 known] w fun r w' => ∃ v, r = .returned (.tuple #[v, .int .i64 0]) ∧ w'.ownsRow w.heap.size 58 2 v (trA k.nm (fun i => enS s.dy s.la s.lm (k.nm i) day s.ln known.toNat) k.na).length (cells2 (trA k.nm (fun i => enS s.dy s.la s.lm (k.nm i) day s.ln known.toNat) k.na)) ∧ Below w.heap.size w w' := by
  obtain ⟨ga, hat⟩ := h1.bk.at h1.ac
  have hna := ho.na
  have hkna := h1.na
  exact Trial_ok B ga k.ca k.na k.ne k.ada k.pa k.nm (fun i => enS s.dy s.la s.lm (k.nm i) day s.ln known.toNat) day known w hat (by omega) (blk_cell' h1.bk.bk (o := 2) rfl) g1 (by rw [h1.ne]; exact g2) (fun i hi W hW => progHistBal h1 ho day known g1 g2 i hi W hW)
theorem progTrial (B : Nat) (s : St) (Fp : Nat → Prop) (day known : Int) (w : World) (h : ProgIs w B s Fp) (ho : s.Ok) :
    Calls Tryz.prog 85 #[.pointer (some ⟨B, 0, none⟩), .int .i64 day, .int .i64 known] w fun r w' => ∃ v, r = .returned (.tuple #[v, .int .i64 (s.trialE day known)]) ∧ w'.ownsRow w.heap.size 58 2 v (s.trial day known).length (cells2 (s.trial day known)) ∧ Below w.heap.size w w' := by
  obtain ⟨k, kd, mm, ff, F, gl, cl, xa, xm, kk, h1, h2⟩ := h
  by_cases he : s.trialE day known = 0
  · obtain ⟨g1, g2⟩ := viewE_zero he
    refine (progTrialK h1 ho day known g1 g2).mono ?_
    rintro r w' ⟨v, rfl, hv, hb⟩
    refine ⟨v, by rw [he], ?_, hb⟩
    unfold St.trial
    rw [if_pos he]
    rw [h1.na, h1.ns.trial (fun x => enS s.dy s.la s.lm x day s.ln known.toNat) _ (fun i _ => rfl)] at hv
    exact hv
  · have hE : s.trialE day known = viewE (dayB day) (knownB known k.ne) := by rw [h1.ne]; rfl
    refine (Trial_err B k.ne day known w (blk_cell' h1.bk.bk (o := 2) rfl) (hE ▸ he)).mono ?_
    rintro r w' ⟨rfl, hb⟩
    refine ⟨_, by rw [hE], ?_, hb⟩
    unfold St.trial
    rw [if_neg he]
    exact ⟨rfl, .inl ⟨rfl, rfl⟩⟩
theorem progItems (B : Nat) (s : St) (Fp : Nat → Prop) (name : ByteArray) (d1 d2 known : Int) (w : World) (h : ProgIs w B s Fp) (ho : s.Ok) :
    Calls Tryz.prog 89 #[.pointer (some ⟨B, 0, none⟩), .string name, .int .i64 d1, .int .i64 d2, .int .i64 known] w fun r w' => ∃ v, r = .returned (.tuple #[v, .int .i64 (s.itemsE name d1 d2 known)]) ∧ w'.ownsRow w.heap.size 106 3 v (s.items name d1 d2 known).length (cells3 (s.items name d1 d2 known)) ∧ Below w.heap.size w w' := by
  obtain ⟨k, kd, mm, ff, F, gl, cl, xa, xm, kk, h1, h2⟩ := h
  obtain ⟨ga, hat⟩ := h1.bk.at h1.ac
  have hna := ho.na
  have hne := ho.ne
  have hkna := h1.na
  have hth := congrFun h1.there name
  have hE : s.itemsE name d1 d2 known = askErr (isAt k.nm k.na name) (dayB d1 && dayB d2) (knownB known k.ne) := by rw [hth, h1.ne]; rfl
  by_cases he : s.itemsE name d1 d2 known = 0
  · obtain ⟨g0, g1, g2⟩ := askErr_zero (hE ▸ he)
    have g2' := g2
    rw [h1.ne] at g2'
    obtain ⟨k1, k2⟩ := knownB_yes g2'
    obtain ⟨hi, hnm⟩ := isAt_eq g0
    have hfew := h1.few ho _ hi
    have hit := h1.it _ (by rw [← hkna]; exact hi)
    have e1 := known_its s.dy s.la s.lm _ s.ln s.ne _ _ known hit k1 k2
    have hnum := num_le s.dy s.la s.lm _ s.ln s.ne _ _ hit ho.tw
    rw [hnm] at e1
    rw [Bool.and_eq_true] at g1
    obtain ⟨ad, cap, gr, cp, bl, q1, _, _⟩ := h1.ac
    refine (Items_ok B ga k.ca k.na k.ne k.ada k.pa k.nm name d1 d2 known w (fun v w' => w'.ownsRow w.heap.size 106 3 v (s.items name d1 d2 known).length (cells3 (s.items name d1 d2 known))) hat (by omega) (blk_cell' h1.bk.bk (o := 2) rfl) g0 (by rw [g1.1, g1.2]; rfl) g2 (fun W hW => ?_)).mono ?_
    · have hA := (q1 _ hi).turn (S := fun _ => False) (Turn.of_below hW) (fun _ _ h => h)
      refine (histItems_at _ _ _ _ _ _ _ _ _ _ W d1 d2 known hA (by omega) hnum g1.1 g1.2).mono ?_
      rintro r w' ⟨v, rfl, ⟨l', hp, hs, hv⟩, hb⟩
      refine ⟨v, rfl, ?_, hb⟩
      rw [e1] at hp
      have hsame := items_same s.dy s.la s.lm name d1 d2 s.ln known.toNat (fun k hk => ho.tw k (by omega)) l' hp hs
      unfold St.items
      rw [if_pos he, ← hsame]
      exact owns_le hv hW.size
    · rintro r w' ⟨v, rfl, hv, hb⟩
      exact ⟨v, by rw [he], hv, hb⟩
  · refine (Items_err B ga k.ca k.na k.ne k.ada k.pa k.nm name d1 d2 known w hat (by omega) (blk_cell' h1.bk.bk (o := 2) rfl) (hE ▸ he)).mono ?_
    rintro r w' ⟨rfl, hb⟩
    refine ⟨_, by rw [hE], ?_, hb⟩
    unfold St.items
    rw [if_neg he]
    exact ⟨rfl, .inl ⟨rfl, rfl⟩⟩
end Go.Proofs.YtjnmoddcodnadaaGreatDoor
