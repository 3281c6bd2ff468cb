import Derived.Test.YtdljdffnnnoafaaGreatPrg5
import Derived.Test.YtdljdffnnnoafaaGreatDoc1
import Derived.Test.YtdljdffnnnoafaaGreatHst6
import Derived.Test.YtdljdffnnnoafaaGreatPrg2
import Derived.Test.YtdljdffnnnoafaaGreatPrg1
set_option linter.unusedVariables false
set_option linter.unusedSimpArgs false
namespace Go.Proofs.YtdljdffnnnoafaaGreat
open Go.RowKit Go.Annal Go.Sort
/-- The program's book lies at B; F: its accounts' blocks. -/
structure ProgAt (w : World) (B : Nat) (s : St) (ada : Option Addr) (ca : Nat) (pa : Nat → Nat) (nm : Nat → ByteArray) (kd : Nat → Int) (mm : Nat → Nat) (ff : Nat → Nat → It) (F : Nat → Prop) : Prop where
  bk : BookIs w B ca s.na s.ne (s.lk + 1) ada pa nm
  ac : Accs w s.na pa nm kd mm ff F
  ns : NamesIs nm s.fn s.na
  it : ∀ i, i < s.na → (List.range (mm i)).map (ff i) = its s.dy s.la s.lm (nm i) s.ln s.ne
def progFoot (B : Nat) (ada : Option Addr) (ca na : Nat) (F : Nat → Prop) (k : Nat) : Prop := k = B ∨ (Value.slice ada na ca).ownBlock = some k ∨ F k
def ProgIs (w : World) (B : Nat) (s : St) (Fp : Nat → Prop) : Prop := ∃ ada ca pa nm kd mm ff F, ProgAt w B s ada ca pa nm kd mm ff F ∧ (∀ k, Fp k ↔ progFoot B ada ca s.na F k)
theorem ProgIs.turn {w w' : World} {B : Nat} {s : St} {Fp : Nat → Prop} (h : ProgIs w B s Fp) {S : Nat → Prop} (ht : Turn S w w') (hs : ∀ k, Fp k → ¬ S k) : ProgIs w' B s Fp := by
  obtain ⟨ada, ca, pa, nm, kd, mm, ff, F, h1, h2⟩ := h
  exact ⟨ada, ca, pa, nm, kd, mm, ff, F, ⟨h1.bk.turn ht (hs B ((h2 B).2 (.inl rfl))) (fun k e => hs k ((h2 k).2 (.inr (.inl e)))), h1.ac.turn ht (fun k hk => hs k ((h2 k).2 (.inr (.inr hk)))), h1.ns, h1.it⟩, h2⟩
theorem ProgIs.kind {w : World} {B : Nat} {s : St} {Fp : Nat → Prop} (h : ProgIs w B s Fp) {k : Nat} (hk : Fp k) : ∃ cs t, w.heap[k]? = some (.cells cs t (0, 0)) ∧ (t = 67 ∨ t = 74 ∨ t = 80 ∨ t = 139 ∨ t = 141) := by
  obtain ⟨ada, ca, pa, nm, kd, mm, ff, F, h1, h2⟩ := h
  rcases (h2 k).1 hk with rfl | hb | hb
  · exact ⟨_, _, h1.bk.bk, .inl rfl⟩
  · rcases h1.bk.ac.2 with ⟨e, _⟩ | ⟨g, c, cur, e, _, hg, _⟩
    · rw [e] at hb; cases hb
    · rw [e] at hb
      have : g = k := Option.some.inj hb
      subst this
      exact ⟨_, _, hg, .inr (.inl rfl)⟩
  · obtain ⟨cs, t, hc, ht⟩ := h1.ac.kind hb
    exact ⟨cs, t, hc, ht.elim (fun h => .inr (.inr (.inl h))) (fun h => h.elim (fun h => .inr (.inr (.inr (.inl h)))) (fun h => .inr (.inr (.inr (.inr h)))))⟩
theorem ProgAt.there {w : World} {B : Nat} {s : St} {ada : Option Addr} {ca : Nat} {pa : Nat → Nat} {nm : Nat → ByteArray} {kd : Nat → Int} {mm : Nat → Nat} {ff : Nat → Nat → It} {F : Nat → Prop} (h : ProgAt w B s ada ca pa nm kd mm ff F) : isAt nm s.na = s.there := by
  funext x
  exact h.ns.at x
theorem its_len (dy : Nat → Int) (la : Nat → Nat → ByteArray) (lm : Nat → Nat → Int) (x : ByteArray) (ln : Nat → Nat) : ∀ n, (∀ k, k < n → ∀ a b, a < b → b < ln k → (la k a).toList ≠ (la k b).toList) → (its dy la lm x ln n).length ≤ n
  | 0, _ => by simp [its]
  | n + 1, h => by
    have h1 := its_len dy la lm x ln n (fun k hk => h k (by omega))
    have h2 := (itsL_one dy la lm x n (ln n) (h n (by omega))).1
    simp only [its, List.length_append]
    omega
theorem ProgAt.few {w : World} {B : Nat} {s : St} {ada : Option Addr} {ca : Nat} {pa : Nat → Nat} {nm : Nat → ByteArray} {kd : Nat → Int} {mm : Nat → Nat} {ff : Nat → Nat → It} {F : Nat → Prop} (h : ProgAt w B s ada ca pa nm kd mm ff F) (ho : s.Ok) : ∀ i, i < s.na → mm i ≤ s.ne := fun i hi => by
  have h1 := its_len s.dy s.la s.lm (nm i) s.ln s.ne ho.tw
  rw [← h.it i hi] at h1
  simpa using h1
/-- New. -/
theorem progNew (w : World) : Calls Tryz.prog 7 #[] w fun r w' => r = .returned (.pointer (some ⟨w.heap.size, 0, none⟩)) ∧ ProgIs w' w.heap.size St.new (fun k => k = w.heap.size) ∧ w' = w.alloc (.cells #[.slice none 0 0, .int .i64 0, .int .i64 0] 67) := by
  refine (annalNew_any w).mono ?_
  rintro r w' ⟨rfl, rfl⟩
  refine ⟨rfl, ⟨none, 0, fun _ => 0, fun _ => ⟨#[]⟩, fun _ => 0, fun _ => 0, fun _ _ => (0, 0, 0), fun _ => False, ⟨⟨heap_alloc_new w _, ⟨rfl, .inl ⟨rfl, rfl⟩⟩, fun x a b _ hb => absurd hb (Nat.not_lt_zero _)⟩, ⟨fun _ => none, fun _ => 0, fun _ _ => 0, fun _ _ => 0, fun _ _ => [], fun i hi => absurd hi (Nat.not_lt_zero _), fun i j k hi => absurd hi (Nat.not_lt_zero _), fun k => ⟨fun h => h.elim, fun ⟨i, hi, _⟩ => absurd hi (Nat.not_lt_zero _)⟩⟩, NamesIs.zero _ _, fun i hi => absurd hi (Nat.not_lt_zero _)⟩, fun k => ⟨.inl, fun h => h.elim id (fun h => h.elim (fun h => by cases h) (fun h => h.elim))⟩⟩, rfl⟩
/-- Open. -/
theorem progOpen (B : Nat) (s : St) (Fp : Nat → Prop) (name : ByteArray) (kind : Int) (w : World) (h : ProgIs w B s Fp) (ho : s.Ok) (hs : name.size ≤ 1000000000) :
    Calls Tryz.prog 11 #[.pointer (some ⟨B, 0, none⟩), .string name, .int .i64 kind] w fun r w' => r = .returned (.int .i64 (s.openE name kind)) ∧ ∃ Fp', ProgIs w' B (s.afterOpen name kind) Fp' ∧ Turn Fp w w' ∧ ∀ k, Fp' k → Fp k ∨ w.heap.size ≤ k := by
  obtain ⟨ada, ca, pa, nm, kd, mm, ff, F, h1, h2⟩ := id h
  have hna := ho.na
  have hth := congrFun h1.there name
  by_cases he : s.openE name kind = 0
  · have hz := openE_zero he
    have h3 : isAt nm s.na name = false := hth.trans hz.2.2.1
    have h4 : s.na < 10 := by have := hz.2.2.2; simp at this; omega
    have hN : NamesIs (sh (lessN nm s.na name) name nm) (s.opened name).fn (s.na + 1) := h1.ns.open name h3 (fun i hi => by simp only [St.opened, if_neg (show i ≠ s.na by omega)]) (by simp [St.opened])
    refine (OpenA_ok B ca s.na s.ne (s.lk + 1) ada pa nm kd mm ff F name kind w h1.bk h1.ac hN.rise h4 hs hz.1 (kindB_yes hz.2.1) h3).mono ?_
    rintro r w' ⟨rfl, A, g, cap, F', hA, hB', hA', hT, hF', hg⟩
    refine ⟨by rw [he], progFoot B (some ⟨g, 0, none⟩) cap (s.na + 1) F', ?_, hT.mono (fun k _ hk => (h2 k).2 (hk.elim .inl (fun h => .inr (.inl h)))), ?_⟩
    · unfold St.afterOpen
      rw [if_pos he]
      refine ⟨some ⟨g, 0, none⟩, cap, _, _, _, _, _, F', ⟨hB', hA', hN, fun i hi => ?_⟩, fun k => Iff.rfl⟩
      have hi' : i < s.na + 1 := hi
      by_cases e : i = lessN nm s.na name
      · subst e
        simp only [sh_at]
        refine (its_none _ _ _ _ _ _ (fun k hk j hj e => ?_)).symm
        have := ho.th k hk j hj
        rw [show s.la k j = name from e] at this
        rw [← hth, h3] at this
        cases this
      · simp only [sh_ne _ _ _ e]
        exact h1.it _ (sj_lt (lessN_le nm s.na name) hi' e)
    · intro k hk
      rcases hk with rfl | hb | hb
      · exact .inl ((h2 _).2 (.inl rfl))
      · have : g = k := Option.some.inj hb
        subst this
        rcases hg with hg | hg
        · exact .inl ((h2 _).2 (.inr (.inl hg)))
        · exact .inr hg
      · rcases hF' k hb with hk | hk
        · exact .inl ((h2 _).2 (.inr (.inr hk)))
        · exact .inr hk
  · obtain ⟨ga, hat⟩ := h1.bk.at h1.ac
    have hE : s.openE name kind = Go.Annal.openE (isName name) (kindB kind) (isAt nm s.na name) (decide (10 ≤ s.na)) := by rw [hth]; rfl
    refine (OpenA_err B ga ca s.na ada pa nm name kind w hat (by omega) hs (hE ▸ he)).mono ?_
    rintro r w' ⟨rfl, hb⟩
    refine ⟨by rw [hE], Fp, ?_, Turn.of_below hb, fun k hk => .inl hk⟩
    unfold St.afterOpen
    rw [if_neg he]
    exact h.turn (S := fun _ => False) (Turn.of_below hb) (fun _ _ h => h)
/-- Post. -/
theorem progPost (B : Nat) (s : St) (Fp : Nat → Prop) (day : Int) (lad : Option Addr) (n cap : Nat) (xa : Nat → ByteArray) (xm : Nat → Int) (w : World) (h : ProgIs w B s Fp) (ho : s.Ok) (hL : LinesV w lad n cap xa xm) (hk : ∀ a, lad = some a → ∃ cs fz, w.heap[a.block]? = some (.cells cs 38 fz)) :
    Calls Tryz.prog 33 #[.pointer (some ⟨B, 0, none⟩), .int .i64 day, .slice lad n cap] w fun r w' => r = .returned (.tuple #[.int .i64 (s.postN day xa xm n), .int .i64 (s.postE day xa xm n)]) ∧ ∃ Fp', ProgIs w' B (s.afterPost day xa xm n) Fp' ∧ Turn Fp w w' ∧ ∀ k, Fp' k → Fp k ∨ w.heap.size ≤ k := by
  have hkeep : ∀ w', Below w.heap.size w w' → s.postE day xa xm n ≠ 0 → ∃ Fp', ProgIs w' B (s.afterPost day xa xm n) Fp' ∧ Turn Fp w w' ∧ ∀ k, Fp' k → Fp k ∨ w.heap.size ≤ k := fun w' hb he => by
    refine ⟨Fp, ?_, Turn.of_below hb, fun k hk => .inl hk⟩
    unfold St.afterPost
    rw [if_neg he]
    exact h.turn (S := fun _ => False) (Turn.of_below hb) (fun _ _ h => h)
  have hN : s.postE day xa xm n ≠ 0 → s.postN day xa xm n = 0 := fun he => by unfold St.postN; rw [if_neg he]
  have hbad : ∀ E, E ≠ 0 → s.postE day xa xm n = E → (Calls Tryz.prog 58 #[.pointer (some ⟨B, 0, none⟩), .int .i64 day, .slice lad n cap] w fun r w' => r = .returned (.int .i64 E) ∧ Below w.heap.size w w') → Calls Tryz.prog 33 #[.pointer (some ⟨B, 0, none⟩), .int .i64 day, .slice lad n cap] w fun r w' => r = .returned (.tuple #[.int .i64 (s.postN day xa xm n), .int .i64 (s.postE day xa xm n)]) ∧ ∃ Fp', ProgIs w' B (s.afterPost day xa xm n) Fp' ∧ Turn Fp w w' ∧ ∀ k, Fp' k → Fp k ∨ w.heap.size ≤ k := fun E hE he CR => by
    refine (PostA_err B n cap lad day E w hE CR).mono ?_
    rintro r w' ⟨rfl, hb⟩
    exact ⟨by rw [hN (by rw [he]; exact hE), he], hkeep _ hb (by rw [he]; exact hE)⟩
  cases hd : dayB day
  · refine hbad 5 (by decide) (St.postE_day hd) ((refuse_day B n cap lad day w hd).mono ?_)
    rintro r w' ⟨rfl, rfl⟩
    exact ⟨rfl, Below.refl _ _⟩
  · by_cases hn : n < 2 ∨ 6 < n
    · refine hbad 6 (by decide) (St.postE_len hd hn) ((refuse_len B n cap lad day w hd hn).mono ?_)
      rintro r w' ⟨rfl, rfl⟩
      exact ⟨rfl, Below.refl _ _⟩
    · obtain ⟨ada, ca, pa, nm, kd, mm, ff, F, h1, h2⟩ := id h
      have hna := ho.na
      have hne := ho.ne
      have hth := h1.there
      obtain ⟨ga, hat⟩ := h1.bk.at h1.ac
      obtain ⟨lg, lo, rfl, hLA⟩ := hL.ls (by omega)
      obtain ⟨lcs, lfz, hlt⟩ := hk _ rfl
      have cE := blk_cell' h1.bk.bk (o := 1) rfl
      have cU := blk_cell' h1.bk.bk (o := 2) rfl
      have hE : s.postE day xa xm n = Go.Annal.postE true (wrongE (isAt nm s.na) xa xm n) (decide (day < s.lk + 1)) (decide (60 ≤ s.ne)) := by
        unfold St.postE
        rw [hd, hth]
        congr 1
        rw [Bool.eq_iff_iff, decide_eq_true_iff, decide_eq_true_iff]
        omega
      have CR := refuse_any B ga ca s.na s.ne lg lo n cap ada pa nm xa xm day (s.lk + 1) w hat (by omega) cE cU hLA hd (by omega) (by omega) hL.le
      rw [← hE] at CR
      by_cases he : s.postE day xa xm n = 0
      · have hz := postE_zero (hE ▸ he)
        have hw := wrong_zero hz.2.1
        have hn60 : s.ne < 60 := by have := hz.2.2.2; simp at this; omega
        rw [he] at CR
        have hfew := h1.few ho
        refine (PostA_ok B n cap (s.ne + 1) _ day w (fun w' => ∃ Fp', ProgIs w' B (s.posted day xa xm n) Fp' ∧ Turn Fp w w' ∧ ∀ k, Fp' k → Fp k ∨ w.heap.size ≤ k) CR (fun W hW => ?_)).mono ?_
        · have hWt : Turn (fun _ => False) w W := Turn.of_below hW
          have hWs := hW.size
          refine (enterA_any B ca s.na s.ne lg lo n cap (s.lk + 1) day ada pa nm xa xm kd mm ff F W lcs lfz (h1.bk.turn hWt (fun h => h) (fun _ _ h => h)) (h1.ac.turn hWt (fun _ _ h => h)) (by omega) hn60 (hLA.mv hW) (hWt.blk hlt (fun h => h)) (by omega) hw.2.2.1 (fun a b hab hb e => ?_) (fun i hi => by have := hfew i hi; omega) hw.2.2.2.2).mono ?_
          · have ha := (isAt_eq (hw.2.2.1 a (by omega))).2
            have hb' := (isAt_eq (hw.2.2.1 b hb)).2
            rw [e, hb'] at ha
            exact hw.2.2.2.1 a b hab hb (by rw [ha])
          · rintro r w' ⟨rfl, F', hB', hA', hT, hF'⟩
            refine ⟨rfl, progFoot B ada ca s.na F', ⟨ada, ca, pa, nm, kd, _, _, F', ⟨hB', hA', h1.ns, its_enter h1.ns.rise s.dy (s.posted day xa xm n).dy s.la (s.posted day xa xm n).la s.lm (s.posted day xa xm n).lm s.ln (s.posted day xa xm n).ln xa xm day mm ff (fun k hk => ?_) (by simp [St.posted]) (by simp [St.posted]) (fun j hj => by simp [St.posted]) hw.2.2.1 h1.it⟩, fun k => Iff.rfl⟩, ?_, fun k hk => ?_⟩
            · simp [St.posted, show k ≠ s.ne by omega]
            · have hT' := hT.mono (S' := Fp) (fun k _ hk => (h2 k).2 (hk.elim .inl (fun h => .inr (.inr h))))
              exact (Turn.of_below hW).trans hT'
            · rcases hk with rfl | hb | hb
              · exact .inl ((h2 _).2 (.inl rfl))
              · exact .inl ((h2 _).2 (.inr (.inl hb)))
              · rcases hF' k hb with hk | hk
                · exact .inl ((h2 _).2 (.inr (.inr hk)))
                · exact .inr (by omega)
        · rintro r w' ⟨rfl, hq⟩
          refine ⟨?_, ?_⟩
          · have : s.postN day xa xm n = ((s.ne + 1 : Nat) : Int) := by unfold St.postN; rw [if_pos he]; omega
            rw [he, this]
          · unfold St.afterPost
            rw [if_pos he]
            exact hq
      · exact hbad _ he rfl CR
end Go.Proofs.YtdljdffnnnoafaaGreat
namespace Go.Proofs.YtdljdffnnnoafaaGreat
open Go.RowKit Go.Annal Go.Sort
/-- What the history of an account answers. -/
theorem progHistBal {w : World} {B : Nat} {s : St} {ada : Option Addr} {ca : Nat} {pa : Nat → Nat} {nm : Nat → ByteArray} {kd : Nat → Int} {mm : Nat → Nat} {ff : Nat → Nat → It} {F : Nat → Prop} (h : ProgAt w B s ada ca pa nm kd mm ff F) (ho : s.Ok) (day known : Int) (hd : dayB day = true) (hkn : knownB known s.ne = true) (i : Nat) (hi : i < s.na) (W : World) (hW : Below w.heap.size w W) :
    Calls Tryz.prog 63 #[.pointer (some ⟨pa i, 2, none⟩), .int .i64 day, .int .i64 known] W fun r w' => r = .returned (.int .i64 (enS s.dy s.la s.lm (nm i) day s.ln known.toNat)) ∧ Below W.heap.size W w' := by
  obtain ⟨k1, k2⟩ := knownB_yes hkn
  have hfew := h.few ho i hi
  have hne := ho.ne
  have hit := h.it i hi
  obtain ⟨ad, cap, gr, cp, bl, g1, _, _⟩ := h.ac
  have hA := (g1 i hi).turn (S := fun _ => False) (Turn.of_below hW) (fun _ _ h => h)
  have e1 := known_its s.dy s.la s.lm (nm i) s.ln s.ne (mm i) (ff i) known hit k1 k2
  have := histBal_at (pa i) (nm i) (kd i) (mm i) (ff i) (ad i) (cap i) (gr i) (cp i) (bl i) W day known hA (by omega) (num_le s.dy s.la s.lm (nm i) s.ln s.ne (mm i) (ff i) hit ho.tw) hd
  rw [e1, ← enS_its] at this
  exact this
theorem progBal (B : Nat) (s : St) (Fp : Nat → Prop) (name : ByteArray) (day known : Int) (w : World) (h : ProgIs w B s Fp) (ho : s.Ok) :
    Calls Tryz.prog 38 #[.pointer (some ⟨B, 0, none⟩), .string name, .int .i64 day, .int .i64 known] w fun r w' => r = .returned (.tuple #[.int .i64 (s.bal name day known), .int .i64 (s.balE name day known)]) ∧ Below w.heap.size w w' := by
  obtain ⟨ada, ca, pa, nm, kd, mm, ff, F, h1, h2⟩ := h
  obtain ⟨ga, hat⟩ := h1.bk.at h1.ac
  have hna := ho.na
  have hth := congrFun h1.there name
  have hE : s.balE name day known = askErr (isAt nm s.na name) (dayB day) (knownB known s.ne) := by rw [hth]; rfl
  unfold St.bal
  rw [hE]
  refine Balance_any B ga ca s.na s.ne ada pa nm name day known _ w hat (by omega) (blk_cell' h1.bk.bk (o := 1) rfl) (fun hi hd hkn W hW => ?_)
  obtain ⟨g1, g2⟩ := isAt_eq hi
  have := progHistBal h1 ho day known hd hkn _ g1 W hW
  rw [g2] at this
  exact this
theorem progTrial (B : Nat) (s : St) (Fp : Nat → Prop) (day known : Int) (w : World) (h : ProgIs w B s Fp) (ho : s.Ok) :
    Calls Tryz.prog 40 #[.pointer (some ⟨B, 0, none⟩), .int .i64 day, .int .i64 known] w fun r w' => ∃ v, r = .returned (.tuple #[v, .int .i64 (s.trialE day known)]) ∧ w'.ownsRow w.heap.size 38 2 v (s.trial day known).length (cells2 (s.trial day known)) ∧ Below w.heap.size w w' := by
  obtain ⟨ada, ca, pa, nm, kd, mm, ff, F, h1, h2⟩ := h
  obtain ⟨ga, hat⟩ := h1.bk.at h1.ac
  have hna := ho.na
  by_cases he : s.trialE day known = 0
  · obtain ⟨g1, g2⟩ := viewE_zero he
    refine (Trial_ok B ga ca s.na s.ne ada pa nm (fun i => enS s.dy s.la s.lm (nm i) day s.ln known.toNat) day known w hat (by omega) (blk_cell' h1.bk.bk (o := 1) rfl) g1 g2 (fun i hi W hW => progHistBal h1 ho day known g1 g2 i hi W hW)).mono ?_
    rintro r w' ⟨v, rfl, hv, hb⟩
    refine ⟨v, by rw [he], ?_, hb⟩
    unfold St.trial
    rw [if_pos he]
    rw [h1.ns.trial (fun x => enS s.dy s.la s.lm x day s.ln known.toNat) _ (fun i _ => rfl)] at hv
    exact hv
  · refine (Trial_err B s.ne day known w (blk_cell' h1.bk.bk (o := 1) rfl) he).mono ?_
    rintro r w' ⟨rfl, hb⟩
    refine ⟨_, rfl, ?_, hb⟩
    unfold St.trial
    rw [if_neg he]
    exact ⟨rfl, .inl ⟨rfl, rfl⟩⟩
theorem progItems (B : Nat) (s : St) (Fp : Nat → Prop) (name : ByteArray) (d1 d2 known : Int) (w : World) (h : ProgIs w B s Fp) (ho : s.Ok) :
    Calls Tryz.prog 44 #[.pointer (some ⟨B, 0, none⟩), .string name, .int .i64 d1, .int .i64 d2, .int .i64 known] w fun r w' => ∃ v, r = .returned (.tuple #[v, .int .i64 (s.itemsE name d1 d2 known)]) ∧ w'.ownsRow w.heap.size 63 3 v (s.items name d1 d2 known).length (cells3 (s.items name d1 d2 known)) ∧ Below w.heap.size w w' := by
  obtain ⟨ada, ca, pa, nm, kd, mm, ff, F, h1, h2⟩ := h
  obtain ⟨ga, hat⟩ := h1.bk.at h1.ac
  have hna := ho.na
  have hne := ho.ne
  have hth := congrFun h1.there name
  have hE : s.itemsE name d1 d2 known = askErr (isAt nm s.na name) (dayB d1 && dayB d2) (knownB known s.ne) := by rw [hth]; rfl
  by_cases he : s.itemsE name d1 d2 known = 0
  · obtain ⟨g0, g1, g2⟩ := askErr_zero (hE ▸ he)
    obtain ⟨k1, k2⟩ := knownB_yes g2
    obtain ⟨hi, hnm⟩ := isAt_eq g0
    have hfew := h1.few ho _ hi
    have hit := h1.it _ hi
    have e1 := known_its s.dy s.la s.lm _ s.ln s.ne _ _ known hit k1 k2
    have hnum := num_le s.dy s.la s.lm _ s.ln s.ne _ _ hit ho.tw
    rw [hnm] at e1
    rw [Bool.and_eq_true] at g1
    obtain ⟨ad, cap, gr, cp, bl, q1, _, _⟩ := h1.ac
    refine (Items_ok B ga ca s.na s.ne ada pa nm name d1 d2 known w (fun v w' => w'.ownsRow w.heap.size 63 3 v (s.items name d1 d2 known).length (cells3 (s.items name d1 d2 known))) hat (by omega) (blk_cell' h1.bk.bk (o := 1) rfl) g0 (by rw [g1.1, g1.2]; rfl) g2 (fun W hW => ?_)).mono ?_
    · have hA := (q1 _ hi).turn (S := fun _ => False) (Turn.of_below hW) (fun _ _ h => h)
      refine (histItems_at _ _ _ _ _ _ _ _ _ _ W d1 d2 known hA (by omega) hnum g1.1 g1.2).mono ?_
      rintro r w' ⟨v, rfl, ⟨l', hp, hs, hv⟩, hb⟩
      refine ⟨v, rfl, ?_, hb⟩
      rw [e1] at hp
      have hsame := items_same s.dy s.la s.lm name d1 d2 s.ln known.toNat (fun k hk => ho.tw k (by omega)) l' hp hs
      unfold St.items
      rw [if_pos he, ← hsame]
      exact owns_le hv hW.size
    · rintro r w' ⟨v, rfl, hv, hb⟩
      exact ⟨v, by rw [he], hv, hb⟩
  · refine (Items_err B ga ca s.na s.ne ada pa nm name d1 d2 known w hat (by omega) (blk_cell' h1.bk.bk (o := 1) rfl) (hE ▸ he)).mono ?_
    rintro r w' ⟨rfl, hb⟩
    refine ⟨_, by rw [hE], ?_, hb⟩
    unfold St.items
    rw [if_neg he]
    exact ⟨rfl, .inl ⟨rfl, rfl⟩⟩
end Go.Proofs.YtdljdffnnnoafaaGreat
