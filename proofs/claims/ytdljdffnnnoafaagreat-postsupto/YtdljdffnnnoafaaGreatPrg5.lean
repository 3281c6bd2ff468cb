import Derived.Test.YtdljdffnnnoafaaGreatPrg3
import Derived.Test.YtdljdffnnnoafaaGreatPrg4
import Derived.Test.YtdljdffnnnoafaaGreatNam0
import Derived.Test.YtdljdffnnnoafaaGreatRef6
set_option linter.unusedVariables false
set_option linter.unusedSimpArgs false
namespace Go.Proofs.YtdljdffnnnoafaaGreat
open Go.RowKit Go.Annal Go.Sort
set_option maxHeartbeats 1000000 in
set_option maxRecDepth 100000 in
theorem OpenA_err (B ga ca na : Nat) (ada : Option Addr) (pa : Nat → Nat) (nm : Nat → ByteArray) (name : ByteArray) (kind : Int) (w : World) (h : BookAt w B ga ca na ada pa nm) (hna : na ≤ 1000) (hs : name.size ≤ 1000000000)
    (he : openE (isName name) (kindB kind) (isAt nm na name) (decide (10 ≤ na)) ≠ 0) :
    Calls Tryz.prog 11 #[.pointer (some ⟨B, 0, none⟩), .string name, .int .i64 kind] w fun r w' => r = .returned (.int .i64 (openE (isName name) (kindB kind) (isAt nm na name) (decide (10 ≤ na)))) ∧ Below w.heap.size w w' := by
  have C1 : Hid (type_of% (place_any B ga ca na ada pa nm name w h hna)) := place_any B ga ca na ada pa nm name w h hna
  have C2 : Hid (type_of% (fun W => right_any name W (by omega))) := fun W => right_any name W (by omega)
  have cA := h.cB
  clear h
  cases h1 : isName name
  · rw [h1] at C2
    clear h1 he
    generalize isAt nm na name = t at *
    generalize lessN nm na name = k at *
    go_enter Tryz.func11, Tryz.ntmps11
    go_wp2_with (first | (go_at_call 25; refine Calls.mono C1.out ?_; rintro e w1 ⟨rfl, hg1⟩) | (go_at_call 26; refine Calls.mono (C2.out _) ?_; rintro e w2 ⟨rfl, hg2⟩))
    go_ret
    exact ⟨rfl, (hg1.trans hg2).below⟩
  · rw [h1] at C2 he
    clear h1
    cases h2 : kindB kind
    · have k0 : (kind != 0) = true := by simp [kindB] at h2; simp; omega
      have k1 : (kind != 1) = true := by simp [kindB] at h2; simp; omega
      clear h2 he
      generalize isAt nm na name = t at *
      generalize lessN nm na name = k at *
      go_enter Tryz.func11, Tryz.ntmps11
      go_wp2_with (first | (go_at_call 25; refine Calls.mono C1.out ?_; rintro e w1 ⟨rfl, hg1⟩) | (go_at_call 26; refine Calls.mono (C2.out _) ?_; rintro e w2 ⟨rfl, hg2⟩))
      go_ret
      exact ⟨rfl, (hg1.trans hg2).below⟩
    · rw [h2] at he
      have hk : kind = 0 ∨ kind = 1 := by simpa [kindB] using h2
      clear h2
      cases h3 : isAt nm na name
      · rw [h3] at he C1
        have h4 : decide (10 ≤ na) = true := by
          cases h : decide (10 ≤ na)
          · rw [h] at he; exact absurd rfl he
          · rfl
        rw [h4]
        have hna' : (10 : Int) ≤ (na : Int) := by have : 10 ≤ na := by simpa using h4
                                                  omega
        clear h3 h4 he
        generalize lessN nm na name = k at *
        rcases hk with rfl | rfl
        · go_enter Tryz.func11, Tryz.ntmps11
          go_wp2_with (first | (go_at_call 25; refine Calls.mono C1.out ?_; rintro e w1 ⟨rfl, hg1⟩) | (go_at_call 26; refine Calls.mono (C2.out _) ?_; rintro e w2 ⟨rfl, hg2⟩; have cA2 := (hg1.trans hg2).cell' cA))
          go_ret
          exact ⟨rfl, (hg1.trans hg2).below⟩
        · go_enter Tryz.func11, Tryz.ntmps11
          go_wp2_with (first | (go_at_call 25; refine Calls.mono C1.out ?_; rintro e w1 ⟨rfl, hg1⟩) | (go_at_call 26; refine Calls.mono (C2.out _) ?_; rintro e w2 ⟨rfl, hg2⟩; have cA2 := (hg1.trans hg2).cell' cA))
          go_ret
          exact ⟨rfl, (hg1.trans hg2).below⟩
      · rw [h3] at C1
        clear h3 he
        generalize lessN nm na name = k at *
        rcases hk with rfl | rfl
        · go_enter Tryz.func11, Tryz.ntmps11
          go_wp2_with (first | (go_at_call 25; refine Calls.mono C1.out ?_; rintro e w1 ⟨rfl, hg1⟩) | (go_at_call 26; refine Calls.mono (C2.out _) ?_; rintro e w2 ⟨rfl, hg2⟩))
          go_ret
          exact ⟨rfl, (hg1.trans hg2).below⟩
        · go_enter Tryz.func11, Tryz.ntmps11
          go_wp2_with (first | (go_at_call 25; refine Calls.mono C1.out ?_; rintro e w1 ⟨rfl, hg1⟩) | (go_at_call 26; refine Calls.mono (C2.out _) ?_; rintro e w2 ⟨rfl, hg2⟩))
          go_ret
          exact ⟨rfl, (hg1.trans hg2).below⟩
end Go.Proofs.YtdljdffnnnoafaaGreat
namespace Go.Annal
def sj (p i : Nat) : Nat := if i < p then i else i - 1
theorem sh_at {α : Type} (p : Nat) (v : α) (f : Nat → α) : sh p v f p = v := by simp [sh]
theorem sh_ne {α : Type} (p : Nat) (v : α) (f : Nat → α) {i : Nat} (h : i ≠ p) : sh p v f i = f (sj p i) := by
  unfold sh sj
  by_cases h1 : i < p
  · rw [if_pos h1, if_pos h1]
  · rw [if_neg h1, if_neg h1, if_neg h]
theorem sj_lt {p i n : Nat} (hp : p ≤ n) (hi : i < n + 1) (h : i ≠ p) : sj p i < n := by unfold sj; split <;> omega
theorem sj_inj {p i j : Nat} (h : i ≠ p) (h' : j ≠ p) (hij : i ≠ j) : sj p i ≠ sj p j := by unfold sj; split <;> split <;> omega
theorem sj_onto {p n j : Nat} (_hp : p ≤ n) (hj : j < n) : ∃ i, i < n + 1 ∧ i ≠ p ∧ sj p i = j := by
  by_cases h : j < p
  · exact ⟨j, by omega, by omega, by simp [sj, h]⟩
  · exact ⟨j + 1, by omega, by omega, by unfold sj; rw [if_neg (by omega)]; omega⟩
end Go.Annal
namespace Go.Proofs.YtdljdffnnnoafaaGreat
open Go.RowKit Go.Annal Go.Sort
/-- A new account, which has nothing. -/
theorem hist_new {w : World} {A : Nat} {name : ByteArray} {kind : Int} (h : w.heap[A]? = some (.cells #[.string name, .int .i64 kind, .slice none 0 0] 80 (0, 0))) : HistAt w A name kind 0 (fun _ => (0, 0, 0)) none 0 (fun _ => 0) (fun _ => 0) (fun _ => []) :=
  ⟨h, ⟨rfl, .inl ⟨rfl, rfl⟩⟩, fun i hi => by omega, fun i hi => by omega, fun i hi => by omega, fun i hi => by omega, fun i hi => by omega⟩
theorem accs_open {w : World} {na : Nat} {pa : Nat → Nat} {nm : Nat → ByteArray} {kd : Nat → Int} {mm : Nat → Nat} {ff : Nat → Nat → It} {F : Nat → Prop} (h : Accs w na pa nm kd mm ff F) {A p : Nat} {name : ByteArray} {kind : Int} (hp : p ≤ na) (hA : w.heap[A]? = some (.cells #[.string name, .int .i64 kind, .slice none 0 0] 80 (0, 0))) (hF : ¬ F A) :
    Accs w (na + 1) (sh p A pa) (sh p name nm) (sh p kind kd) (sh p 0 mm) (sh p (fun _ => (0, 0, 0)) ff) (fun k => F k ∨ k = A) := by
  obtain ⟨ad, cap, gr, cp, bl, h1, h2, h3⟩ := h
  have hfp : ∀ k, foot (sh p A pa p) (sh p none ad p) (sh p 0 mm p) (sh p 0 cap p) (sh p (fun _ => 0) gr p) k ↔ k = A := fun k => by
    simp only [sh_at]
    unfold foot
    constructor
    · rintro (h | h | ⟨i, hi, _⟩)
      · exact h
      · cases h
      · omega
    · exact .inl
  have hfo : ∀ i k, i ≠ p → (foot (sh p A pa i) (sh p none ad i) (sh p 0 mm i) (sh p 0 cap i) (sh p (fun _ => 0) gr i) k ↔ foot (pa (sj p i)) (ad (sj p i)) (mm (sj p i)) (cap (sj p i)) (gr (sj p i)) k) := fun i k hi => by simp only [sh_ne _ _ _ hi]
  refine ⟨sh p none ad, sh p 0 cap, sh p (fun _ => 0) gr, sh p (fun _ => 0) cp, sh p (fun _ => []) bl, fun i hi => ?_, fun i j k hi hj hij => ?_, fun k => ?_⟩
  · by_cases e : i = p
    · subst e
      simp only [sh_at]
      exact hist_new hA
    · simp only [sh_ne _ _ _ e]
      exact h1 _ (sj_lt hp hi e)
  · by_cases e : i = p
    · subst e
      rw [hfp]
      rintro rfl
      rw [hfo j _ (fun e => hij e.symm)]
      exact fun hk => hF ((h3 _).2 ⟨_, sj_lt hp hj (fun e => hij e.symm), hk⟩)
    · rw [hfo i k e]
      by_cases e' : j = p
      · subst e'
        rw [hfp]
        rintro hk rfl
        exact hF ((h3 _).2 ⟨_, sj_lt hp hi e, hk⟩)
      · rw [hfo j k e']
        exact h2 _ _ k (sj_lt hp hi e) (sj_lt hp hj e') (sj_inj e e' hij)
  · constructor
    · rintro (hk | rfl)
      · obtain ⟨j, hj, hk⟩ := (h3 k).1 hk
        obtain ⟨i, hi, e, rfl⟩ := sj_onto hp hj
        exact ⟨i, hi, (hfo i k e).2 hk⟩
      · exact ⟨p, by omega, (hfp _).2 rfl⟩
    · rintro ⟨i, hi, hk⟩
      by_cases e : i = p
      · subst e; exact .inr ((hfp k).1 hk)
      · exact .inl ((h3 k).2 ⟨_, sj_lt hp hi e, (hfo i k e).1 hk⟩)
theorem ptrs_open (pa : Nat → Nat) (na p A : Nat) (hp : p ≤ na) : ptrs (sh p A pa) (na + 1) = (ptrs pa na).take p ++ .pointer (some ⟨A, 0, none⟩) :: (ptrs pa na).drop p := by
  unfold ptrs
  have h := sh_map p A pa na hp
  have e1 : (List.range (na + 1)).map (fun i => Value.pointer (some ⟨sh p A pa i, 0, none⟩)) = ((List.range (na + 1)).map (sh p A pa)).map (fun a => Value.pointer (some ⟨a, 0, none⟩)) := by rw [List.map_map]; rfl
  have e2 : (List.range na).map (fun i => Value.pointer (some ⟨pa i, 0, none⟩)) = ((List.range na).map pa).map (fun a => Value.pointer (some ⟨a, 0, none⟩)) := by rw [List.map_map]; rfl
  rw [e1, h, e2, List.map_append, List.map_cons, List.map_take, List.map_drop]
theorem ptrs_one (pa : Nat → Nat) (na : Nat) : ∀ u ∈ ptrs pa na, u.oneCell' = true := by
  intro u hu
  obtain ⟨i, _, rfl⟩ := List.mem_map.1 hu
  rfl
end Go.Proofs.YtdljdffnnnoafaaGreat
namespace Go.Proofs.YtdljdffnnnoafaaGreat
open Go.RowKit Go.Annal Go.Sort
set_option maxHeartbeats 1000000 in
set_option maxRecDepth 100000 in
theorem OpenA_ok (B ca na ne : Nat) (ul : Int) (ada : Option Addr) (pa : Nat → Nat) (nm : Nat → ByteArray) (kd : Nat → Int) (mm : Nat → Nat) (ff : Nat → Nat → It) (F : Nat → Prop) (name : ByteArray) (kind : Int) (w : World) (h : BookIs w B ca na ne ul ada pa nm) (hA : Accs w na pa nm kd mm ff F) (hR : Rise (sh (lessN nm na name) name nm) (na + 1)) (hna : na < 10) (hs : name.size ≤ 1000000000)
    (h1 : isName name = true) (h2 : kind = 0 ∨ kind = 1) (h3 : isAt nm na name = false) :
    Calls Tryz.prog 11 #[.pointer (some ⟨B, 0, none⟩), .string name, .int .i64 kind] w fun r w' => r = .returned (.int .i64 0) ∧ ∃ A g cap F', w.heap.size ≤ A ∧
      BookIs w' B cap (na + 1) ne ul (some ⟨g, 0, none⟩) (sh (lessN nm na name) A pa) (sh (lessN nm na name) name nm) ∧ Accs w' (na + 1) (sh (lessN nm na name) A pa) (sh (lessN nm na name) name nm) (sh (lessN nm na name) kind kd) (sh (lessN nm na name) 0 mm) (sh (lessN nm na name) (fun _ => (0, 0, 0)) ff) F' ∧
      Turn (fun k => k = B ∨ (Value.slice ada na ca).ownBlock = some k) w w' ∧ (∀ k, F' k → F k ∨ w.heap.size ≤ k) ∧ ((Value.slice ada na ca).ownBlock = some g ∨ w.heap.size ≤ g) := by
  obtain ⟨ga, hat⟩ := h.at hA
  have C1 : Hid (type_of% (place_any B ga ca na ada pa nm name w hat (by omega))) := place_any B ga ca na ada pa nm name w hat (by omega)
  have C2 : Hid (type_of% (fun W => right_any name W (by omega))) := fun W => right_any name W (by omega)
  have C3 : Hid (type_of% (fun W => clone_any name W hs)) := fun W => clone_any name W hs
  have hpl := lessN_le nm na name
  rw [h3] at C1
  rw [h1] at C2
  have cA := hat.cB
  have hRB := blk_lt h.bk
  have f0 := blk_free h.bk 0
  have HBK : Hid (type_of% h) := h
  have HAC : Hid (type_of% hA) := hA
  have HR : Hid (type_of% hR) := hR
  have hna' : ¬ (10 : Int) ≤ (na : Int) := by omega
  generalize lessN nm na name = p at *
  clear hat h hA hR h1 h3
  -- behind the account and the argument's block
  have HI : Hid (∀ W : World, Below w.heap.size w W → ∀ W5, W5 = (W.alloc (.cells #[.string name, .int .i64 kind, .slice none 0 0] 80)).alloc (.cells #[.pointer (some ⟨W.heap.size, 0, none⟩)] 74) →
      Calls Tryz.prog 28 #[.slice ada na ca, .int .i64 p, .slice (some ⟨W.heap.size + 1, 0, none⟩) 1 1] W5 fun r w' => ∃ g' cap', r = .returned (.slice (some ⟨g', 0, none⟩) (na + 1) cap') ∧
        w'.cell? ⟨B, 0, none⟩ = some (.slice ada na ca) ∧ w'.frozen? ⟨B, 0, none⟩ = false ∧ ∃ F', w.heap.size ≤ W.heap.size ∧
        (∀ w'', w'' = w'.setCell ⟨B, 0, none⟩ (.slice (some ⟨g', 0, none⟩) (na + 1) cap') → BookIs w'' B cap' (na + 1) ne ul (some ⟨g', 0, none⟩) (sh p W.heap.size pa) (sh p name nm) ∧ Accs w'' (na + 1) (sh p W.heap.size pa) (sh p name nm) (sh p kind kd) (sh p 0 mm) (sh p (fun _ => (0, 0, 0)) ff) F' ∧
        Turn (fun k => k = B ∨ (Value.slice ada na ca).ownBlock = some k) w w'') ∧ (∀ k, F' k → F k ∨ w.heap.size ≤ k) ∧ ((Value.slice ada na ca).ownBlock = some g' ∨ w.heap.size ≤ g')) := by
    intro W hb W5 hW5
    have hT5 : Turn (fun _ => False) w W5 := by rw [hW5]; exact ((Turn.of_below hb).alloc _).alloc _
    have h5 := HBK.out.turn hT5 (fun h => h) (fun _ _ h => h)
    have hA5 := HAC.out.turn hT5 (fun _ _ h => h)
    have hbs := hb.size
    have hv : W5.heap[W.heap.size + 1]? = some (.cells #[.pointer (some ⟨W.heap.size, 0, none⟩)] 74 (0, 0)) := by
      have := heap_alloc_new (W.alloc (.cells #[.string name, .int .i64 kind, .slice none 0 0] 80)) (.cells #[.pointer (some ⟨W.heap.size, 0, none⟩)] 74)
      rw [World.size_alloc] at this
      rw [hW5]; exact this
    have hA4 : W5.heap[W.heap.size]? = some (.cells #[.string name, .int .i64 kind, .slice none 0 0] 80 (0, 0)) := by
      rw [hW5]; exact Grew.blk ((Grew.refl _).alloc _) (heap_alloc_new W _)
    have hown0 := HBK.out.ac
    have hvb : (Value.slice ada na ca).ownBlock ≠ some (W.heap.size + 1) := fun e => by have := (hown0.lt _ e).2; omega
    refine (insert_any (.slice ada na ca) ada ca na p (W.heap.size + 1) (ptrs pa na) _ W5 rfl h5.ac hpl (by omega) hv hvb rfl (ptrs_one pa na)).mono ?_
    rintro r w' ⟨g', cap', rfl, hown, hT, hg⟩
    have hoB : (Value.slice ada na ca).ownBlock ≠ some B := fun e => by
      obtain ⟨c, fz, hc⟩ := owns_kind h5.ac B e
      rw [h5.bk] at hc; simp at hc
    have bk' := hT.blk h5.bk hoB
    have hoA : (Value.slice ada na ca).ownBlock ≠ some W.heap.size := fun e => by have := (hown0.lt _ e).2; omega
    have hA6 := hT.blk hA4 hoA
    have hgB : (Value.slice (some ⟨g', 0, none⟩) (na + 1) cap').ownBlock ≠ some B := fun e => by
      obtain ⟨c, fz, hc⟩ := owns_kind hown B e
      rw [bk'] at hc; simp at hc
    have hFn : ∀ {k : Nat} {cs : Array Value} {t : TypeId} {fz : Nat × Nat}, F k → W5.heap[k]? = some (.cells cs t fz) → t = 80 ∨ t = 139 ∨ t = 141 := by
      intro k cs t fz hk hc
      obtain ⟨cs', t', hc', ht'⟩ := hA5.kind hk
      rw [hc] at hc'; simp at hc'
      rw [hc'.2.1]; exact ht'
    have hFo : ∀ k, F k → (Value.slice ada na ca).ownBlock ≠ some k := fun k hk e => by
      obtain ⟨c, fz, hc⟩ := owns_kind h5.ac k e
      have := hFn hk hc
      revert this; decide
    have hFB : ¬ F B := fun hk => by
      have := hFn hk h5.bk
      revert this; decide
    have hFA : ¬ F W.heap.size := fun hk => by
      obtain ⟨c, t, hc, _⟩ := HAC.out.kind hk
      have := blk_lt hc; omega
    refine ⟨g', cap', rfl, blk_cell' bk' (o := 0) rfl, blk_free bk' 0, fun k => F k ∨ k = W.heap.size, hbs, ?_, ?_, ?_⟩
    · rintro w'' rfl
      have hset := blk_set bk' 0 (.slice (some ⟨g', 0, none⟩) (na + 1) cap')
      have hAB : W.heap.size ≠ B := by omega
      have hT6 : Turn (fun k => k = B ∨ (Value.slice ada na ca).ownBlock = some k) W5 (w'.setCell ⟨B, 0, none⟩ (.slice (some ⟨g', 0, none⟩) (na + 1) cap')) := (hT.mono (fun k _ hk => .inr hk)).set _ _ (fun _ => .inl rfl)
      refine ⟨⟨hset, ?_, HR.out.up⟩, ?_, ?_⟩
      · rw [ptrs_open pa na p W.heap.size hpl]
        exact ownsRow_setCell_other hown (a := ⟨B, 0, none⟩) hgB _
      · exact accs_open (hA5.turn hT6 (fun k hk hs => hs.elim (fun e => hFB (e ▸ hk)) (fun e => hFo k hk e))) hpl (hT6.blk hA4 (fun hs => hs.elim (fun e => hAB e) (fun e => hoA e))) hFA
      · exact (hT5.mono (fun _ _ h => h.elim)).trans hT6
    · rintro k (hk | rfl)
      · exact .inl hk
      · exact .inr hbs
    · rcases hg with hg | hg
      · exact .inl hg
      · have := hT5.size
        exact .inr (by omega)
  have k0 : (kind != 0 && kind != 1) = false := by rcases h2 with rfl | rfl <;> rfl
  rcases h2 with rfl | rfl
  · go_enter Tryz.func11, Tryz.ntmps11
    go_wp2_with (first
      | (go_at_call 25; refine Calls.mono C1.out ?_; rintro e w1 ⟨rfl, hg1⟩)
      | (go_at_call 26; refine Calls.mono (C2.out _) ?_; rintro e w2 ⟨rfl, hg2⟩; have cA2 := (hg1.trans hg2).cell' cA)
      | (go_at_call 27; refine Calls.mono (C3.out _) ?_; rintro e w3 ⟨rfl, hg3⟩; have hb3 : Below w.heap.size w w3 := (hg1.trans hg2).below.trans (hg3.mono (hg1.trans hg2).size); have cA4 : (w3.alloc (.cells #[.string name, .int .i64 0, .slice none 0 0] 80)).cell? ⟨B, 0, none⟩ = some (.slice ada na ca) := (Grew.cell' ((Grew.refl w3).alloc _) (cell_later hb3 cA)))
      | (go_at_call 28; refine Calls.mono (HI.out _ hb3 _ rfl) ?_; rintro e w5 ⟨g', cap', rfl, c5, f5, F', hsz, hfin, hF', hg'⟩))
    go_ret
    obtain ⟨q1, q2, q3⟩ := hfin _ rfl
    exact ⟨rfl, _, _, _, F', hsz, q1, q2, q3, hF', hg'⟩
  · go_enter Tryz.func11, Tryz.ntmps11
    go_wp2_with (first
      | (go_at_call 25; refine Calls.mono C1.out ?_; rintro e w1 ⟨rfl, hg1⟩)
      | (go_at_call 26; refine Calls.mono (C2.out _) ?_; rintro e w2 ⟨rfl, hg2⟩; have cA2 := (hg1.trans hg2).cell' cA)
      | (go_at_call 27; refine Calls.mono (C3.out _) ?_; rintro e w3 ⟨rfl, hg3⟩; have hb3 : Below w.heap.size w w3 := (hg1.trans hg2).below.trans (hg3.mono (hg1.trans hg2).size); have cA4 : (w3.alloc (.cells #[.string name, .int .i64 1, .slice none 0 0] 80)).cell? ⟨B, 0, none⟩ = some (.slice ada na ca) := (Grew.cell' ((Grew.refl w3).alloc _) (cell_later hb3 cA)))
      | (go_at_call 28; refine Calls.mono (HI.out _ hb3 _ rfl) ?_; rintro e w5 ⟨g', cap', rfl, c5, f5, F', hsz, hfin, hF', hg'⟩))
    go_ret
    obtain ⟨q1, q2, q3⟩ := hfin _ rfl
    exact ⟨rfl, _, _, _, F', hsz, q1, q2, q3, hF', hg'⟩
end Go.Proofs.YtdljdffnnnoafaaGreat
