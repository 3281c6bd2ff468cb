import Derived.Test.YtjnmoddcodnadaaGreatG10
import Derived.Test.YtjnmoddcodnadaaGreatG00
import Derived.Test.YtjnmoddcodnadaaGreatG07
import Derived.Test.YtjnmoddcodnadaaGreatG08
import Derived.Test.YtjnmoddcodnadaaGreatG09
set_option linter.unusedVariables false
set_option linter.unusedSimpArgs false
namespace Go.Proofs.YtjnmoddcodnadaaGreat
open Go.RowKit Go.Annal
end Go.Proofs.YtjnmoddcodnadaaGreat
namespace Go.Proofs.YtjnmoddcodnadaaGreat
open Go.RowKit Go.Annal
end Go.Proofs.YtjnmoddcodnadaaGreat
namespace Go.Proofs.YtjnmoddcodnadaaGreat
open Go.RowKit Go.Annal
end Go.Proofs.YtjnmoddcodnadaaGreat
namespace Go.Proofs.YtjnmoddcodnadaaGreat
open Go.RowKit Go.Annal
end Go.Proofs.YtjnmoddcodnadaaGreat
namespace Go.Proofs.YtjnmoddcodnadaaGreat
open Go.RowKit Go.Annal
end Go.Proofs.YtjnmoddcodnadaaGreat
namespace Go.Annal
def kindB (k : Int) : Bool := decide (k = 0) || decide (k = 1)
def openE (name kind there full : Bool) : Int := if !name then 1 else if !kind then 2 else if there then 3 else if full then 4 else 0
end Go.Annal
namespace Go.Proofs.YtjnmoddcodnadaaGreat
open Go.RowKit Go.Annal
theorem sz_arr (a : Array UInt8) : (⟨a⟩ : ByteArray).size = a.size := rfl

end Go.Proofs.YtjnmoddcodnadaaGreat
namespace Go.Proofs.YtjnmoddcodnadaaGreat
open Go.RowKit Go.Annal Go.Sort
set_option maxHeartbeats 1000000 in
set_option maxRecDepth 100000 in
theorem OpenA_err (B ga ca na : Nat) (ada : Option Addr) (pa : Nat → Nat) (nm : Nat → ByteArray) (name : ByteArray) (kind : Int) (w : World) (h : BookAt w B ga ca na ada pa nm) (hna : na ≤ 1000) (hs : name.size ≤ 1000000000)
    (he : openE (isName name) (kindB kind) (isAt nm na name) (decide (10 ≤ na)) ≠ 0) :
    Calls Tryz.prog 25 #[.pointer (some ⟨B, 0, none⟩), .string name, .int .i64 kind] w fun r w' => r = .returned (.int .i64 (openE (isName name) (kindB kind) (isAt nm na name) (decide (10 ≤ na)))) ∧ Below w.heap.size w w' := by
  have C1 : Hid (type_of% (place_any B ga ca na ada pa nm name w h hna)) := place_any B ga ca na ada pa nm name w h hna
  have C2 : Hid (type_of% (fun W => right_any name W (by omega))) := fun W => right_any name W (by omega)
  have cA := h.cB
  clear h
  cases h1 : isName name
  · rw [h1] at C2
    clear h1 he
    generalize isAt nm na name = t at *
    generalize lessN nm na name = k at *
    go_enter Tryz.func25, Tryz.ntmps25
    go_wp2_with (first | (go_at_call 40; refine Calls.mono C1.out ?_; rintro e w1 ⟨rfl, hg1⟩) | (go_at_call 41; refine Calls.mono (C2.out _) ?_; rintro e w2 ⟨rfl, hg2⟩))
    go_ret
    exact ⟨rfl, (hg1.trans hg2).below⟩
  · rw [h1] at C2 he
    clear h1
    cases h2 : kindB kind
    · have k0 : (kind != 0) = true := by simp [kindB] at h2; simp; omega
      have k1 : (kind != 1) = true := by simp [kindB] at h2; simp; omega
      clear h2 he
      generalize isAt nm na name = t at *
      generalize lessN nm na name = k at *
      go_enter Tryz.func25, Tryz.ntmps25
      go_wp2_with (first | (go_at_call 40; refine Calls.mono C1.out ?_; rintro e w1 ⟨rfl, hg1⟩) | (go_at_call 41; refine Calls.mono (C2.out _) ?_; rintro e w2 ⟨rfl, hg2⟩))
      go_ret
      exact ⟨rfl, (hg1.trans hg2).below⟩
    · rw [h2] at he
      have hk : kind = 0 ∨ kind = 1 := by simpa [kindB] using h2
      clear h2
      cases h3 : isAt nm na name
      · rw [h3] at he C1
        have h4 : decide (10 ≤ na) = true := by
          cases h : decide (10 ≤ na)
          · rw [h] at he; exact absurd rfl he
          · rfl
        rw [h4]
        have hna' : (10 : Int) ≤ (na : Int) := by have : 10 ≤ na := by simpa using h4
                                                  omega
        clear h3 h4 he
        generalize lessN nm na name = k at *
        rcases hk with rfl | rfl
        · go_enter Tryz.func25, Tryz.ntmps25
          go_wp2_with (first | (go_at_call 40; refine Calls.mono C1.out ?_; rintro e w1 ⟨rfl, hg1⟩) | (go_at_call 41; refine Calls.mono (C2.out _) ?_; rintro e w2 ⟨rfl, hg2⟩; have cA2 := (hg1.trans hg2).cell' cA))
          go_ret
          exact ⟨rfl, (hg1.trans hg2).below⟩
        · go_enter Tryz.func25, Tryz.ntmps25
          go_wp2_with (first | (go_at_call 40; refine Calls.mono C1.out ?_; rintro e w1 ⟨rfl, hg1⟩) | (go_at_call 41; refine Calls.mono (C2.out _) ?_; rintro e w2 ⟨rfl, hg2⟩; have cA2 := (hg1.trans hg2).cell' cA))
          go_ret
          exact ⟨rfl, (hg1.trans hg2).below⟩
      · rw [h3] at C1
        clear h3 he
        generalize lessN nm na name = k at *
        rcases hk with rfl | rfl
        · go_enter Tryz.func25, Tryz.ntmps25
          go_wp2_with (first | (go_at_call 40; refine Calls.mono C1.out ?_; rintro e w1 ⟨rfl, hg1⟩) | (go_at_call 41; refine Calls.mono (C2.out _) ?_; rintro e w2 ⟨rfl, hg2⟩))
          go_ret
          exact ⟨rfl, (hg1.trans hg2).below⟩
        · go_enter Tryz.func25, Tryz.ntmps25
          go_wp2_with (first | (go_at_call 40; refine Calls.mono C1.out ?_; rintro e w1 ⟨rfl, hg1⟩) | (go_at_call 41; refine Calls.mono (C2.out _) ?_; rintro e w2 ⟨rfl, hg2⟩))
          go_ret
          exact ⟨rfl, (hg1.trans hg2).below⟩
end Go.Proofs.YtjnmoddcodnadaaGreat
namespace Go.Annal
def sj (p i : Nat) : Nat := if i < p then i else i - 1
theorem sh_at {α : Type} (p : Nat) (v : α) (f : Nat → α) : sh p v f p = v := by simp [sh]
theorem sh_ne {α : Type} (p : Nat) (v : α) (f : Nat → α) {i : Nat} (h : i ≠ p) : sh p v f i = f (sj p i) := by
  unfold sh sj
  by_cases h1 : i < p
  · rw [if_pos h1, if_pos h1]
  · rw [if_neg h1, if_neg h1, if_neg h]
theorem sj_lt {p i n : Nat} (hp : p ≤ n) (hi : i < n + 1) (h : i ≠ p) : sj p i < n := by unfold sj; split <;> omega
theorem sj_inj {p i j : Nat} (h : i ≠ p) (h' : j ≠ p) (hij : i ≠ j) : sj p i ≠ sj p j := by unfold sj; split <;> split <;> omega
theorem sj_onto {p n j : Nat} (_hp : p ≤ n) (hj : j < n) : ∃ i, i < n + 1 ∧ i ≠ p ∧ sj p i = j := by
  by_cases h : j < p
  · exact ⟨j, by omega, by omega, by simp [sj, h]⟩
  · exact ⟨j + 1, by omega, by omega, by unfold sj; rw [if_neg (by omega)]; omega⟩
end Go.Annal
namespace Go.Proofs.YtjnmoddcodnadaaGreat
open Go.RowKit Go.Annal Go.Sort
/-- A new account, which has nothing. -/
theorem hist_new {w : World} {A : Nat} {name : ByteArray} {kind : Int} (h : w.heap[A]? = some (.cells #[.string name, .int .i64 kind, .slice none 0 0] 78 (0, 0))) : HistAt w A name kind 0 (fun _ => (0, 0, 0)) none 0 (fun _ => 0) (fun _ => 0) (fun _ => []) :=
  ⟨h, ⟨rfl, .inl ⟨rfl, rfl⟩⟩, fun i hi => by omega, fun i hi => by omega, fun i hi => by omega, fun i hi => by omega, fun i hi => by omega⟩
theorem accs_open {w : World} {na : Nat} {pa : Nat → Nat} {nm : Nat → ByteArray} {kd : Nat → Int} {mm : Nat → Nat} {ff : Nat → Nat → It} {F : Nat → Prop} (h : Accs w na pa nm kd mm ff F) {A p : Nat} {name : ByteArray} {kind : Int} (hp : p ≤ na) (hA : w.heap[A]? = some (.cells #[.string name, .int .i64 kind, .slice none 0 0] 78 (0, 0))) (hF : ¬ F A) :
    Accs w (na + 1) (sh p A pa) (sh p name nm) (sh p kind kd) (sh p 0 mm) (sh p (fun _ => (0, 0, 0)) ff) (fun k => F k ∨ k = A) := by
  obtain ⟨ad, cap, gr, cp, bl, h1, h2, h3⟩ := h
  have hfp : ∀ k, foot (sh p A pa p) (sh p none ad p) (sh p 0 mm p) (sh p 0 cap p) (sh p (fun _ => 0) gr p) k ↔ k = A := fun k => by
    simp only [sh_at]
    unfold foot
    constructor
    · rintro (h | h | ⟨i, hi, _⟩)
      · exact h
      · cases h
      · omega
    · exact .inl
  have hfo : ∀ i k, i ≠ p → (foot (sh p A pa i) (sh p none ad i) (sh p 0 mm i) (sh p 0 cap i) (sh p (fun _ => 0) gr i) k ↔ foot (pa (sj p i)) (ad (sj p i)) (mm (sj p i)) (cap (sj p i)) (gr (sj p i)) k) := fun i k hi => by simp only [sh_ne _ _ _ hi]
  refine ⟨sh p none ad, sh p 0 cap, sh p (fun _ => 0) gr, sh p (fun _ => 0) cp, sh p (fun _ => []) bl, fun i hi => ?_, fun i j k hi hj hij => ?_, fun k => ?_⟩
  · by_cases e : i = p
    · subst e
      simp only [sh_at]
      exact hist_new hA
    · simp only [sh_ne _ _ _ e]
      exact h1 _ (sj_lt hp hi e)
  · by_cases e : i = p
    · subst e
      rw [hfp]
      rintro rfl
      rw [hfo j _ (fun e => hij e.symm)]
      exact fun hk => hF ((h3 _).2 ⟨_, sj_lt hp hj (fun e => hij e.symm), hk⟩)
    · rw [hfo i k e]
      by_cases e' : j = p
      · subst e'
        rw [hfp]
        rintro hk rfl
        exact hF ((h3 _).2 ⟨_, sj_lt hp hi e, hk⟩)
      · rw [hfo j k e']
        exact h2 _ _ k (sj_lt hp hi e) (sj_lt hp hj e') (sj_inj e e' hij)
  · constructor
    · rintro (hk | rfl)
      · obtain ⟨j, hj, hk⟩ := (h3 k).1 hk
        obtain ⟨i, hi, e, rfl⟩ := sj_onto hp hj
        exact ⟨i, hi, (hfo i k e).2 hk⟩
      · exact ⟨p, by omega, (hfp _).2 rfl⟩
    · rintro ⟨i, hi, hk⟩
      by_cases e : i = p
      · subst e; exact .inr ((hfp k).1 hk)
      · exact .inl ((h3 k).2 ⟨_, sj_lt hp hi e, (hfo i k e).1 hk⟩)
theorem ptrs_open (pa : Nat → Nat) (na p A : Nat) (hp : p ≤ na) : ptrs (sh p A pa) (na + 1) = (ptrs pa na).take p ++ .pointer (some ⟨A, 0, none⟩) :: (ptrs pa na).drop p := by
  unfold ptrs
  have h := sh_map p A pa na hp
  have e1 : (List.range (na + 1)).map (fun i => Value.pointer (some ⟨sh p A pa i, 0, none⟩)) = ((List.range (na + 1)).map (sh p A pa)).map (fun a => Value.pointer (some ⟨a, 0, none⟩)) := by rw [List.map_map]; rfl
  have e2 : (List.range na).map (fun i => Value.pointer (some ⟨pa i, 0, none⟩)) = ((List.range na).map pa).map (fun a => Value.pointer (some ⟨a, 0, none⟩)) := by rw [List.map_map]; rfl
  rw [e1, h, e2, List.map_append, List.map_cons, List.map_take, List.map_drop]
theorem ptrs_one (pa : Nat → Nat) (na : Nat) : ∀ u ∈ ptrs pa na, u.oneCell' = true := by
  intro u hu
  obtain ⟨i, _, rfl⟩ := List.mem_map.1 hu
  rfl
end Go.Proofs.YtjnmoddcodnadaaGreat
