import Derived.Test.YtjnmoddcodnadaaGreatDoorG38
import Derived.KernelRfl
set_option linter.unusedVariables false
set_option linter.unusedSimpArgs false
namespace Go.Annal
open Go.RowKit Go.Proofs.YtjnmoddcodnadaaGreatDoor
/-- What Read answers. -/
def readL : St → Nat → List ByteArray → Option St × Nat × Int
  | s, _, [] => (some s, 0, 0)
  | s, k, x :: r => if (redoF s x).1 = 0 then readL (redoF s x).2 (k + 1) r else (none, k + 1, (redoF s x).1)
theorem readL_ok : ∀ (l : List ByteArray) (s t : St) (k : Nat), runL s l = some t → readL s k l = (some t, 0, 0)
  | [], s, t, k, h => by cases h; rfl
  | x :: r, s, t, k, h => by
    unfold runL at h
    unfold readL
    split at h
    · rename_i e; rw [if_pos e]; exact readL_ok r _ t _ h
    · cases h
theorem readL_no : ∀ (p : List ByteArray) (x : ByteArray) (q : List ByteArray) (s t : St) (k : Nat), runL s p = some t → (redoF t x).1 ≠ 0 → readL s k (p ++ x :: q) = (none, k + p.length + 1, (redoF t x).1)
  | [], x, q, s, t, k, h, hx => by
    cases h
    show readL s k (x :: q) = _
    unfold readL
    rw [if_neg hx]; rfl
  | y :: r, x, q, s, t, k, h, hx => by
    unfold runL at h
    show readL s k (y :: (r ++ x :: q)) = _
    unfold readL
    split at h
    · rename_i e
      rw [if_pos e, readL_no r x q _ t _ h hx]
      simp; omega
    · cases h
def readF (text : ByteArray) : Option St × Nat × Int := readL St.new 0 (lns text)
abbrev T1 : ByteArray := ⟨#[111, 32, 99, 97, 115, 104, 32, 48, 10, 111, 32, 114, 101, 110, 116, 32, 49, 10, 112, 32, 53, 32, 99, 97, 115, 104, 32, 45, 51, 48, 32, 114, 101, 110, 116, 32, 51, 48, 10, 114, 32, 49, 10]⟩
abbrev T2 : ByteArray := ⟨#[108, 32, 55, 10, 108, 32, 55, 10]⟩
theorem T2_read : (readF T2).2 = (2, 11) := by kernel_rfl
theorem T1_read : (readF T1).1.isSome = true := by kernel_rfl
end Go.Annal
namespace Go.Proofs.YtjnmoddcodnadaaGreatDoor
open Go.RowKit Go.Annal Go.Sort Go.Shelf
/-- Read: the answer, and the book if there is one. -/
theorem read_F (text : ByteArray) (w : World) (ht : Tabs w) (hx : text.size < 1000000000) :
    Calls Tryz.prog 12 #[.string text] w fun r w' => Below w.heap.size w w' ∧
      ((∃ s Fp, readF text = (some s, 0, 0) ∧ s.Ok ∧ s.tx = text ∧ runL St.new (lns text) = some s ∧ r = .returned (.tuple #[.pointer (some ⟨w.heap.size + 3, 0, none⟩), .int .i64 0, .int .i64 0]) ∧ ProgIs w' (w.heap.size + 3) s Fp ∧ ∀ b, Fp b → w.heap.size ≤ b) ∨
       ∃ p x s, (p ++ [x]) <+: lns text ∧ runL St.new p = some s ∧ (redoF s x).1 ≠ 0 ∧ readF text = (none, p.length + 1, (redoF s x).1) ∧ r = .returned (.tuple #[.pointer none, .int .i64 (p.length + 1 : Nat), .int .i64 (redoF s x).1])) := by
  refine (read_any text w ht hx).mono ?_
  rintro r w' ⟨hb, ⟨s, Fp, h1, h2, h3, h4⟩ | ⟨p, x, s, h1, h2, h3, h4⟩⟩
  · exact ⟨hb, .inl ⟨s, Fp, readL_ok _ _ _ _ h1, runL_ok _ _ _ St.new_ok h1, read_tx h1, h1, h2, h3, h4⟩⟩
  · refine ⟨hb, .inr ⟨p, x, s, h1, h2, h3, ?_, h4⟩⟩
    obtain ⟨q, hq⟩ := h1
    unfold readF
    rw [← hq, List.append_assoc]
    show readL St.new 0 (p ++ x :: q) = _
    rw [readL_no p x q _ s 0 h2 h3]
    simp
end Go.Proofs.YtjnmoddcodnadaaGreatDoor
