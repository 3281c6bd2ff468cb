/-
  No cell of these rows narrows 'for every input' (looked for: loops, veiled, ifaces, maps, wideKeys, modest, calm, conditions, laid).
  DERIVED. THE GIVEN ROWS OF THIS SEAT. 5 by the template 'for every input the law returns true; each argument reads behind the call as it read before'; 0 by the template 'total and deterministic' (their statements: YtjnmoddcodnadaaGreatTotals.lean).
  GIVEN WITH THE SEED: the statements are not yours to turn. If you find one false, say at which input.
  Laid BY PROGRAM, IN A SANDBOX (cutbox-rows.mjs): the forced cells as the released guide's own fill.sh prints them over the translation acca69a02f0acee0… (all of the seat's roots in one cut). By AI agents, Wed Nov 11 2026. No macro, syntax, notation, axiom, sorry.
-/
import Derived.Test.YtjnmoddcodnadaaGreatChecked
import GoSem.Claim
import GoSem.ClaimJoined
import GoSem.ClaimMapViews
import Derived.JoinedTies
import Derived.KernelRfl
namespace Go.Proofs.YtjnmoddcodnadaaGreat
/- THE CELL 'sum', in the pinned program and in every row, IS THE sha256 OF THE DUMP (.gsa) THAT YtjnmoddcodnadaaGreatProg.lean LOADS. Nothing in Lean hashes anything: it is a label: what it is worth is what the hold of that sum in a sandbox is worth. -/
noncomputable def Tryz.pinned : Pinned := { name := "ytjnmoddcodnadaagreat", sum := "acca69a02f0acee0afedf7ae5b51cfeb264c5cd6da77cd715d87c2e527d8331a", checked := Tryz.checked }
namespace Rows
def none {H : Type} : Left H := { results := [], args := [] }

/-- 'annalkeep.Stays': WHATEVER THE INPUT: true; the input reads as it did. -/
def staysSpec : ChangeSpec := { name := "stays", fn := fun _ => fun
  | [d1, d2, d3] => { results := [.lit (.bool true)], args := [d1, d2, d3] }
  | _ => none }
def staysRow : OpenClaim := { program := "ytjnmoddcodnadaagreat", sum := "acca69a02f0acee0afedf7ae5b51cfeb264c5cd6da77cd715d87c2e527d8331a", func := "annal/annalkeep.Stays", spec := "stays", inPlace := ["slices.overlaps[*annal/annal.account]"], unfollowed := true, recurses := true, apart := false }
def StaysSaid : Prop := staysRow.holds Tryz.pinned (OpenSpec.ofChange staysSpec)

/-- ITS FALSE NEIGHBOUR: 'it returns false'. Refute it at one input. -/
def staysWrong : ChangeSpec := { name := "stays", fn := fun _ => fun
  | [d1, d2, d3] => { results := [.lit (.bool false)], args := [d1, d2, d3] }
  | _ => none }
def StaysWrongFalsely : Prop := staysRow.holds Tryz.pinned (OpenSpec.ofChange staysWrong)

/-- 'annalkeep.Balanced': WHATEVER THE INPUT: true; the input reads as it did. -/
def balancedSpec : ChangeSpec := { name := "balanced", fn := fun _ => fun
  | [d1, d2, d3] => { results := [.lit (.bool true)], args := [d1, d2, d3] }
  | _ => none }
def balancedRow : OpenClaim := { program := "ytjnmoddcodnadaagreat", sum := "acca69a02f0acee0afedf7ae5b51cfeb264c5cd6da77cd715d87c2e527d8331a", func := "annal/annalkeep.Balanced", spec := "balanced", inPlace := ["slices.overlaps[*annal/annal.account]"], unfollowed := true, recurses := true, apart := false }
def BalancedSaid : Prop := balancedRow.holds Tryz.pinned (OpenSpec.ofChange balancedSpec)

/-- ITS FALSE NEIGHBOUR: 'it returns false'. Refute it at one input. -/
def balancedWrong : ChangeSpec := { name := "balanced", fn := fun _ => fun
  | [d1, d2, d3] => { results := [.lit (.bool false)], args := [d1, d2, d3] }
  | _ => none }
def BalancedWrongFalsely : Prop := balancedRow.holds Tryz.pinned (OpenSpec.ofChange balancedWrong)

/-- 'annalkeep.Counted': WHATEVER THE INPUT: true; the input reads as it did. -/
def countedSpec : ChangeSpec := { name := "counted", fn := fun _ => fun
  | [d1, d2, d3, d4, d5] => { results := [.lit (.bool true)], args := [d1, d2, d3, d4, d5] }
  | _ => none }
def countedRow : OpenClaim := { program := "ytjnmoddcodnadaagreat", sum := "acca69a02f0acee0afedf7ae5b51cfeb264c5cd6da77cd715d87c2e527d8331a", func := "annal/annalkeep.Counted", spec := "counted", inPlace := ["slices.overlaps[*annal/annal.account]"], unfollowed := true, recurses := true, apart := false }
def CountedSaid : Prop := countedRow.holds Tryz.pinned (OpenSpec.ofChange countedSpec)

/-- ITS FALSE NEIGHBOUR: 'it returns false'. Refute it at one input. -/
def countedWrong : ChangeSpec := { name := "counted", fn := fun _ => fun
  | [d1, d2, d3, d4, d5] => { results := [.lit (.bool false)], args := [d1, d2, d3, d4, d5] }
  | _ => none }
def CountedWrongFalsely : Prop := countedRow.holds Tryz.pinned (OpenSpec.ofChange countedWrong)

/-- 'annalkeep.Undone': WHATEVER THE INPUT: true; the input reads as it did. -/
def undoneSpec : ChangeSpec := { name := "undone", fn := fun _ => fun
  | [d1, d2] => { results := [.lit (.bool true)], args := [d1, d2] }
  | _ => none }
def undoneRow : OpenClaim := { program := "ytjnmoddcodnadaagreat", sum := "acca69a02f0acee0afedf7ae5b51cfeb264c5cd6da77cd715d87c2e527d8331a", func := "annal/annalkeep.Undone", spec := "undone", inPlace := ["slices.overlaps[*annal/annal.account]"], unfollowed := true, recurses := true, apart := false }
def UndoneSaid : Prop := undoneRow.holds Tryz.pinned (OpenSpec.ofChange undoneSpec)

/-- ITS FALSE NEIGHBOUR: 'it returns false'. Refute it at one input. -/
def undoneWrong : ChangeSpec := { name := "undone", fn := fun _ => fun
  | [d1, d2] => { results := [.lit (.bool false)], args := [d1, d2] }
  | _ => none }
def UndoneWrongFalsely : Prop := undoneRow.holds Tryz.pinned (OpenSpec.ofChange undoneWrong)

/-- 'annalkeep.Shut': WHATEVER THE INPUT: true; the input reads as it did. -/
def shutSpec : ChangeSpec := { name := "shut", fn := fun _ => fun
  | [d1, d2, d3, d4, d5] => { results := [.lit (.bool true)], args := [d1, d2, d3, d4, d5] }
  | _ => none }
def shutRow : OpenClaim := { program := "ytjnmoddcodnadaagreat", sum := "acca69a02f0acee0afedf7ae5b51cfeb264c5cd6da77cd715d87c2e527d8331a", func := "annal/annalkeep.Shut", spec := "shut", inPlace := ["slices.overlaps[*annal/annal.account]"], unfollowed := true, recurses := true, apart := false }
def ShutSaid : Prop := shutRow.holds Tryz.pinned (OpenSpec.ofChange shutSpec)

/-- ITS FALSE NEIGHBOUR: 'it returns false'. Refute it at one input. -/
def shutWrong : ChangeSpec := { name := "shut", fn := fun _ => fun
  | [d1, d2, d3, d4, d5] => { results := [.lit (.bool false)], args := [d1, d2, d3, d4, d5] }
  | _ => none }
def ShutWrongFalsely : Prop := shutRow.holds Tryz.pinned (OpenSpec.ofChange shutWrong)

/- THE SECOND FORM. 'bulk': how many values and letters a reading holds, each counted each time it is reached (what is shared counts as often as it is met; a slice's spare places count too). A statement '..UptoSaid' is the law's where the arguments, and the package variables that the reading takes, are together of bulk at most 1048576: NARROWER than '..Said'. Prove '..Said' where nothing that the law and all that it calls make is longer than what came in: it says more and counts as full. Else prove '..UptoSaid'. A law counts once. -/
mutual
def uptoBulk {H : Type} : DataW H → Nat
  | .lit (.string bytes) => bytes.length + 1
  | .lit _ => 1
  | .nil => 1
  | .ptr d => uptoBulk d + 1
  | .slice elems spare => uptoBulkAll elems + uptoBulkAll spare + 1
  | .agg parts => uptoBulkAll parts + 1
  | .iface _ d => uptoBulk d + 1
  | .map entries => uptoBulkEntries entries + 1
  | .held _ => 1
def uptoBulkAll {H : Type} : List (DataW H) → Nat
  | [] => 0
  | d :: r => uptoBulk d + uptoBulkAll r
def uptoBulkEntries {H : Type} : List (Lit × DataW H) → Nat
  | [] => 0
  | x :: r => uptoBulkEntry x + uptoBulkEntries r
def uptoBulkEntry {H : Type} : Lit × DataW H → Nat
  | (.string bytes, d) => bytes.length + uptoBulk d + 1
  | (_, d) => uptoBulk d + 1
 end
def uptoSmall : (H : Type) → List (DataW H) → Bool := fun _ ds => decide (uptoBulkAll ds ≤ 1048576)
def OpenSpec.upto (s : _root_.Go.ChangeSpec) : _root_.Go.OpenSpec := { _root_.Go.OpenSpec.ofChange s with cond := some uptoSmall }

/-- 'annalkeep.Stays', WHERE WHAT IT READS IS OF BULK AT MOST 1048576: true; the input reads as it did. -/
def staysUptoRow : OpenClaim := { program := "ytjnmoddcodnadaagreat", sum := "acca69a02f0acee0afedf7ae5b51cfeb264c5cd6da77cd715d87c2e527d8331a", func := "annal/annalkeep.Stays", spec := "stays", inPlace := ["slices.overlaps[*annal/annal.account]"], unfollowed := true, recurses := true, apart := false, narrowed := true }
def StaysUptoSaid : Prop := staysUptoRow.holds Tryz.pinned (OpenSpec.upto staysSpec)

/-- 'annalkeep.Balanced', WHERE WHAT IT READS IS OF BULK AT MOST 1048576: true; the input reads as it did. -/
def balancedUptoRow : OpenClaim := { program := "ytjnmoddcodnadaagreat", sum := "acca69a02f0acee0afedf7ae5b51cfeb264c5cd6da77cd715d87c2e527d8331a", func := "annal/annalkeep.Balanced", spec := "balanced", inPlace := ["slices.overlaps[*annal/annal.account]"], unfollowed := true, recurses := true, apart := false, narrowed := true }
def BalancedUptoSaid : Prop := balancedUptoRow.holds Tryz.pinned (OpenSpec.upto balancedSpec)

/-- 'annalkeep.Counted', WHERE WHAT IT READS IS OF BULK AT MOST 1048576: true; the input reads as it did. -/
def countedUptoRow : OpenClaim := { program := "ytjnmoddcodnadaagreat", sum := "acca69a02f0acee0afedf7ae5b51cfeb264c5cd6da77cd715d87c2e527d8331a", func := "annal/annalkeep.Counted", spec := "counted", inPlace := ["slices.overlaps[*annal/annal.account]"], unfollowed := true, recurses := true, apart := false, narrowed := true }
def CountedUptoSaid : Prop := countedUptoRow.holds Tryz.pinned (OpenSpec.upto countedSpec)

/-- 'annalkeep.Undone', WHERE WHAT IT READS IS OF BULK AT MOST 1048576: true; the input reads as it did. -/
def undoneUptoRow : OpenClaim := { program := "ytjnmoddcodnadaagreat", sum := "acca69a02f0acee0afedf7ae5b51cfeb264c5cd6da77cd715d87c2e527d8331a", func := "annal/annalkeep.Undone", spec := "undone", inPlace := ["slices.overlaps[*annal/annal.account]"], unfollowed := true, recurses := true, apart := false, narrowed := true }
def UndoneUptoSaid : Prop := undoneUptoRow.holds Tryz.pinned (OpenSpec.upto undoneSpec)

/-- 'annalkeep.Shut', WHERE WHAT IT READS IS OF BULK AT MOST 1048576: true; the input reads as it did. -/
def shutUptoRow : OpenClaim := { program := "ytjnmoddcodnadaagreat", sum := "acca69a02f0acee0afedf7ae5b51cfeb264c5cd6da77cd715d87c2e527d8331a", func := "annal/annalkeep.Shut", spec := "shut", inPlace := ["slices.overlaps[*annal/annal.account]"], unfollowed := true, recurses := true, apart := false, narrowed := true }
def ShutUptoSaid : Prop := shutUptoRow.holds Tryz.pinned (OpenSpec.upto shutSpec)

end Rows
end Go.Proofs.YtjnmoddcodnadaaGreat
