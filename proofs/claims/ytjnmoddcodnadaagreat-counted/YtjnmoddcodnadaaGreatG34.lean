import Derived.Test.YtjnmoddcodnadaaGreatG33
set_option linter.unusedVariables false
set_option linter.unusedSimpArgs false
namespace Go.Proofs.YtjnmoddcodnadaaGreat
open Go.RowKit Go.Annal Go.Sort
theorem counted_walk (ad : Option Addr) (n cap : Nat) (qs : Nat → K5) (which from' to' known : Int) (w : World) (hS : StepsV w ad n qs) (a1 : -9223372036854775808 ≤ which) (a2 : which ≤ 9223372036854775807) (b1 : -9223372036854775808 ≤ from') (b2 : from' ≤ 9223372036854775807) (c1 : -9223372036854775808 ≤ to') (c2 : to' ≤ 9223372036854775807) (d1 : -9223372036854775808 ≤ known) (d2 : known ≤ 9223372036854775807) :
    Calls Tryz.prog 5 #[.slice ad n cap, .int .i64 which, .int .i64 from', .int .i64 to', .int .i64 known] w fun r w' => r = .returned (.bool true) ∧ Below w.heap.size w w' := by
  have hb := pickI_bd from' 12 (by decide)
  by_cases hf : pickI from' 12 = 0
  · exact counted_0 ad n cap qs which from' to' known w hS a1 a2 b1 b2 c1 c2 d1 d2 hf
  · exact counted_p ad n cap qs which from' to' known w hS a1 a2 b1 b2 c1 c2 d1 d2 (by omega)
end Go.Proofs.YtjnmoddcodnadaaGreat
