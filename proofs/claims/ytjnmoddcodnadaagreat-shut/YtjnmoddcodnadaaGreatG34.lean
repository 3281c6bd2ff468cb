import Derived.Test.YtjnmoddcodnadaaGreatG32
import Derived.Test.YtjnmoddcodnadaaGreatG33
set_option linter.unusedVariables false
set_option linter.unusedSimpArgs false
namespace Go.Proofs.YtjnmoddcodnadaaGreat
open Go.RowKit Go.Annal Go.Sort
theorem shut_walk (ad : Option Addr) (n cap : Nat) (qs : Nat → K5) (ad' : Option Addr) (n' cap' : Nat) (ms : Nat → K5) (day into : Int) (shuts : Bool) (w : World) (hS : StepsV w ad n qs) (hM : StepsV w ad' n' ms) (d1 : -9223372036854775808 ≤ day) (d2 : day ≤ 9223372036854775807) (k1 : -9223372036854775808 ≤ into) (k2 : into ≤ 9223372036854775807) :
    Calls Tryz.prog 7 #[.slice ad n cap, .slice ad' n' cap', .int .i64 day, .int .i64 into, .bool shuts] w fun r w' => r = .returned (.bool true) ∧ Below w.heap.size w w' := by
  by_cases hB : ¬ pickI day 12 ≤ (krun qs (lim n 40)).lk ∧ shuts = true ∧ (krun qs (lim n 40)).closeE (pickI day 12) (nmK (pickI into 3).toNat) = 0
  · exact shut_b ad n cap qs ad' n' cap' ms day into shuts w hS hM d1 d2 k1 k2 hB
  · exact shut_c ad n cap qs ad' n' cap' ms day into shuts w hS hM d1 d2 k1 k2 hB
end Go.Proofs.YtjnmoddcodnadaaGreat
