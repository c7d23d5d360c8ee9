/- The program's five functions meet the contracts. -/
import Derived.Test.YtmpabcojdkpiaaaMeD
import Derived.Test.YtmpabcojdkpiaaaMeE
import Derived.Test.YtmpabcojdkpiaaaRow
import Derived.Test.YtmpabcojdkpiaaaMeet
import Derived.Test.YtmpabcojdkpiaaaChain
import Derived.Test.YtmpabcojdkpiaaaTells
namespace Go.Proofs.Ytmpabcojdkpiaaa
open Go Go.RowKit

theorem con : Con where
  may := may_any
  cmp := fun a b u _ _ => cmp_any a b u
  next := next_any
  majority := fun n u _ => majority_any n u
  quorum := fun a c l n u ha hl _ _ => by
    by_cases h : 1 ≤ n ∧ n ≤ 7
    · obtain ⟨k, rfl⟩ := Int.eq_ofNat_of_zero_le (show 0 ≤ n by omega)
      exact quorum_good a c l k u ha hl (by omega) (by omega)
    · exact quorum_bad a c l n u h
end Go.Proofs.Ytmpabcojdkpiaaa
