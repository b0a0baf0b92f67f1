/-
  What strings.Clone answers.
-/
import Derived.Test.YtofbcenlpffclaaShelf
import Derived.WalkKit
import Derived.Test.YtofbcenlpffclaaBlk
namespace Go.Proofs.Ytofbcenlpffclaa
open Go.RowKit Go.Shelf

set_option maxHeartbeats 400000 in
theorem stringsClone_any (s : ByteArray) (w : World) (hs : s.size ≤ 1048576) :
    Calls Try.prog 17 #[.string s] w fun e w' => e = .returned (.string s) ∧ Below w.heap.size w w' := by
  go_enter Try.func17, Try.ntmps17
  go_wp2_with fail
  refine (Try.stringslite_Clone s _ (by omega)).mono ?_
  rintro e w1 ⟨rfl, hb⟩
  have HB : Hid (Below w.heap.size w w1) := hb
  clear hb
  go_wp2
  go_ret
  exact ⟨rfl, HB.out⟩
end Go.Proofs.Ytofbcenlpffclaa
