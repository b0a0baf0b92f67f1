/-
  What strings.Clone answers.
-/
import Derived.Test.YtjlldefajgmelaaDoorShelf
import Derived.WalkKit
import Derived.Test.YtjlldefajgmelaaDoorBlk
namespace Go.Proofs.YtjlldefajgmelaaDoor
open Go.RowKit Go.Shelf

set_option maxHeartbeats 400000 in
theorem stringsClone_any (s : ByteArray) (w : World) (hs : s.size ≤ 1048576) :
    Calls Tryd.prog 20 #[.string s] w fun e w' => e = .returned (.string s) ∧ Below w.heap.size w w' := by
  go_enter Tryd.func20, Tryd.ntmps20
  go_wp2_with fail
  refine (Tryd.stringslite_Clone s _ (by omega)).mono ?_
  rintro e w1 ⟨rfl, hb⟩
  have HB : Hid (Below w.heap.size w w1) := hb
  clear hb
  go_wp2
  go_ret
  exact ⟨rfl, HB.out⟩
end Go.Proofs.YtjlldefajgmelaaDoor
