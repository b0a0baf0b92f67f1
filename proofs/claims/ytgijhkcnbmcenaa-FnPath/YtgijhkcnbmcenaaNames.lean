/-
  What namesBetween yields to whoever ranges over it: the pieces of the text between its slashes, in order; all of them, or the first ones, where a round has said that it wants no more.
-/
import Derived.RangeFuncNested
import Derived.RangeFuncBound
import Derived.RangeFuncCalls
import Derived.RangeFuncLeaves
import Derived.Shelf.Abstract
import Derived.Shelf.RegionOpen
import Derived.WalkKit
import Derived.OwnWalkIn
import Derived.TacticsInMore
import Derived.LoopNIn
import Derived.LoopIn
import Derived.Test.YtgijhkcnbmcenaaCut
namespace Go.Proofs.Ytgijhkcnbmcenaa
open Go.RowKit Go.Shelf
set_option linter.unusedVariables false
attribute [local go_sem] Oper.semAt_some

/-- A piece of a text that is not too great. -/
abbrev Pc := { x : ByteArray // x.size ≤ 1048576 }
def pb (x : Pc) : List UInt8 := bytes x.1
theorem cut_size (t : ByteArray) (ht : t.size ≤ 1048576) (k e : Nat) : (t.extract k e).size ≤ 1048576 := by
  rw [ByteArray.size_extract]; omega
def pc (t : ByteArray) (ht : t.size ≤ 1048576) (k e : Nat) : Pc := ⟨t.extract k e, cut_size t ht k e⟩
theorem pb_pc (t : ByteArray) (ht : t.size ≤ 1048576) (k e : Nat) : pb (pc t ht k e) = bytes (t.extract k e) := rfl

/-- What a round keeps: the block in which the text lies. -/
def KeepsBlock (B : Nat) (W W' : World) : Prop := W'.heap[B]? = W.heap[B]?
theorem keepsBlock_t {B : Nat} {X Y Z : World} (h : KeepsBlock B X Y) (k : KeepsBlock B Y Z) : KeepsBlock B X Z := Eq.trans k h
theorem keepsBlock_b {B : Nat} {w : World} (hB : B < w.heap.size) (W : World) (l : Nat) (o o' : Obj) (hl : w.heap.size ≤ l) (h : W.heap[l]? = some o) (_ : o.isCells = false) (_ : o.isWalk = false) : KeepsBlock B W (W.putObj l o') :=
  (grownBy_putObj' W l o').block B (by have := (Array.getElem?_eq_some_iff.1 h).1; omega) (fun e => by cases e; omega)

set_option maxRecDepth 100000 in
set_option maxHeartbeats 2000000 in
theorem names1_in (n : Nat) (hn : 1 ≤ n) (l Bn : Nat) (t : ByteArray) (ht : t.size ≤ 1048576) (J Jx : List Pc → World → Prop)
    (hY : ∀ pre x W, J pre W → pre.length < (cut (bytes t)).length → YieldAt Fence.wide (n - 1) Try.prog l #[.string x.1] W fun e W' =>
      (e = .returned (.bool true) ∧ J (pre ++ [x]) W' ∧ KeepsBlock Bn W W') ∨ (e = .returned (.bool false) ∧ Jx (pre ++ [x]) W'))
    (W : World) (hBn : W.cell? ⟨Bn, 0, none⟩ = some (.string t)) (h0 : J [] W) :
    CallsIn Fence.wide n Try.prog 40 #[.func (.yield l) #[] #[], .pointer (some ⟨Bn, 0, none⟩)] W fun e W' => (∃ v, e = .returned v) ∧
      ((∃ ys : List Pc, ys.map pb = cut (bytes t) ∧ J ys W') ∨ (∃ pre : List Pc, pre.map pb <+: cut (bytes t) ∧ Jx pre W')) := by
  have hl : t.data.toList.length = t.size := by simp
  have HL : Hid (t.data.toList.length = t.size) := hl
  clear hl
  refine callsIn_of_wp Try.func40 rfl trivial ?_ rfl
  simp only [Try.ntmps40, List.size_toArray, List.length_cons, List.length_nil, Nat.reduceAdd, Nat.reduceSub, Array.replicate_succ, Array.replicate_zero, List.push_toArray, List.append_toArray, List.nil_append, List.cons_append]
  rw [wpIn_wide]
  refine wp_scope_straight ?_
  rw [← wpIn_wide (n := n)]
  gi_wp2
  refine wpIn_label ?_
  gi_wp2
  gi_loopw [3] (fun st wr => ∃ (k : Nat) (pre : List Pc), k ≤ t.size ∧ st = .int .i64 k ∧ cst (t.data.toList.take k) = (pre.map pb, []) ∧ J pre wr ∧ wr.cell? ⟨Bn, 0, none⟩ = some (.string t))
    (fun st wr => t.size + 1 - (intOf st).toNat)
  case atStart => exact ⟨0, [], Nat.zero_le _, rfl, rfl, h0, hBn⟩
  case round =>
    obtain ⟨k, pre, hk, rfl, hc, hJ, hcell⟩ := hrel
    have HC : Hid (cst (t.data.toList.take k) = (pre.map pb, [])) := hc
    have HJ : Hid (J pre wr) := hJ
    clear hc hJ
    gi_wp2
    gi_loopw [3, 4] (fun st en wq => ∃ e : Nat, k ≤ e ∧ e ≤ t.size ∧ st = .int .i64 k ∧ en = .int .i64 e ∧ wq = wr ∧ cst (t.data.toList.take e) = (pre.map pb, (t.data.toList.take e).drop k)) (fun _ en wq => t.size - (intOf en).toNat)
    case atStart => exact ⟨k, Nat.le_refl _, hk, rfl, rfl, rfl, by rw [HC.out]; simp⟩
    case round =>
      obtain ⟨e, hke, he, rfl, rfl, rfl, hce⟩ := hrel
      have HE : Hid (cst (t.data.toList.take e) = (pre.map pb, (t.data.toList.take e).drop k)) := hce
      clear hce
      by_cases hlt : e < t.size
      · cases hsl : ((t[e].toNat : Int) == 47)
        · have hne : ((t[e].toNat : Int) != 47) = true := by simp [bne, hsl]
          gi_wp2
          go_roundw
          case rel => exact ⟨e + 1, by omega, by omega, by simp, by go_num, by simp, cst_other hlt hke (slash_not hsl) HE.out⟩
          case measure => simp [intOf]; omega
        · have hne : ((t[e].toNat : Int) != 47) = false := by simp [bne, hsl]
          have HS := cst_slash hlt (slash_nat hsl) HE.out
          have hpl : pre.length < (cut (bytes t)).length := by
            have h := (cut_pre t.data.toList (e + 1)).length_le
            rw [HS] at h
            simp at h
            show pre.length < (cut t.data.toList).length
            omega
          obtain ⟨fn, tmps, assign, body, hy, hR⟩ := hY pre (pc t ht k e) wr HJ.out hpl
          have HS2 : Hid _ := HS
          clear HS
          dsimp only [pc] at hy
          gi_wp2
          refine hR.mono ?_
          rintro e' W3 (⟨rfl, hJ3, hk3⟩ | ⟨rfl, hJx3⟩)
          · have hq3 : W3.cell? ⟨Bn, 0, none⟩ = some (.string t) := (World.cell?_of_block (a := ⟨Bn, 0, none⟩) hk3).trans hcell
            have HJ3 : Hid (J (pre ++ [pc t ht k e]) W3) := hJ3
            clear hJ3 hk3 hy hR
            gi_wp2
            go_roundw
            case rel => exact ⟨e + 1, pre ++ [pc t ht k e], by omega, by go_num, by rw [HS2.out, List.map_append, List.map_cons, List.map_nil, pb_pc, bytes_cut], HJ3.out, hq3⟩
            case measure => simp [intOf]; omega
          · have HX : Hid (Jx (pre ++ [pc t ht k e]) W3) := hJx3
            clear hJx3 hy hR
            gi_wp2
            rw [Exit.noGoto_ret]
            refine bodyPost_ret (results_none rfl _ _ _) rfl ?_
            refine ⟨⟨_, rfl⟩, .inr ⟨pre ++ [pc t ht k e], ?_, HX.out⟩⟩
            have h := cut_pre t.data.toList (e + 1)
            rw [HS2.out] at h
            rw [List.map_append, List.map_cons, List.map_nil, pb_pc, bytes_cut]
            exact h
      · have hke2 : e = t.size := by omega
        have HW : Hid (cut (bytes t) = pre.map pb ++ [bytes (t.extract k t.size)]) := cut_whole HE.out (by omega)
        have hpl : pre.length < (cut (bytes t)).length := by
          rw [HW.out]; simp
        obtain ⟨fn, tmps, assign, body, hy, hR⟩ := hY pre (pc t ht k t.size) wr HJ.out hpl
        have HK : Hid (e = t.size) := hke2
        clear hke2
        dsimp only [pc] at hy
        gi_wp2
        refine hR.mono ?_
        rintro e' W3 (⟨rfl, hJ3, hk3⟩ | ⟨rfl, hJx3⟩)
        · have HJ3 : Hid (J (pre ++ [pc t ht k t.size]) W3) := hJ3
          clear hJ3 hk3 hy hR
          gi_wp2
          rw [Exit.noGoto_ret]
          refine bodyPost_ret (results_none rfl _ _ _) rfl ?_
          exact ⟨⟨_, rfl⟩, .inl ⟨pre ++ [pc t ht k t.size], by rw [HW.out]; simp [pb_pc], HJ3.out⟩⟩
        · have HX : Hid (Jx (pre ++ [pc t ht k t.size]) W3) := hJx3
          clear hJx3 hy hR
          gi_wp2
          rw [Exit.noGoto_ret]
          refine bodyPost_ret (results_none rfl _ _ _) rfl ?_
          exact ⟨⟨_, rfl⟩, .inr ⟨pre ++ [pc t ht k t.size], by rw [HW.out]; simp [pb_pc], HX.out⟩⟩

set_option maxHeartbeats 1000000 in
/-- namesBetween: the text is boxed; the function value holds the box. -/
theorem names_in (n : Nat) (t : ByteArray) (w : World) :
    CallsIn Fence.wide n Try.prog 28 #[.string t] w fun e w' => e = .returned (.func (.func 40) #[] #[.pointer (some ⟨w.heap.size, 0, none⟩)]) ∧ w' = w.alloc (.cells #[.string t] 9) := by
  refine callsIn_of_wp Try.func28 rfl trivial ?_ rfl
  simp only [Try.ntmps28, List.size_toArray, List.length_cons, List.length_nil, Nat.reduceAdd, Nat.reduceSub, Array.replicate_succ, Array.replicate_zero, List.push_toArray, List.append_toArray, List.nil_append, List.cons_append]
  gi_wp2
  go_ret
  exact ⟨rfl, rfl⟩

/-- What it hands back, ranged over. -/
theorem names_stops (n : Nat) (hn : 1 ≤ n) (Bn : Nat) (t : ByteArray) (ht : t.size ≤ 1048576) (w : World) (hBn : Bn < w.heap.size)
    (hc : w.cell? ⟨Bn, 0, none⟩ = some (.string t)) :
    SeqStopsK Fence.wide n Try.prog 40 #[.pointer (some ⟨Bn, 0, none⟩)] (fun x : Pc => #[Value.string x.1]) (KeepsBlock Bn) (fun ys => ys.map pb = cut (bytes t)) (fun pre => pre.map pb <+: cut (bytes t)) (cut (bytes t)).length w := fun l J Jx W hW _ _ hY h0 =>
  names1_in n hn l Bn t ht J Jx hY W ((hW.cell (p := ⟨Bn, 0, none⟩) hBn).trans hc) h0
end Go.Proofs.Ytgijhkcnbmcenaa
