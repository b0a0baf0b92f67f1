/-
  For every code, FnTreeFree answers true: a drawn tree that is ok, with places more that are free, behind all, is ok, and leads where it led; with one too many it is none; and the code reads afterwards as it read before. No condition.
-/
import Derived.Test.YtomacpailikmoacFnTreeFreeB2
import Derived.Laws.AppendOwn
import Derived.OwnWalk
import Derived.Maps.Own
import Derived.Maps.OwnOps
import Derived.Maps.OwnSet
import Derived.Maps.Views

/-
  What reached of the program answers: which places are reached from the root, marked with a stack.
-/
namespace Go.Proofs.Ytomacpailikmoac
open Go.RowKit Go.Deep
set_option linter.unusedVariables false

/-- A list of numbers, as cells. -/
def natv (L : List Nat) : List Value := L.map fun (i : Nat) => Value.int .i64 (i : Int)
theorem natv_length (L : List Nat) : (natv L).length = L.length := by simp [natv]
theorem natv_append (L M : List Nat) : natv L ++ natv M = natv (L ++ M) := by simp [natv]
theorem natv_one (L : List Nat) : ∀ u ∈ natv L, u.oneCell' = true := by
  intro u hu
  simp only [natv, List.mem_map] at hu
  obtain ⟨s, _, rfl⟩ := hu
  rfl

/-- The mark at a place. -/
def bitAt (W : World) (b j : Nat) : Bool := match W.cell? ⟨b, j, none⟩ with | some (.bool x) => x | _ => false
/-- How long a slice is. -/
def lenOf : Value → Nat | .slice _ n _ => n | _ => 0

theorem cntB_congr {m m' : Nat → Bool} {k : Nat} (h : ∀ j, j < k → m j = m' j) : cntB m k = cntB m' k := by
  induction k with
  | zero => rfl
  | succ k ih => unfold cntB; rw [ih (fun j hj => h j (by omega)), h k (by omega)]

/-- What is known within reached. -/
structure StkW (w : World) (a : Option Addr) (n c : Nat) (now : Int) (m : Nat → Bool) (L : List Nat) (s : Value) (W : World) : Prop where
  t : Blk W w.heap.size #[.slice a n c, .int .i64 now] 25
  row : W.rowIs (w.heap.size + 1) 4 n (fun j => .bool (m j))
  own : W.ownsRow (w.heap.size + 2) 3 1 s L.length (natv L)
  some : s ≠ .slice none 0 0
  bel : Below w.heap.size w W
  size : w.heap.size + 2 ≤ W.heap.size

theorem StkW.shape {w : World} {a : Option Addr} {n c : Nat} {now : Int} {m : Nat → Bool} {L : List Nat} {s : Value} {W : World} (h : StkW w a n c now m L s W) :
    ∃ g cap, s = .slice (Option.some ⟨g, 0, none⟩) L.length cap ∧ w.heap.size + 2 ≤ g ∧ g < W.heap.size ∧ L.length ≤ cap ∧ cap ≤ maxLen ∧ ∀ i, i < L.length → W.cell? ⟨g, i, none⟩ = Option.some (.int .i64 (L.getD i 0 : Nat)) := by
  obtain ⟨h1, h2⟩ := h.own
  rcases h2 with ⟨rfl, h0⟩ | ⟨g, cap, cur, rfl, hb, hblk, hn, hm, hsz, htake⟩
  · exact absurd rfl h.some
  · have hglt : g < W.heap.size := (Array.getElem?_eq_some_iff.1 hblk).1
    refine ⟨g, cap, rfl, hb, hglt, hn, hm, fun i hi => ?_⟩
    have hi2 : (natv L)[i]? = Option.some (.int .i64 (L.getD i 0 : Nat)) := by simp [natv, hi]
    rw [← htake, Nat.mul_one, List.getElem?_take_of_lt hi] at hi2
    simp only [World.cell?, hblk]
    simpa using hi2

/-- The last one is taken off. -/
theorem StkW.pop {w : World} {a : Option Addr} {n c : Nat} {now : Int} {m : Nat → Bool} {L : List Nat} {x g cap : Nat} {k : Nat} {W : World} (h : StkW w a n c now m (L ++ [x]) (.slice (Option.some ⟨g, 0, none⟩) k cap) W) :
    StkW w a n c now m L (.slice (Option.some ⟨g, 0, none⟩) L.length cap) W := by
  refine ⟨h.t, h.row, ?_, by simp, h.bel, h.size⟩
  obtain ⟨h1, h2⟩ := h.own
  rcases h2 with ⟨h2, h0⟩ | ⟨g', cap', cur, hv, hb, hblk, hn, hm, hsz, htake⟩
  · cases h2
  · cases hv
    refine ⟨by simp [natv], Or.inr ⟨g, cap, cur, rfl, hb, hblk, by simp at hn; omega, hm, hsz, ?_⟩⟩
    have e : natv (L ++ [x]) = natv L ++ natv [x] := (natv_append L [x]).symm
    rw [e] at htake
    have h5 : (natv L ++ natv [x]).take L.length = natv L := by
      have := List.take_left (l₁ := natv L) (l₂ := natv [x])
      rwa [natv_length] at this
    have := congrArg (List.take L.length) htake
    rw [List.take_take, Nat.min_eq_left (by simp), h5] at this
    rw [Nat.mul_one]
    exact this

theorem StkW.mark {w : World} {a : Option Addr} {n c : Nat} {now : Int} {m : Nat → Bool} {L : List Nat} {s : Value} {W : World} (h : StkW w a n c now m L s W) (x : Nat) :
    StkW w a n c now (fun j => if j = x then true else m j) L s (W.setCell ⟨w.heap.size + 1, x, none⟩ (.bool true)) := by
  refine ⟨h.t.off _ (by omega), (h.row.set x (.bool true)).congr (fun i _ => by by_cases e : i = x <;> simp [e]), ⟨h.own.1, ?_⟩, h.some, bel_put h.bel _ (by omega), by simpa [World.setCell] using h.size⟩
  rcases h.own.2 with h2 | ⟨g, cap, cur, hv, hb, hblk, rest⟩
  · exact Or.inl h2
  · exact Or.inr ⟨g, cap, cur, hv, hb, (blk_setCell_other _ _ _ _ (by show g ≠ w.heap.size + 1; omega)).trans hblk, rest⟩

theorem StkW.alloc {w : World} {a : Option Addr} {n c : Nat} {now : Int} {m : Nat → Bool} {L : List Nat} {s : Value} {W : World} (h : StkW w a n c now m L s W) (o : Obj) : StkW w a n c now m L s (W.alloc o) :=
  ⟨h.t.alloc _, rowIs_below h.row ((Below.refl W.heap.size W).alloc (Nat.le_refl _) _) h.row.lt, h.own.alloc o, h.some, h.bel.alloc (by have := h.t.lt; omega) _, by have := h.size; simp; omega⟩

/-- One more is put on it. -/
theorem StkW.push {w : World} {a : Option Addr} {n c : Nat} {now : Int} {m : Nat → Bool} {L : List Nat} {s s' : Value} {W W' : World} (h : StkW w a n c now m L s W) {x : Nat}
    (hown : W'.ownsRow (w.heap.size + 2) 3 1 s' (L.length + 1) (natv L ++ natv [x])) (hg : W.grownBy W' s.ownBlock) (hs : ¬ s' = .slice none 0 0) : StkW w a n c now m (L ++ [x]) s' W' := by
  have hob : ∀ g, s.ownBlock = Option.some g → w.heap.size + 2 ≤ g := by
    intro g hg
    obtain ⟨g', cap, rfl, hb, _⟩ := h.shape
    simp [Value.ownBlock] at hg
    omega
  have blk : ∀ b, b < w.heap.size + 2 → b < W.heap.size → W'.heap[b]? = W.heap[b]? := fun b hb hlt => hg.block b hlt (fun e => by have := hob b e.symm; omega)
  have hrow := h.row
  refine ⟨h.t.of_block (blk _ (by omega) h.t.lt), ?_, ?_, hs, h.bel.grown hg (by have := h.t.lt; omega) (fun g hg' => by have := hob g hg'; omega), Nat.le_trans h.size hg.size⟩
  · obtain ⟨cs, hb, r⟩ := hrow
    exact ⟨cs, (blk _ (by omega) h.row.lt).trans hb, r⟩
  · rw [List.length_append, ← natv_append]; exact hown

theorem StkW.meas {w : World} {a : Option Addr} {n c : Nat} {now : Int} {m : Nat → Bool} {L : List Nat} {s : Value} {W : World} (h : StkW w a n c now m L s W) :
    2 * (n - cntB (fun j => bitAt W (w.heap.size + 1) j) n) + lenOf s = 2 * (n - cntB m n) + L.length := by
  have e : cntB (fun j => bitAt W (w.heap.size + 1) j) n = cntB m n := cntB_congr (fun j hj => by
    unfold bitAt
    rw [h.row.cell hj])
  obtain ⟨g, cap, rfl, _⟩ := h.shape
  rw [e]
  rfl

theorem StkW.drew {w : World} {a : Option Addr} {n c : Nat} {now : Int} {m : Nat → Bool} {L : List Nat} {s : Value} {W : World} (h : StkW w a n c now m L s W) (q : Nat) : StkW w a n c now m L s (W.drewN q) :=
  ⟨h.t, h.row, h.own, h.some, below_drewN h.bel q, h.size⟩

theorem natv_cells (w : World) (x : Nat) : ∀ j u, (natv [x])[j]? = some u → (w.alloc (.cells #[.int .i64 (x : Int)] 3)).cell? ((⟨w.heap.size, 0, none⟩ : Addr).add j) = some u := by
  intro j u h
  have hj : j = 0 := by
    rcases Nat.eq_zero_or_pos j with h0 | h0
    · exact h0
    · rw [List.getElem?_eq_none (by simp [natv]; omega)] at h; cases h
  subst hj
  have := cell_one_new w (.int .i64 (x : Int)) 3
  simp [natv] at h
  subst h
  rw [show (⟨w.heap.size, 0, none⟩ : Addr).add 0 = ⟨w.heap.size, 0, none⟩ by unfold Addr.add; split <;> simp_all]
  exact (Blk.new w #[.int .i64 (x : Int)] 3).cell 0

theorem stk_start (w : World) (a : Option Addr) (n c : Nat) (now : Int) : StkW w a n c now (fun j => decide (j = 0)) [0] (.slice (some ⟨w.heap.size + 1 + 1, 0, none⟩) 1 1)
    (((w.alloc (.cells #[.slice a n c, .int .i64 now] 25)).alloc (.cells ((madeCells #[.bool false] n).setIfInBounds 0 (.bool true)) 4)).alloc (.cells #[.int .i64 0] 3)) := by
  have h := marks_start w a n c now
  have h3 := new3 w #[.slice a n c, .int .i64 now] 25 ((madeCells #[.bool false] n).setIfInBounds 0 (.bool true)) 4 #[.int .i64 0] 3
  refine ⟨h3.b0, rowIs_below h.row ((Below.refl _ _).alloc (Nat.le_refl _) _) h.row.lt, ⟨rfl, Or.inr ⟨w.heap.size + 1 + 1, 1, _, rfl, by omega, h3.b2, Nat.le_refl _, by unfold maxLen; omega, rfl, rfl⟩⟩, by simp, h3.bel, by have := h3.size; omega⟩

set_option maxHeartbeats 2000000 in
theorem reached_any (a : Option Addr) (n c : Nat) (now : Int) (D : Nat → Nd) (L : Nat → Loc) (w : World) (hS : IsNds w a n D L) (h1 : 1 ≤ n) (hn : n ≤ 1048576) (hsm : ∀ i, i < n → (D i).kn ≤ maxLen) (hk : ∀ i, i < n → ∀ j, j < (D i).kn → 0 ≤ (D i).kids j ∧ (D i).kids j < n) :
    Calls Try.prog 57 #[trV a n c now] w fun e w' => Below w.heap.size w w' ∧ e = .returned (.slice (some ⟨w.heap.size + 1, 0, none⟩) n n) ∧ ∃ m : Nat → Bool, w'.rowIs (w.heap.size + 1) 4 n (fun j => .bool (m j)) ∧ ∀ j, m j = true ↔ Reach n D j := by
  have hmk := fun w => run_make_row' (P := Try.prog) 58 4 (.bool false) 1 Try.underlying58 infoBool rfl .i64 .i64 n (by omega) (by omega) w
  have hm0 : (madeCells #[Value.bool false] n)[0]? = some (.bool false) := by simp [madeCells, show 0 < n from h1]
  obtain ⟨i0, hi, hz0, hz1, hz2⟩ := info_parts infoInt
  unfold trV
  go_enter Try.func57, Try.ntmps57
  go_wp2
  go_loopw [4] (fun s wr => ∃ (m : Nat → Bool) (L : List Nat), StkW w a n c now m L s wr ∧ Stk n D m L) (fun s wr => 2 * (n - cntB (fun j => bitAt wr (w.heap.size + 1) j) n) + lenOf s)
  case atStart => exact ⟨_, _, stk_start w a n c now, Stk.start h1⟩
  case round =>
    obtain ⟨m0, K, hin, hst⟩ := hrel
    have hfew := hst.few
    have hfew2 := cntB_le m0 n
    have hmeas := hin.meas
    obtain ⟨g, cap, rfl, hg1, hg2, hcap, hcapm, hcells⟩ := hin.shape
    unfold maxLen at hcapm
    clear hmk hm0
    rcases List.eq_nil_or_concat K with rfl | ⟨K', x, rfl⟩
    · have HALL : Hid (StkW w a n c now m0 [] (.slice (some ⟨g, 0, none⟩) 0 cap) wr ∧ Stk n D m0 []) := ⟨hin, hst⟩
      have h00 : ((([] : List Nat).length : Nat)) = 0 := rfl
      rw [h00]
      clear hin hst hcells
      go_wp2
      go_ret
      exact ⟨HALL.out.1.bel, rfl, m0, HALL.out.1.row, HALL.out.2.fin⟩
    · rw [List.concat_eq_append] at *
      have hxc : wr.cell? ⟨g, K'.length, none⟩ = some (.int .i64 (x : Nat)) := by
        have := hcells K'.length (by simp)
        simpa using this
      have hlen : (K' ++ [x]).length = K'.length + 1 := by simp
      rw [hlen] at hfew hmeas hcap ⊢
      obtain ⟨hxn, hmx⟩ := hst.on x (by simp)
      have hSr := hS.below (Nat.le_refl _) hin.bel
      obtain ⟨b, off, rfl, hlt2, hc⟩ := hSr.at hxn
      have c3 := (hc x hxn).2.2.2.1
      have t0 : wr.cell? ⟨w.heap.size, 0, none⟩ = some (.slice (some ⟨b, off, none⟩) n c) := hin.t.cell 0
      have hknb := hsm x hxn
      unfold maxLen at hknb
      have hxi : (x : Int) < (n : Int) := by omega
      have HST : Hid (StkW w (some ⟨b, off, none⟩) n c now m0 K' (.slice (some ⟨g, 0, none⟩) K'.length cap) wr ∧ StkIn n D x 0 m0 K' ∧ 2 * (n - cntB m0 n) + K'.length + 1 = 2 * (n - cntB (fun j => bitAt wr (w.heap.size + 1) j) n) + lenOf (.slice (some ⟨g, 0, none⟩) (K'.length + 1) cap)) := ⟨hin.pop, hst.pop, hmeas.symm⟩
      clear hin hst hmeas hc hcells hSr hmx
      generalize hkl : K'.length = kl at *
      have hwr : IntKind.i64.wrap ((kl : Int) + 1 - 1) = (kl : Int) := by rw [IntKind.wrap_i64]; omega
      have hwr2 : IntKind.i64.wrap (((kl + 1 : Nat) : Int) - 1) = (kl : Int) := by rw [IntKind.wrap_i64]; omega
      have hki : (kl : Int) < ((kl + 1 : Nat) : Int) := by omega
      go_wp2_with fail
      go_quiet (fail)
      have HS1 := HST.out.1.drew nq
      have HS : Hid (StkW w (some ⟨b, off, none⟩) n c now m0 K' (.slice (some ⟨g, 0, none⟩) kl cap) (wr.drewN nq)) := HS1
      clear HS1
      go_wp2
      go_loopw [4, 36] (fun s i wr' => ∃ (j : Nat) (m : Nat → Bool) (K : List Nat), j ≤ (D x).kn ∧ i = .int .i64 j ∧ StkW w (some ⟨b, off, none⟩) n c now m K s wr' ∧ StkIn n D x j m K ∧ 2 * (n - cntB m n) + K.length ≤ 2 * (n - cntB m0 n) + kl) (fun _ i _ => (D x).kn - (intOf i).toNat)
      case atStart => exact ⟨0, m0, K', Nat.zero_le _, rfl, HS.out, HST.out.2.1, by omega⟩
      case round =>
        obtain ⟨j, m, K, hj, rfl, hin, hst, hms⟩ := hrel
        have hfew3 := hst.few
        have hfew4 := cntB_le m n
        by_cases hltj : j < (D x).kn
        · have hSr := hS.below (Nat.le_refl _) hin.bel
          obtain ⟨b2, off2, ha2, _, hc2⟩ := hSr.at hxn
          cases ha2
          obtain ⟨b', off', ha', hlt2', hc'⟩ := (hc2 x hxn).2.2.2.2.2.2.at hltj
          have hz := hc' j hltj
          obtain ⟨hk0, hk1⟩ := hk x hxn j hltj
          obtain ⟨z, hz'⟩ : ∃ z : Nat, (D x).kids j = z := ⟨((D x).kids j).toNat, by omega⟩
          have hzn : z < n := by omega
          have hzt : ((D x).kids j).toNat = z := by rw [hz']; rfl
          have hjj : (j : Int) < ((D x).kn : Int) := by omega
          have hzi : (z : Int) < (n : Int) := by omega
          rw [hz'] at hz
          have mz : wr.cell? ⟨w.heap.size + 1, z, none⟩ = some (.bool (m z)) := hin.row.cell hzn
          have mf := hin.row.frozen z
          rw [ha']
          clear hSr hc2 hc' hk0 hk1 t0 c3 hxc hwr hwr2 hki hg1 hg2
          cases hmz : m z with
          | true =>
            rw [hmz] at mz
            have HALL : Hid (StkW w (some ⟨b, off, none⟩) n c now m K u4 wr ∧ StkIn n D x (j + 1) m K ∧ 2 * (n - cntB m n) + K.length ≤ 2 * (n - cntB m0 n) + kl) := ⟨hin, hst.pass (by rw [hzt]; exact hmz), hms⟩
            clear hin hst hms hmz
            go_wp2
            go_roundw
            case rel => exact ⟨j + 1, m, K, by omega, by go_num, HALL.out.1, HALL.out.2.1, HALL.out.2.2⟩
            case measure => simp [intOf]; omega
          | false =>
            rw [hmz] at mz
            have hst2 := hst.push hltj hzt hzn hmz
            have hcl := cntB_lt (m := m) (m' := fun j => if j = z then true else m j) (fun y hy => by by_cases e : y = z <;> simp [e, hy]) (i := z) (by simp [hmz]) (by simp) n hzn
            have hfew5 := cntB_le (fun j => if j = z then true else m j) n
            have hin2 := hin.mark z
            have HALL : Hid (StkIn n D x (j + 1) (fun j => if j = z then true else m j) (K ++ [z]) ∧ 2 * (n - cntB (fun j => if j = z then true else m j) n) + (K ++ [z]).length ≤ 2 * (n - cntB m0 n) + kl) := ⟨hst2, by rw [List.length_append]; simp only [List.length_singleton]; omega⟩
            have HIN : Hid (StkW w (some ⟨b, off, none⟩) n c now (fun j => if j = z then true else m j) K u4 (wr.setCell ⟨w.heap.size + 1, z, none⟩ (.bool true))) := hin2
            have hsz := hin.size
            clear hin hst hms hmz hst2 hcl hin2
            go_wp2_with (at_builtin; refine wpList_append_own _ rfl _ _ 30 rfl (w.heap.size + 2) 3 i0 (.int .i64 0) 1 8 Try.underlying30 hi hz0 hz1 hz2 rfl (by decide) _ _ _ rfl (HIN.out.alloc _).own ⟨_, 0, none⟩ 1 1 (natv [z]) rfl rfl ?c1 ?c2 ?c3 ?c4 ?c5 ?_)
            case c1 =>
              have := natv_cells (wr.setCell ⟨w.heap.size + 1, z, none⟩ (.bool true)) z
              rwa [show (wr.setCell ⟨w.heap.size + 1, z, none⟩ (.bool true)).heap.size = wr.heap.size by simp [World.setCell]] at this
            case c2 => exact natv_one _
            case c3 => unfold maxLen; omega
            case c4 => omega
            case c5 => simp [World.setCell]; omega
            intro v' w1 hown hgrow hnil
            have HN : Hid (StkW w (some ⟨b, off, none⟩) n c now (fun j => if j = z then true else m j) (K ++ [z]) v' w1) := (HIN.out.alloc _).push hown hgrow hnil
            clear hown hgrow hnil
            go_wp2
            go_roundw
            case rel => exact ⟨j + 1, _, K ++ [z], by omega, by go_num, HN.out, HALL.out.1, HALL.out.2⟩
            case measure => simp [intOf]; omega
        · have hje : j = (D x).kn := by omega
          have hmeas := hin.meas
          have HALL : Hid (StkW w (some ⟨b, off, none⟩) n c now m K u4 wr ∧ Stk n D m K ∧ 2 * (n - cntB m n) + K.length ≤ 2 * (n - cntB m0 n) + kl ∧ 2 * (n - cntB (fun j => bitAt wr (w.heap.size + 1) j) n) + lenOf u4 = 2 * (n - cntB m n) + K.length) := ⟨hin, (hje ▸ hst).out, hms, hmeas⟩
          clear hin hst hms hje hmeas
          go_wp2
          go_roundw
          case rel => exact ⟨m, K, HALL.out.1, HALL.out.2.1⟩
          case measure =>
            have h1 := HALL.out.2.2
            have h2 := HST.out.2.2
            simp at h2 ⊢
            omega
end Go.Proofs.Ytomacpailikmoac

/-
  What TreeOk of the program has to keep.
-/
namespace Go.Proofs.Ytomacpailikmoac
open Go.RowKit

/-- What TreeOk of the program has to keep. -/
def ImplTreeOk : Prop := ∀ (a : Option Addr) (n c : Nat) (now : Int) (D : Nat → Nd) (L : Nat → Loc) (w : World), IsNds w a n D L → FitAll n D → n ≤ maxLen → sizeTo D n ≤ 1048576 → In64 now →
    Calls Try.prog 16 #[trV a n c now] w fun e w' => Below w.heap.size w w' ∧ ∃ r : Bool, e = .returned (.bool r) ∧ (r = true ↔ TreeGood n D now)
end Go.Proofs.Ytomacpailikmoac

/-
  What reachOk and TreeOk of the program answer.
-/
namespace Go.Proofs.Ytomacpailikmoac
open Go.RowKit
set_option linter.unusedVariables false

set_option maxHeartbeats 2000000 in
theorem reachOk_any (a : Option Addr) (n c : Nat) (now : Int) (D : Nat → Nd) (L : Nat → Loc) (w : World) (hS : IsNds w a n D L) (h1 : 1 ≤ n) (hn : n ≤ 1048576) (hsm : ∀ i, i < n → (D i).kn ≤ maxLen) (hk : ∀ i, i < n → ∀ j, j < (D i).kn → 0 ≤ (D i).kids j ∧ (D i).kids j < n) :
    Calls Try.prog 40 #[trV a n c now] w fun e w' => Below w.heap.size w w' ∧ ∃ r : Bool, e = .returned (.bool r) ∧ (r = true ↔ ∀ i, i < n → (Reach n D i ↔ (D i).kind ≠ 0)) := by
  unfold trV
  go_enter Try.func40, Try.ntmps40
  go_wp2_with fail
  refine at_world (F := New1 w _ _) (new1 w _ _) ?_
  rintro W ⟨hp, hb, hs⟩
  refine (reached_any a n c now D L W (hS.below (Nat.le_refl _) hb) h1 hn hsm hk).mono ?_
  rintro e w1 ⟨hb1, rfl, m, hrow, hm⟩
  have hp1 := hp.below hb1 (by omega)
  have HIN : Hid (RefsIn w a n c now w1 ∧ w1.rowIs (W.heap.size + 1) 4 n (fun j => .bool (m j))) := ⟨⟨hp1, hb.trans (hb1.mono (by omega))⟩, hrow⟩
  have HM : Hid (∀ j, m j = true ↔ Reach n D j) := hm
  clear hp hb hs hb1 hrow hp1 hm
  generalize W.heap.size + 1 = bm at *
  go_wp2
  go_loopw [8] (fun i wr => ∃ k : Nat, k ≤ n ∧ i = .int .i64 k ∧ RefsIn w a n c now wr ∧ wr.rowIs bm 4 n (fun j => .bool (m j)) ∧ ∀ i, i < k → (Reach n D i ↔ (D i).kind ≠ 0)) (fun i _ => n - (intOf i).toNat)
  case atStart => exact ⟨0, Nat.zero_le _, rfl, HIN.out.1, HIN.out.2, fun i h2 => by omega⟩
  case round =>
    obtain ⟨k, hk', rfl, hin, hrow, hall⟩ := hrel
    by_cases hlt : k < n
    · have hSr := hS.below (Nat.le_refl _) hin.bel
      obtain ⟨b, off, rfl, hlt2, hc⟩ := hSr.at hlt
      have c0 := (hc k hlt).1
      have t0 : wr.cell? ⟨w.heap.size, 0, none⟩ = some (.slice (some ⟨b, off, none⟩) n c) := hin.t.cell 0
      have hki : (k : Int) < (n : Int) := by omega
      have rc : wr.cell? ⟨bm, k, none⟩ = some (.bool (m k)) := hrow.cell hlt
      have HR : Hid (RefsIn w (some ⟨b, off, none⟩) n c now wr ∧ wr.rowIs bm 4 n (fun j => .bool (m j)) ∧ ∀ i, i < k → (Reach n D i ↔ (D i).kind ≠ 0)) := ⟨hin, hrow, hall⟩
      clear hc hin hrow hall hSr HIN
      cases hkz : ((D k).kind == 0) with
      | true =>
        have HZ : Hid ((D k).kind = 0) := show (D k).kind = 0 by simpa using hkz
        cases hmk : m k with
        | true =>
          rw [hmk] at rc
          have HX : Hid (Reach n D k) := (HM.out k).1 hmk
          clear hmk
          go_wp2
          go_ret
          exact ⟨HR.out.1.bel, false, rfl, fun h => (by cases h), fun h => absurd HZ.out ((h k hlt).1 HX.out)⟩
        | false =>
          rw [hmk] at rc
          have HX : Hid (Reach n D k ↔ (D k).kind ≠ 0) := ⟨fun h => (by have := (HM.out k).2 h; rw [hmk] at this; cases this), fun h => absurd HZ.out h⟩
          clear hmk
          go_wp2
          go_roundw
          case rel => exact ⟨k + 1, by omega, by go_num, HR.out.1, HR.out.2.1, fun i h2 => by
            by_cases e : i = k
            · subst e; exact HX.out
            · exact HR.out.2.2 i (by omega)⟩
          case measure => simp [intOf]; omega
      | false =>
        have HZ : Hid (¬ (D k).kind = 0) := show ¬ (D k).kind = 0 by simpa using hkz
        cases hmk : m k with
        | false =>
          rw [hmk] at rc
          have HX : Hid (¬ Reach n D k) := fun h => (by have := (HM.out k).2 h; rw [hmk] at this; cases this)
          clear hmk
          go_wp2
          go_ret
          exact ⟨HR.out.1.bel, false, rfl, fun h => (by cases h), fun h => absurd ((h k hlt).2 HZ.out) HX.out⟩
        | true =>
          rw [hmk] at rc
          have HX : Hid (Reach n D k ↔ (D k).kind ≠ 0) := ⟨fun _ => HZ.out, fun _ => (HM.out k).1 hmk⟩
          clear hmk
          go_wp2
          go_roundw
          case rel => exact ⟨k + 1, by omega, by go_num, HR.out.1, HR.out.2.1, fun i h2 => by
            by_cases e : i = k
            · subst e; exact HX.out
            · exact HR.out.2.2 i (by omega)⟩
          case measure => simp [intOf]; omega
    · have HALL : Hid (Below w.heap.size w wr ∧ ∀ i, i < n → (Reach n D i ↔ (D i).kind ≠ 0)) := ⟨hin.bel, fun i h2 => hall i (by omega)⟩
      clear hin hrow hall HIN
      go_wp2
      go_ret
      exact ⟨HALL.out.1, true, rfl, fun _ => HALL.out.2, fun _ => rfl⟩

set_option maxHeartbeats 2000000 in
theorem implTreeOk : ImplTreeOk := by
  intro a n c now D L w hS hf hn hsz hnow
  have hn' := hn
  unfold maxLen at hn'
  have out : ∀ (e : Ending) (w' : World), Below w.heap.size w w' → e = .returned (.bool false) → ¬ TreeGood n D now → Below w.heap.size w w' ∧ ∃ r : Bool, e = .returned (.bool r) ∧ (r = true ↔ TreeGood n D now) :=
    fun e w' hb he hg => ⟨hb, false, he, fun h => (by cases h), fun h => absurd h hg⟩
  by_cases g1 : n < 1
  · have hb1 : decide ((n : Int) < 1) = true := by simp; omega
    have HG : Hid (¬ TreeGood n D now) := fun h => by have := h.some; omega
    unfold trV
    go_enter Try.func16, Try.ntmps16
    go_wp2_with fail
    go_ret
    exact out _ _ ((Below.refl _ _).alloc (Nat.le_refl _) _) rfl HG.out
  · have hb1 : decide ((n : Int) < 1) = false := by simp; omega
    by_cases g2 : 10 < n
    · have hb2 : decide (10 < (n : Int)) = true := by simp; omega
      have HG : Hid (¬ TreeGood n D now) := fun h => by have := h.few; omega
      unfold trV
      go_enter Try.func16, Try.ntmps16
      go_wp2_with fail
      go_ret
      exact out _ _ ((Below.refl _ _).alloc (Nat.le_refl _) _) rfl HG.out
    · have hb2 : decide (10 < (n : Int)) = false := by simp; omega
      cases hto : turnIn now 1000 with
      | false =>
        have HG : Hid (¬ TreeGood n D now) := fun h => by
          have h1 := h.begun
          have h2 := h.soon
          unfold turnIn at hto
          rw [decide_eq_true h1, decide_eq_true h2] at hto
          cases hto
        unfold trV
        go_enter Try.func16, Try.ntmps16
        go_wp2_with (go_at_call 38; refine (turnOk_any _ _ _).mono ?_; rintro e w' ⟨rfl, rfl⟩; rw [hto])
        go_ret
        exact out _ _ ((Below.refl _ _).alloc (Nat.le_refl _) _) rfl HG.out
      | true =>
        have HT : Hid (1 ≤ now ∧ now ≤ 1000) := by
          show 1 ≤ now ∧ now ≤ 1000
          unfold turnIn at hto
          simpa using hto
        obtain ⟨b, off, rfl, hlt2, hc⟩ := hS.at (show 0 < n by omega)
        have c0 := (hc 0 (by omega)).1
        rw [Nat.zero_mul, Nat.add_zero] at c0
        clear hc
        by_cases g5 : (D 0).kind = 2
        · have hb5 : ((D 0).kind != 2) = false := by simp [g5]
          have H5 : Hid ((D 0).kind = 2) := g5
          clear g5
          unfold trV
          go_enter Try.func16, Try.ntmps16
          go_wp2_with (go_at_call 38; refine (turnOk_any _ _ _).mono ?_; rintro e w' ⟨rfl, rfl⟩; rw [hto])
          clear c0
          go_loopw [30] (fun i wr => ∃ k : Nat, k ≤ n ∧ i = .int .i64 k ∧ RefsIn w (some ⟨b, off, none⟩) n c now wr ∧ ∀ i, i < k → ndOk n D now (D i) = true) (fun i _ => n - (intOf i).toNat)
          case atStart => exact ⟨0, Nat.zero_le _, rfl, ⟨(new1 w _ _).b0, (new1 w _ _).bel⟩, fun i hi => by omega⟩
          case round =>
            obtain ⟨k, hk, rfl, hin, hall⟩ := hrel
            have t0 : wr.cell? ⟨w.heap.size, 0, none⟩ = some (.slice (some ⟨b, off, none⟩) n c) := hin.t.cell 0
            have t1 : wr.cell? ⟨w.heap.size, 1, none⟩ = some (.int .i64 now) := hin.t.cell 1
            have hSr := hS.below (Nat.le_refl _) hin.bel
            have hwl : w.heap.size < wr.heap.size := hin.t.lt
            by_cases hlt : k < n
            · obtain ⟨b', off', ha, hlt2', hc⟩ := hSr.at hlt
              cases ha
              obtain ⟨c0, c1, c2, c3, c4, hI⟩ := hc k hlt
              have hki : (k : Int) < (n : Int) := by omega
              have HIN : Hid (RefsIn w (some ⟨b, off, none⟩) n c now wr ∧ ∀ i, i < k → ndOk n D now (D i) = true) := ⟨hin, hall⟩
              clear hc hin hall
              go_wp2_with fail
              refine at_world (F := New1 wr _ _) (new1 wr _ _) ?_
              rintro W ⟨hp, hb, hs⟩
              refine (placeOk_any _ n c now D L (D k) (L k) W (hSr.below (Nat.le_refl _) hb) (hI.below (Nat.le_refl _) hb) (hf k hlt) hn).mono ?_
              rintro e w1 ⟨hb1', rfl⟩
              have hbw : Below wr.heap.size wr w1 := hb.trans (hb1'.mono (by omega))
              have HN : Hid (RefsIn w (some ⟨b, off, none⟩) n c now w1) := ⟨HIN.out.1.t.below hbw hwl, HIN.out.1.bel.trans (hbw.mono HIN.out.1.bel.size)⟩
              clear hp hb hs hb1' hbw c0 c1 c2 c3 c4 hI hSr t0 t1
              cases hq : ndOk n D now (D k) with
              | false =>
                have HQ : Hid (¬ TreeGood n D now) := fun h => by have := h.nodes k hlt; rw [hq] at this; cases this
                clear hq
                go_wp2
                go_ret
                exact out _ _ HN.out.bel rfl HQ.out
              | true =>
                have HQ : Hid (ndOk n D now (D k) = true) := hq
                clear hq
                go_wp2
                go_roundw
                case rel => exact ⟨k + 1, by omega, by go_num, HN.out, fun i hi => by
                  by_cases e : i = k
                  · subst e; exact HQ.out
                  · exact HIN.out.2 i (by omega)⟩
                case measure => simp [intOf]; omega
            · have hke : k = n := by omega
              have HALL : Hid (∀ i, i < n → ndOk n D now (D i) = true) := fun i hi => hall i (by omega)
              have HIN : Hid (RefsIn w (some ⟨b, off, none⟩) n c now wr) := hin
              clear hke hall hin
              go_wp2_with fail
              refine (reachOk_any _ n c now D L wr hSr (by omega) (by omega) (fun i hi => (hf i hi).kn) (kids_in HALL.out)).mono ?_
              rintro e w1 ⟨hb1', r, rfl, hr⟩
              have hN1 : RefsIn w (some ⟨b, off, none⟩) n c now w1 := ⟨HIN.out.t.below hb1' hwl, HIN.out.bel.trans (hb1'.mono HIN.out.bel.size)⟩
              have T0 : w1.cell? ⟨w.heap.size, 0, none⟩ = some (.slice (some ⟨b, off, none⟩) n c) := hN1.t.cell 0
              have T1 : w1.cell? ⟨w.heap.size, 1, none⟩ = some (.int .i64 now) := hN1.t.cell 1
              have HN1 : Hid (RefsIn w (some ⟨b, off, none⟩) n c now w1 ∧ (r = true ↔ ∀ i, i < n → (Reach n D i ↔ (D i).kind ≠ 0))) := ⟨hN1, hr⟩
              clear hb1' hN1 hr t0 t1 hSr
              cases r with
              | false =>
                have HQ : Hid (¬ TreeGood n D now) := fun h => by
                  have := HN1.out.2.2 (fun i hi => by
                    by_cases e : i = 0
                    · subst e; exact ⟨fun _ => by rw [H5.out]; decide, fun _ => .root⟩
                    · exact h.reach i (by omega) hi)
                  cases this
                go_wp2
                go_ret
                exact out _ _ HN1.out.1.bel rfl HQ.out
              | true =>
                go_wp2_with fail
                refine (namedOnce_any _ n c now D L w1 (hS.below (Nat.le_refl _) HN1.out.1.bel) (by omega) hsz (fun i hi => (hf i hi).kn) (kids_in HALL.out)).mono ?_
                rintro e w2 ⟨hb2', r2, rfl, hr2⟩
                have HE : Hid (Below w.heap.size w w2 ∧ (r2 = true ↔ TreeGood n D now)) := ⟨HN1.out.1.bel.trans (hb2'.mono HN1.out.1.bel.size),
                  fun h => ⟨by omega, by omega, HT.out.1, HT.out.2, H5.out, HALL.out, fun i _ hi => HN1.out.2.1 (by trivial) i hi, hr2.1 h⟩, fun h => hr2.2 h.one⟩
                clear hb2' hr2
                go_wp2
                go_ret
                exact ⟨HE.out.1, r2, rfl, HE.out.2⟩
        · have hb5 : ((D 0).kind != 2) = true := by simpa using g5
          have HG : Hid (¬ TreeGood n D now) := fun h => g5 h.root
          clear g5
          unfold trV
          go_enter Try.func16, Try.ntmps16
          go_wp2_with (go_at_call 38; refine (turnOk_any _ _ _).mono ?_; rintro e w' ⟨rfl, rfl⟩; rw [hto])
          go_ret
          exact out _ _ ((Below.refl _ _).alloc (Nat.le_refl _) _) rfl HG.out
end Go.Proofs.Ytomacpailikmoac

/-
  What kidsByName of the program answers: a map from the names of a place to its places.
-/
namespace Go.Proofs.Ytomacpailikmoac
open Go.RowKit Go.Maps Go.WideMaps
set_option linter.unusedVariables false

theorem law : Keyed Try.prog 9 := string_keyed Try.underlying9
theorem zeroInt (w : World) : (zeroValue 3).run Try.prog w = .ok (.int .i64 0) w := by kernel_rfl

/-- What a name reads as. -/
def keyL (s : ByteArray) : Lit := .string s.data.toList

/-- The map has the first k names, and at each its place. -/
structure Kept (S : Nat → ByteArray) (Z : Nat → Int) (k : Nat) (M : DataW Unit) : Prop where
  isMap : IsMap M
  has : ∀ s : ByteArray, Maps.has M (keyL s) = true ↔ ∃ i, i < k ∧ (S i).toList = s.toList
  at_ : ∀ i, i < k → ∀ z, M.atKey (keyL (S i)) z = .lit (.int .i64 (Z i))

theorem run_makeMap_hint (n : Int) (w : World) : (Instr.makeMap 50 (some (.int .i64 n))).run Try.prog w = .ok (.map (some w.heap.size)) (w.alloc (.map #[] 0)) := by
  simp [Instr.makeMap, run_underlying Try.underlying50, asInt, asIntOf, Result.andThen]

theorem keyL_ne {s t : ByteArray} (h : ¬ s.toList = t.toList) : keyL s ≠ keyL t := by
  intro e
  unfold keyL at e
  simp only [Lit.string.injEq] at e
  exact h (by rw [ByteArray.toList_eq, ByteArray.toList_eq, e])

theorem keyL_eq {s t : ByteArray} (h : s.toList = t.toList) : keyL s = keyL t := by
  unfold keyL
  rw [← ByteArray.toList_eq, ← ByteArray.toList_eq, h]

theorem kept_start (S : Nat → ByteArray) (Z : Nat → Int) : Kept S Z 0 (.map []) := ⟨isMap_empty, fun s => ⟨fun h => by simp [Maps.has] at h, fun h => by obtain ⟨i, hi, _⟩ := h; omega⟩, fun i hi => by omega⟩

theorem Kept.step {S : Nat → ByteArray} {Z : Nat → Int} {k : Nat} {M : DataW Unit} (h : Kept S Z k M) (hne : ∀ i, i < k → ¬ (S i).toList = (S k).toList) : Kept S Z (k + 1) (M.put (keyL (S k)) (.lit (.int .i64 (Z k)))) := by
  refine ⟨h.isMap.put _ _, fun s => ?_, fun i hi z => ?_⟩
  · by_cases e : (S k).toList = s.toList
    · rw [← keyL_eq e, has_put_same h.isMap (show WideAt.IsKeyLit (keyL (S k)) from trivial)]
      exact ⟨fun _ => ⟨k, by omega, e⟩, fun _ => rfl⟩
    · rw [has_put_other (keyL_ne (fun e' => e e'.symm)), h.has s]
      constructor
      · rintro ⟨i, hi, he⟩; exact ⟨i, by omega, he⟩
      · rintro ⟨i, hi, he⟩
        by_cases e2 : i = k
        · subst e2; exact absurd he e
        · exact ⟨i, by omega, he⟩
  · by_cases e : i = k
    · subst e; exact atKey_put_same h.isMap (show WideAt.IsKeyLit (keyL (S i)) from trivial) _ _
    · rw [atKey_put_other (keyL_ne (hne i (by omega)))]; exact h.at_ i (by omega) z

/-- What is known within kidsByName. -/
structure KbIn (w : World) (d : Nd) (l : Loc) (M : DataW Unit) (k : Nat) (W : World) : Prop where
  d : Blk W w.heap.size #[.int .i64 d.kind, .string d.text, .slice l.nA d.nn l.nc, .slice l.kA d.kn l.kc, .int .i64 d.turn] 32
  own : W.ownsMap Try.prog 9 (plainElem Try.prog 3) (w.heap.size + 1) k M
  bel : Below w.heap.size w W

set_option maxHeartbeats 2000000 in
theorem kidsByName_any (d : Nd) (l : Loc) (w : World) (hI : NdIn w d l) (hf : d.Fits) (hk : d.kn = d.nn) (hinj : ∀ i j, i < d.nn → j < d.nn → (d.names i).toList = (d.names j).toList → i = j) :
    Calls Try.prog 25 #[ndV d l] w fun e w' => Below w.heap.size w w' ∧ ∃ b M, e = .returned (.map (some b)) ∧ w'.ownsMap Try.prog 9 (plainElem Try.prog 3) b d.nn M ∧ Kept d.names d.kids d.nn M := by
  have hnn := hf.nn
  have hkn := hf.kn
  have HK : Hid (d.kn = d.nn) := hk
  clear hk
  unfold maxLen at hnn hkn
  unfold ndV
  have hmm := run_makeMap_hint
  go_enter Try.func25, Try.ntmps25
  go_wp2
  go_loopw [13] (fun i wr => ∃ (k : Nat) (M : DataW Unit), k ≤ d.nn ∧ i = .int .i64 k ∧ KbIn w d l M k wr ∧ Kept d.names d.kids k M) (fun i _ => d.nn - (intOf i).toNat)
  case atStart =>
    have h1 := new1 w #[.int .i64 d.kind, .string d.text, .slice l.nA d.nn l.nc, .slice l.kA d.kn l.kc, .int .i64 d.turn] 32
    refine ⟨0, .map [], Nat.zero_le _, rfl, ⟨h1.b0.alloc _, ?_, h1.bel.alloc (by simp) _⟩, kept_start _ _⟩
    have := World.ownsMap_made (H := Unit) (w.alloc (.cells #[.int .i64 d.kind, .string d.text, .slice l.nA d.nn l.nc, .slice l.kA d.kn l.kc, .int .i64 d.turn] 32)) Try.prog 9 (plainElem Try.prog 3)
    rw [h1.size] at this
    exact this
  case round =>
    obtain ⟨k, M, hk', rfl, hin, hkept⟩ := hrel
    have d2 : wr.cell? ⟨w.heap.size, 2, none⟩ = some (.slice l.nA d.nn l.nc) := hin.d.cell 2
    have d3 : wr.cell? ⟨w.heap.size, 3, none⟩ = some (.slice l.kA d.kn l.kc) := hin.d.cell 3
    clear hmm
    by_cases hlt : k < d.nn
    · have hIr := hI.below (Nat.le_refl _) hin.bel
      obtain ⟨b, off, ha, hlt2, hc⟩ := hIr.1.at hlt
      obtain ⟨b', off', ha', hlt2', hc'⟩ := hIr.2.at (show k < d.kn by have := HK.out; omega)
      have h1 := hc k hlt
      have h2 := hc' k (by have := HK.out; omega)
      rw [ha] at d2
      rw [ha'] at d3
      rw [ha, ha']
      have hlti : (k : Int) < (d.nn : Int) := by omega
      have hltk : (k : Int) < (d.kn : Int) := by have := HK.out; omega
      have hkey : keyOf Try.prog 9 (.string (d.names k)) = some (keyL (d.names k)) := keyOf_string_mk Try.underlying9 (hf.names k hlt)
      have hwf : (Lit.int .i64 (d.kids k)).wf = true := by
        have := hf.kids k (by have := HK.out; omega)
        unfold In64 at this
        exact WalkArith.wf_i64 (by omega)
      have hown := hin.own
      have HIN : Hid (KbIn w d l M k wr ∧ Kept d.names d.kids k M) := ⟨hin, hkept⟩
      clear hc hc' hIr hin hkept
      go_wp2_with (at_mapUpdate; refine wpList_mapUpdate_own _ rfl _ _ _ 50 rfl 9 3 law Try.underlying50 _ (w.heap.size + 1) k _ rfl hown (by unfold maxLen; omega) _ _ _ rfl rfl hkey _ [] (plainElem_int Try.underlying3 hwf) ?_)
      intro w1 hown1 hgrow1
      have HN : Hid (KbIn w d l (M.put (keyL (d.names k)) (.lit (.int .i64 (d.kids k)))) (k + 1) w1 ∧ Kept d.names d.kids (k + 1) (M.put (keyL (d.names k)) (.lit (.int .i64 (d.kids k))))) :=
        ⟨⟨HIN.out.1.d.of_block (hgrow1.block _ HIN.out.1.d.lt (by simp)), hown1, HIN.out.1.bel.grown hgrow1 (by have := HIN.out.1.d.lt; omega) (fun g hg => by cases hg; omega)⟩, HIN.out.2.step (fun i hi e => by have := hinj i k (by omega) hlt e; omega)⟩
      clear hown1 hgrow1 hown d2 d3 h1 h2
      go_wp2
      go_roundw
      case rel => exact ⟨k + 1, _, by omega, by go_num, HN.out.1, HN.out.2⟩
      case measure => simp [intOf]; omega
    · have hke : k = d.nn := by omega
      have HIN : Hid (KbIn w d l M d.nn wr ∧ Kept d.names d.kids d.nn M) := ⟨hke ▸ hin, hke ▸ hkept⟩
      clear hke hin hkept
      go_wp2
      go_ret
      exact ⟨HIN.out.1.bel, _, M, rfl, HIN.out.1.own, HIN.out.2⟩
end Go.Proofs.Ytomacpailikmoac

/-
  What TreeFind of the program answers.
-/
namespace Go.Proofs.Ytomacpailikmoac
open Go.RowKit Go.Maps Go.WideMaps
set_option linter.unusedVariables false

/-- What TreeFind of the program has to keep. -/
def ImplTreeFind : Prop := ∀ (a : Option Addr) (n c : Nat) (now : Int) (D : Nat → Nd) (L : Nat → Loc) (pa : Option Addr) (m pc : Nat) (S : Nat → ByteArray) (w : World), IsNds w a n D L → IsStrs w pa m S → FitAll n D → n ≤ maxLen → sizeTo D n ≤ 1048576 → In64 now → m ≤ maxLen → Small m S →
    Calls Try.prog 8 #[trV a n c now, .slice pa m pc] w fun e w' => Below w.heap.size w w' ∧ ∃ r, e = .returned (.int .i64 r) ∧ FindAre n D now m S r

set_option maxHeartbeats 2000000 in
theorem implTreeFind : ImplTreeFind := by
  intro a n c now D L pa m pc S w hS hP hf hn hsz hnow hm hsm
  have hn' := hn
  have hm' := hm
  unfold maxLen at hn' hm'
  unfold trV
  go_enter Try.func8, Try.ntmps8
  go_wp2_with fail
  refine at_world (F := New1 w _ _) (new1 w _ _) ?_
  rintro W ⟨hp, hb, hs⟩
  refine (implTreeOk a n c now D L W (hS.below (Nat.le_refl _) hb) hf hn hsz hnow).mono ?_
  rintro e w1 ⟨hb1, r, rfl, hr⟩
  have hp1 := hp.below hb1 (by omega)
  have HB : Hid (RefsIn w a n c now w1 ∧ (r = true ↔ TreeGood n D now)) := ⟨⟨hp1, hb.trans (hb1.mono (by omega))⟩, hr⟩
  clear hp hb hs hb1 hp1 hr
  cases r with
  | false =>
    have HN : Hid (FindAre n D now m S (-1)) := findAre_no (fun g => by have := HB.out.2.2 g.1; cases this)
    go_wp2_with fail
    go_ret
    exact ⟨HB.out.1.bel, -1, rfl, HN.out⟩
  | true =>
    have HG : Hid (TreeGood n D now) := HB.out.2.1 rfl
    go_wp2_with fail
    refine (implPathOk_any pa m pc S w1 (hP.below (Nat.le_refl _) HB.out.1.bel) hsm hm).mono ?_
    rintro e w2 ⟨rfl, rfl⟩
    cases hpo : pathOk m S with
    | false =>
      have HN : Hid (FindAre n D now m S (-1)) := findAre_no (fun g => by have := g.2.1; rw [hpo] at this; cases this)
      clear hpo
      go_wp2_with fail
      go_ret
      exact ⟨HB.out.1.bel, -1, rfl, HN.out⟩
    | true =>
      have HP : Hid (pathOk m S = true) := hpo
      clear hpo
      go_wp2_with fail
      go_loopw [5, 20] (fun x i wr => ∃ k y : Nat, k ≤ m ∧ i = .int .i64 k ∧ x = .int .i64 y ∧ RefsIn w a n c now wr ∧ Leads D S k y) (fun _ i _ => m - (intOf i).toNat)
      case atStart => exact ⟨0, 0, Nat.zero_le _, rfl, rfl, HB.out.1, .root⟩
      case round =>
        obtain ⟨k, y, hk, rfl, rfl, hin, hl⟩ := hrel
        have t0 : wr.cell? ⟨w.heap.size, 0, none⟩ = some (.slice a n c) := hin.t.cell 0
        have hwl : w.heap.size < wr.heap.size := hin.t.lt
        by_cases hlt : k < m
        · have hyn : y < n := hl.lt HG.out
          have hSr := hS.below (Nat.le_refl _) hin.bel
          have hPr := hP.below (Nat.le_refl _) hin.bel
          obtain ⟨b, off, rfl, hlt2, hc⟩ := hSr.at hyn
          obtain ⟨b', off', rfl, hlt2', hc'⟩ := hPr.at hlt
          obtain ⟨c0, c1, c2, c3, c4, hI⟩ := hc y hyn
          have p0 := hc' k hlt
          have hki : (k : Int) < (m : Int) := by omega
          have hyi : (y : Int) < (n : Int) := by omega
          have HIN : Hid (RefsIn w (some ⟨b, off, none⟩) n c now wr ∧ Leads D S k y ∧ NdIn wr (D y) (L y)) := ⟨hin, hl, hI⟩
          have hkn : (D y).kn = (D y).nn ∧ ∀ i j, i < (D y).nn → j < (D y).nn → ((D y).names i).toList = ((D y).names j).toList → i = j := by
            by_cases h0 : 0 < (D y).nn
            · have h := dir_of_names (HG.out.nodes y hyn) h0
              exact ⟨h.2.2, fun i j hi hj e => names_inj h.2.1 hi hj e⟩
            · refine ⟨?_, fun i j hi => by omega⟩
              have h := HG.out.nodes y hyn
              unfold ndOk at h
              split at h
              · unfold freeOk at h; simp at h; omega
              · split at h
                · unfold fileOk at h; simp at h; omega
                · split at h
                  · unfold dirOk at h
                    simp only [Bool.and_eq_true, decide_eq_true_eq] at h
                    exact h.1.1.2.2
                  · cases h
          have HKN : Hid _ := hkn
          clear hc hc' hin hl hI hkn hSr hPr
          have hkey : keyOf Try.prog 9 (.string (S k)) = some (keyL (S k)) := keyOf_string_mk Try.underlying9 (hsm k hlt)
          go_wp2_with fail
          refine (kidsByName_any (D y) (L y) wr HIN.out.2.2 (hf y hyn) HKN.out.1 HKN.out.2).mono ?_
          rintro e w3 ⟨hb3, bm, M, rfl, hown, hkept⟩
          have HN : Hid (RefsIn w (some ⟨b, off, none⟩) n c now w3 ∧ Kept (D y).names (D y).kids (D y).nn M) := ⟨⟨HIN.out.1.t.below hb3 hwl, HIN.out.1.bel.trans (hb3.mono HIN.out.1.bel.size)⟩, hkept⟩
          clear hb3 hkept c0 c1 c2 c3 c4 p0 t0 hwl hlt2 hlt2'
          go_wp2_with (at_lookup; refine wpList_lookup_own_ok_int _ rfl _ _ 50 rfl 9 3 .i64 law Try.underlying50 Try.underlying3 (zeroInt _) bm _ M rfl hown _ _ rfl hkey ?_; intro z hat hwz)
          · have hno : Maps.has M (keyL (S k)) = false := by
              have h : (!Maps.has M (keyL (S k))) = true := ‹_›
              simpa using h
            have HX : Hid (FindAre n D now m S (-1)) := findAre_no (fun g => (HIN.out.2.1.stuck g.1 (fun i hi e => by
              have := (HN.out.2.has (S k)).2 ⟨i, hi, e⟩
              rw [hno] at this; cases this) hlt) g.2.2)
            go_ret
            exact ⟨HN.out.1.bel, -1, rfl, HX.out⟩
          · have hyes : Maps.has M (keyL (S k)) = true := by
              have h : (!Maps.has M (keyL (S k))) = false := ‹_›
              simpa using h
            obtain ⟨i, hi, e⟩ := (HN.out.2.has (S k)).1 hyes
            have hz : (D y).kids i = z := by
              have h1 := HN.out.2.at_ i hi (.lit (.int .i64 0))
              rw [keyL_eq e, hat] at h1
              simpa using h1.symm
            have hkid := kids_in HG.out.nodes y hyn i (by have := HKN.out.1; omega)
            have hst := HIN.out.2.1.step hi e
            go_roundw
            case rel => exact ⟨k + 1, ((D y).kids i).toNat, by omega, by go_num, by rw [← hz]; congr 1; omega, HN.out.1, hst⟩
            case measure => simp [intOf]; omega
        · have hke : k = m := by omega
          have HX : Hid (FindAre n D now m S y ∧ Below w.heap.size w wr) := ⟨findAre_end HG.out HP.out (hke ▸ hl), hin.bel⟩
          clear hke hin hl
          go_wp2
          go_ret
          exact ⟨HX.out.2, _, rfl, HX.out.1⟩
end Go.Proofs.Ytomacpailikmoac

/-
  What TreeRefs of the specification answers.
-/
namespace Go.Proofs.Ytomacpailikmoac
open Go.RowKit
set_option linter.unusedVariables false

/-- How many names a place of a tree has; 0, if it is none. -/
structure RefsAre (n : Nat) (D : Nat → Nd) (now ino r : Int) : Prop where
  yes : TreeGood n D now → 0 ≤ ino → ino < n → r = refsTo D ino n
  no : ¬ (TreeGood n D now ∧ 0 ≤ ino ∧ ino < n) → r = 0

theorem RefsAre.one {n : Nat} {D : Nat → Nd} {now ino r r' : Int} (h : RefsAre n D now ino r) (h' : RefsAre n D now ino r') : r = r' := by
  by_cases g : TreeGood n D now ∧ 0 ≤ ino ∧ ino < n
  · rw [h.yes g.1 g.2.1 g.2.2, h'.yes g.1 g.2.1 g.2.2]
  · rw [h.no g, h'.no g]

set_option maxHeartbeats 2000000 in
theorem specTreeRefs_any (a : Option Addr) (n c : Nat) (now ino : Int) (D : Nat → Nd) (L : Nat → Loc) (w : World) (hS : IsNds w a n D L) (hf : FitAll n D) (hn : n ≤ maxLen) (hsz : sizeTo D n ≤ 1048576) :
    Calls Try.prog 18 #[trV a n c now, .int .i64 ino] w fun e w' => Below w.heap.size w w' ∧ ∃ r : Int, e = .returned (.int .i64 r) ∧ RefsAre n D now ino r := by
  unfold trV
  go_enter Try.func18, Try.ntmps18
  go_wp2_with fail
  refine at_world (F := New1 w _ _) (new1 w _ _) ?_
  rintro W ⟨hp, hb, hs⟩
  have hS0 := hS.below (Nat.le_refl _) hb
  refine (specTreeOk_any a n c now D L W hS0 hf hn hsz).mono ?_
  rintro e w1 ⟨hb1, r, rfl, hr⟩
  have hp1 := hp.below hb1 (by omega)
  have p0 : w1.cell? ⟨w.heap.size, 0, none⟩ = some (.slice a n c) := hp1.cell 0
  have p1 : w1.cell? ⟨w.heap.size, 1, none⟩ = some (.int .i64 now) := hp1.cell 1
  have HB : Hid (Below w.heap.size w w1 ∧ (r = true ↔ TreeGood n D now)) := ⟨hb.trans (hb1.mono (by omega)), hr⟩
  have hn' := hn
  unfold maxLen at hn'
  clear hp hb hs hS0 hb1 hp1 hr
  cases r with
  | false =>
    have HN : Hid (¬ TreeGood n D now) := fun h => by have := HB.out.2.2 h; cases this
    go_wp2_with fail
    go_ret
    exact ⟨HB.out.1, 0, rfl, fun h => absurd h HN.out, fun _ => rfl⟩
  | true =>
    have HN : Hid (TreeGood n D now) := HB.out.2.1 rfl
    by_cases h1 : ino < 0
    · have hb1 : decide (ino < 0) = true := by simp; omega
      go_wp2_with fail
      go_ret
      exact ⟨HB.out.1, 0, rfl, fun _ h => by omega, fun _ => rfl⟩
    · have hb1 : decide (ino < 0) = false := by simp; omega
      by_cases h2 : (n : Int) ≤ ino
      · have hb2 : decide ((n : Int) ≤ ino) = true := by simp; omega
        go_wp2_with fail
        go_ret
        exact ⟨HB.out.1, 0, rfl, fun _ _ h => by omega, fun _ => rfl⟩
      · have hb2 : decide ((n : Int) ≤ ino) = false := by simp; omega
        go_wp2_with fail
        refine (l2Refs_any a n c now ino D L w1 (hS.below (Nat.le_refl _) HB.out.1) hsz hn).mono ?_
        rintro e w2 ⟨hb2', rfl⟩
        have HB2 : Hid (Below w.heap.size w w2) := HB.out.1.trans (hb2'.mono HB.out.1.size)
        clear hb2'
        go_wp2_with fail
        go_ret
        exact ⟨HB2.out, _, rfl, fun _ _ _ => rfl, fun h => absurd ⟨HN.out, by omega, by omega⟩ h⟩
end Go.Proofs.Ytomacpailikmoac

/-
  What TreeRefs of the program has to keep.
-/
namespace Go.Proofs.Ytomacpailikmoac
open Go.RowKit

/-- What TreeRefs of the program has to keep. -/
def ImplTreeRefs : Prop := ∀ (a : Option Addr) (n c : Nat) (now ino : Int) (D : Nat → Nd) (L : Nat → Loc) (w : World), IsNds w a n D L → FitAll n D → n ≤ maxLen → sizeTo D n ≤ 1048576 → In64 now → In64 ino →
    Calls Try.prog 10 #[trV a n c now, .int .i64 ino] w fun e w' => Below w.heap.size w w' ∧ ∃ r : Int, e = .returned (.int .i64 r) ∧ RefsAre n D now ino r
end Go.Proofs.Ytomacpailikmoac

/-
  What TreeRefs of the program answers.
-/
namespace Go.Proofs.Ytomacpailikmoac
open Go.RowKit
set_option linter.unusedVariables false

set_option maxHeartbeats 2000000 in
theorem implTreeRefs : ImplTreeRefs := by
  intro a n c now ino D L w hS hf hn hsz hnow hino
  unfold trV
  go_enter Try.func10, Try.ntmps10
  go_wp2_with fail
  refine at_world (F := New1 w _ _) (new1 w _ _) ?_
  rintro W ⟨hp, hb, hs⟩
  have hS0 := hS.below (Nat.le_refl _) hb
  refine (implTreeOk a n c now D L W hS0 hf hn hsz hnow).mono ?_
  rintro e w1 ⟨hb1, r, rfl, hr⟩
  have hp1 := hp.below hb1 (by omega)
  have p0 : w1.cell? ⟨w.heap.size, 0, none⟩ = some (.slice a n c) := hp1.cell 0
  have p1 : w1.cell? ⟨w.heap.size, 1, none⟩ = some (.int .i64 now) := hp1.cell 1
  have HB : Hid (Below w.heap.size w w1 ∧ (r = true ↔ TreeGood n D now)) := ⟨hb.trans (hb1.mono (by omega)), hr⟩
  have hn' := hn
  unfold maxLen at hn'
  unfold In64 at hino
  clear hp hb hs hS0 hb1 hp1 hr
  cases r with
  | false =>
    have HN : Hid (¬ TreeGood n D now) := fun h => by have := HB.out.2.2 h; cases this
    go_wp2_with fail
    go_ret
    exact ⟨HB.out.1, 0, rfl, fun h => absurd h HN.out, fun _ => rfl⟩
  | true =>
    have HN : Hid (TreeGood n D now) := HB.out.2.1 rfl
    by_cases h1 : ino < 0
    · have hb1 : decide (ino < 0) = true := by simp; omega
      go_wp2_with fail
      go_ret
      exact ⟨HB.out.1, 0, rfl, fun _ h => by omega, fun _ => rfl⟩
    · have hb1 : decide (ino < 0) = false := by simp; omega
      by_cases h2 : (n : Int) ≤ ino
      · have hb2 : decide ((n : Int) ≤ ino) = true := by simp; omega
        go_wp2_with fail
        go_ret
        exact ⟨HB.out.1, 0, rfl, fun _ _ h => by omega, fun _ => rfl⟩
      · have hb2 : decide ((n : Int) ≤ ino) = false := by simp; omega
        obtain ⟨k, rfl⟩ : ∃ k : Nat, ino = k := ⟨ino.toNat, by omega⟩
        have hkn : k < n := by omega
        have hki : (k : Int) < (n : Int) := by omega
        go_wp2_with fail
        refine (refsOf_any a n c now D L w1 (hS.below (Nat.le_refl _) HB.out.1) (by have := HN.out.few; omega) hsz (fun i hi => (hf i hi).kn) (kids_in HN.out.nodes)).mono ?_
        rintro e w2 ⟨hb2', rfl, hrow⟩
        have rc : w2.cell? ⟨w1.heap.size + 1, k, none⟩ = some (.int .i64 (refsTo D k n)) := hrow.cell hkn
        have HB2 : Hid (Below w.heap.size w w2) := HB.out.1.trans (hb2'.mono HB.out.1.size)
        clear hb2' hrow
        go_wp2_with fail
        go_ret
        exact ⟨HB2.out, _, rfl, fun _ _ _ => rfl, fun h => absurd ⟨HN.out, by omega, by omega⟩ h⟩
end Go.Proofs.Ytomacpailikmoac

/-
  What is known of the names of a tree that is ok: how many there are, and to what. Plain facts.
-/
namespace Go.Proofs.Ytomacpailikmoac
open Go.RowKit
set_option linter.unusedVariables false

section
variable {n : Nat} {D : Nat → Nd} {now : Int}

theorem TreeGood.kids (h : TreeGood n D now) {i : Nat} (hi : i < n) {j : Nat} (hj : j < (D i).kn) : 1 ≤ (D i).kids j ∧ (D i).kids j < n ∧ (D ((D i).kids j).toNat).kind ≠ 0 := by
  have hk := h.nodes i hi
  unfold ndOk at hk
  split at hk
  · unfold freeOk at hk; simp at hk; omega
  split at hk
  · unfold fileOk at hk; simp at hk; omega
  split at hk
  · unfold dirOk at hk
    simp only [Bool.and_eq_true] at hk
    obtain ⟨⟨⟨⟨_, _⟩, hk, _⟩, _⟩, _⟩ := hk
    unfold kidsOk at hk
    have := List.all_eq_true.1 hk j (by simpa using hj)
    unfold kidOk at this
    simp at this
    exact ⟨this.1.1, this.1.2, this.2⟩
  · cases hk

theorem TreeGood.kinds (h : TreeGood n D now) {i : Nat} (hi : i < n) : (D i).kind = 0 ∨ (D i).kind = 1 ∨ (D i).kind = 2 := by
  have hk := h.nodes i hi
  unfold ndOk at hk
  split at hk
  · exact Or.inl ‹_›
  split at hk
  · exact Or.inr (Or.inl ‹_›)
  split at hk
  · exact Or.inr (Or.inr ‹_›)
  · cases hk

theorem TreeGood.kn_nn (h : TreeGood n D now) {i : Nat} (hi : i < n) : (D i).kn = (D i).nn := by
  have hk := h.nodes i hi
  unfold ndOk at hk
  split at hk
  · unfold freeOk at hk; simp at hk; omega
  split at hk
  · unfold fileOk at hk; simp at hk; omega
  split at hk
  · unfold dirOk at hk
    simp at hk
    exact hk.1.1.2.2
  · cases hk

theorem cnt_zero {Z : Nat → Int} {z : Int} : ∀ k, (∀ j, j < k → Z j ≠ z) → cnt Z z k = 0
  | 0, _ => rfl
  | k + 1, h => by
    rw [show cnt Z z (k + 1) = cnt Z z k + (if Z k = z then 1 else 0) from rfl, cnt_zero k (fun j hj => h j (by omega)), if_neg (h k (by omega))]

theorem cnt_pos {Z : Nat → Int} {z : Int} {j : Nat} (h : Z j = z) : ∀ k, j < k → 1 ≤ cnt Z z k
  | 0, hk => by omega
  | k + 1, hk => by
    rw [show cnt Z z (k + 1) = cnt Z z k + (if Z k = z then 1 else 0) from rfl]
    by_cases e : j = k
    · subst e; rw [if_pos h]; omega
    · have := cnt_pos h k (by omega); omega

theorem refsTo_zero {z : Int} : ∀ m, (∀ i, i < m → ∀ j, j < (D i).kn → (D i).kids j ≠ z) → refsTo D z m = 0
  | 0, _ => rfl
  | m + 1, h => by
    rw [show refsTo D z (m + 1) = refsTo D z m + cnt (D m).kids z (D m).kn from rfl, refsTo_zero m (fun i hi => h i (by omega)), cnt_zero _ (h m (by omega))]

theorem refsTo_pos {z : Int} {i j : Nat} (hj : j < (D i).kn) (h : (D i).kids j = z) : ∀ m, i < m → 1 ≤ refsTo D z m
  | 0, hm => by omega
  | m + 1, hm => by
    rw [show refsTo D z (m + 1) = refsTo D z m + cnt (D m).kids z (D m).kn from rfl]
    by_cases e : i = m
    · subst e; have := cnt_pos h _ hj; omega
    · have := refsTo_pos hj h m (by omega); omega

theorem TreeGood.refs_root (h : TreeGood n D now) : refsTo D 0 n = 0 := refsTo_zero n fun i hi j hj e => by have := (h.kids hi hj).1; omega

theorem TreeGood.refs_free (h : TreeGood n D now) {z : Nat} (hz : (D z).kind = 0) : refsTo D z n = 0 := refsTo_zero n fun i hi j hj e => by
  have := (h.kids hi hj).2.2
  rw [e] at this
  exact this (by simpa using hz)

theorem TreeGood.refs_file (h : TreeGood n D now) {z : Nat} (hz : z < n) (hk : (D z).kind ≠ 0) (h1 : 1 ≤ z) : 1 ≤ refsTo D z n := by
  have hr := (h.reach z h1 hz).2 hk
  cases hr with
  | root => omega
  | step hi' hin hj =>
    rename_i i j
    have hk := h.kids hin hj
    exact refsTo_pos hj (by omega) n hin

/-- The sum over the first k places of how many names they have. -/
def refSum (D : Nat → Nd) (m : Nat) : Nat → Nat | 0 => 0 | k + 1 => refSum D m k + refsTo D (k : Nat) m
def cntSum (Z : Nat → Int) (m : Nat) : Nat → Nat | 0 => 0 | k + 1 => cntSum Z m k + cnt Z (k : Nat) m
/-- The sum over the first k places of how many names are in them. -/
def nameSum (D : Nat → Nd) : Nat → Nat | 0 => 0 | k + 1 => nameSum D k + (D k).nn

theorem cntSum_succ {Z : Nat → Int} {m : Nat} : ∀ k, cntSum Z (m + 1) k = cntSum Z m k + (if 0 ≤ Z m ∧ Z m < k then 1 else 0)
  | 0 => by
    have : ¬ (0 ≤ Z m ∧ Z m < (0 : Nat)) := by omega
    rw [if_neg this]; rfl
  | k + 1 => by
    rw [show cntSum Z (m + 1) (k + 1) = cntSum Z (m + 1) k + cnt Z (k : Nat) (m + 1) from rfl, cntSum_succ k, show cntSum Z m (k + 1) = cntSum Z m k + cnt Z (k : Nat) m from rfl, show cnt Z (k : Nat) (m + 1) = cnt Z (k : Nat) m + (if Z m = (k : Nat) then 1 else 0) from rfl]
    split <;> split <;> split <;> omega

theorem cntSum_all {Z : Nat → Int} {k : Nat} : ∀ m, (∀ j, j < m → 0 ≤ Z j ∧ Z j < k) → cntSum Z m k = m
  | 0, _ => by
    induction k with
    | zero => rfl
    | succ k ih => rw [show cntSum Z 0 (k + 1) = cntSum Z 0 k + cnt Z (k : Nat) 0 from rfl, ih (fun j hj => absurd hj (Nat.not_lt_zero _))]; rfl
  | m + 1, h => by rw [cntSum_succ, cntSum_all m (fun j hj => h j (by omega)), if_pos (h m (by omega))]

theorem refSum_succ {m : Nat} : ∀ k, refSum D (m + 1) k = refSum D m k + cntSum (D m).kids (D m).kn k
  | 0 => rfl
  | k + 1 => by
    rw [show refSum D (m + 1) (k + 1) = refSum D (m + 1) k + refsTo D (k : Nat) (m + 1) from rfl, refSum_succ k, show refSum D m (k + 1) = refSum D m k + refsTo D (k : Nat) m from rfl, show refsTo D (k : Nat) (m + 1) = refsTo D (k : Nat) m + cnt (D m).kids (k : Nat) (D m).kn from rfl, show cntSum (D m).kids (D m).kn (k + 1) = cntSum (D m).kids (D m).kn k + cnt (D m).kids (k : Nat) (D m).kn from rfl]
    omega

theorem refSum_zero : ∀ k, refSum D 0 k = 0
  | 0 => rfl
  | k + 1 => by rw [show refSum D 0 (k + 1) = refSum D 0 k + refsTo D (k : Nat) 0 from rfl, refSum_zero k]; rfl

theorem TreeGood.sums (h : TreeGood n D now) : ∀ m, m ≤ n → refSum D m n = nameSum D m
  | 0, _ => refSum_zero n
  | m + 1, hm => by
    rw [refSum_succ, h.sums m (by omega), cntSum_all _ (fun j hj => by have := h.kids (show m < n by omega) hj; omega), h.kn_nn (show m < n by omega)]
    rfl

theorem nameSum_le (D : Nat → Nd) : ∀ k, nameSum D k ≤ sizeTo D k
  | 0 => Nat.le_refl _
  | k + 1 => by
    have := nameSum_le D k
    rw [show nameSum D (k + 1) = nameSum D k + (D k).nn from rfl, sizeTo_succ]
    unfold Nd.size
    omega

theorem refSum_le (D : Nat → Nd) (m : Nat) : ∀ k, refSum D m k ≤ k * sizeTo D m
  | 0 => by simp [refSum]
  | k + 1 => by
    have h1 := refSum_le D m k
    have h2 := refsTo_le D (k : Nat) m
    rw [show refSum D m (k + 1) = refSum D m k + refsTo D (k : Nat) m from rfl, Nat.add_mul]
    omega
end
end Go.Proofs.Ytomacpailikmoac

/-
  A list of texts behind another one: what the laws append. Plain facts.
-/
namespace Go.Proofs.Ytomacpailikmoac
open Go.RowKit
set_option linter.unusedVariables false

theorem take_cells {w : World} {g : Nat} {L : List ByteArray} (hc : ∀ i, i < L.length → w.cell? ⟨g, 0 + i, none⟩ = some (.string (L.getD i ByteArray.empty))) (k : Nat) :
    ∀ j u, (strv (L.take k))[j]? = some u → w.cell? ((⟨g, 0, none⟩ : Addr).add j) = some u := by
  intro j u h
  rw [show (⟨g, 0, none⟩ : Addr).add j = ⟨g, 0 + j, none⟩ by unfold Addr.add; split <;> simp_all]
  have hj : j < (strv (L.take k)).length := by
    by_cases hh : j < (strv (L.take k)).length
    · exact hh
    · rw [List.getElem?_eq_none (by omega)] at h; cases h
  rw [strv_length, List.length_take] at hj
  rw [hc j (by omega), ← h]
  simp [strv, List.getElem?_take_of_lt (show j < k by omega), show j < L.length by omega]

/-- The first n of a list, as a list. -/
def lst (n : Nat) (S : Nat → ByteArray) : List ByteArray := (List.range n).map S
theorem lst_length (n : Nat) (S : Nat → ByteArray) : (lst n S).length = n := by simp [lst]
theorem lst_getD (n : Nat) (S : Nat → ByteArray) (i : Nat) (h : i < n) : (lst n S).getD i ByteArray.empty = S i := by simp [lst, h]

/-- One list behind another. -/
def catS (n : Nat) (S T : Nat → ByteArray) : Nat → ByteArray := fun i => if i < n then S i else T (i - n)

theorem cat_getD (n m : Nat) (S T : Nat → ByteArray) (i : Nat) (h : i < n + m) : (lst n S ++ lst m T).getD i ByteArray.empty = catS n S T i := by
  unfold catS
  by_cases hi : i < n
  · simp [hi, lst, List.getElem?_append_left]
  · simp only [if_neg hi, List.getD_eq_getElem?_getD]
    rw [List.getElem?_append_right (by rw [lst_length]; omega), lst_length]
    simp [lst, show i - n < m by omega]

theorem IsStrs.congr {w : World} {a : Option Addr} {n : Nat} {S T : Nat → ByteArray} (h : IsStrs w a n S) (e : ∀ i, i < n → S i = T i) : IsStrs w a n T := by
  rcases h with h | ⟨b, off, ha, hlt, hc⟩
  · exact Or.inl h
  · exact Or.inr ⟨b, off, ha, hlt, fun i hi => by rw [hc i hi, e i hi]⟩

theorem lst_cells {w : World} {g n : Nat} {S : Nat → ByteArray} (hc : ∀ i, i < n → w.cell? ⟨g, 0 + i, none⟩ = some (.string (S i))) :
    ∀ j u, (strv (lst n S))[j]? = some u → w.cell? ((⟨g, 0, none⟩ : Addr).add j) = some u := by
  have := take_cells (w := w) (g := g) (L := lst n S) (fun i hi => by rw [lst_length] at hi; rw [hc i hi, lst_getD n S i hi]) n
  rw [List.take_of_length_le (by rw [lst_length]; exact Nat.le_refl _)] at this
  exact this

theorem strv_lst (n : Nat) (S : Nat → ByteArray) : (strv (lst n S)).length = n * 1 := by rw [strv_length, lst_length]; omega

/-- A way of one's own: a list of texts that lies in memory from block g on. -/
structure Lies (w : World) (g n cap : Nat) (S : Nat → ByteArray) : Prop where
  lt : g < w.heap.size
  cell : ∀ i, i < n → w.cell? ⟨g, 0 + i, none⟩ = some (.string (S i))
  room : n ≤ cap
  most : cap ≤ maxLen
  few : n ≤ 100
  short : ∀ i, i < n → (S i).size ≤ 5

theorem Lies.strs {w : World} {g n cap : Nat} {S : Nat → ByteArray} (h : Lies w g n cap S) : IsStrs w (some ⟨g, 0, none⟩) n S := Or.inr ⟨g, 0, rfl, h.lt, h.cell⟩
theorem Lies.small {w : World} {g n cap : Nat} {S : Nat → ByteArray} (h : Lies w g n cap S) : Small n S := fun i hi => by have := h.short i hi; unfold maxLen; omega
theorem Lies.below {w w' : World} {g n cap : Nat} {S : Nat → ByteArray} (h : Lies w g n cap S) (hb : Below w.heap.size w w') : Lies w' g n cap S :=
  ⟨Nat.lt_of_lt_of_le h.lt hb.size, fun i hi => (hb.cell (p := ⟨g, 0 + i, none⟩) h.lt).trans (h.cell i hi), h.room, h.most, h.few, h.short⟩
theorem Lies.drewN {w : World} {g n cap : Nat} {S : Nat → ByteArray} (h : Lies w g n cap S) (q : Nat) : Lies (w.drewN q) g n cap S := h.below (below_drewN (Below.refl _ _) q)
theorem Lies.len {w : World} {g n cap : Nat} {S : Nat → ByteArray} (h : Lies w g n cap S) : n ≤ maxLen := by have := h.few; unfold maxLen; omega
theorem Drawn.lies {w : World} {g n cap : Nat} {S : Nat → ByteArray} (h : Drawn w g n cap S) : Lies w g n cap S := ⟨h.lt, h.cell, h.room, h.most, by have := h.few; omega, fun i _ => h.short i⟩

theorem OwnsStrs.lies {w : World} {B : Nat} {v : Value} {L : List ByteArray} (h : OwnsStrs w B v L) (n : Nat) (S : Nat → ByteArray) (hn : L.length = n) (hS : ∀ i, i < n → L.getD i ByteArray.empty = S i) (h9 : n ≤ 100) (h5 : ∀ i, i < n → (S i).size ≤ 5) :
    ∃ g cap, v = .slice (some ⟨g, 0, none⟩) n cap ∧ B ≤ g ∧ Lies w g n cap S := by
  subst hn
  obtain ⟨g, cap, hv, hB, hlt, hc, hn, hm⟩ := h.hands
  exact ⟨g, cap, hv, hB, hlt, fun i hi => by rw [hc i hi, hS i hi], hn, hm, h9, h5⟩

theorem cat_right (n : Nat) (S T : Nat → ByteArray) (i : Nat) : catS n S T (n + i) = T i := by
  unfold catS; rw [if_neg (by omega), Nat.add_sub_cancel_left]
end Go.Proofs.Ytomacpailikmoac

/-
  More of where ways lead in a tree that is ok. Plain facts.
-/
namespace Go.Proofs.Ytomacpailikmoac
open Go.RowKit
set_option linter.unusedVariables false

section
variable {n : Nat} {D : Nat → Nd} {now : Int} {S S' : Nat → ByteArray}

theorem Leads.ext {m x : Nat} (h : Leads D S m x) : (∀ i, i < m → S' i = S i) → Leads D S' m x := by
  induction h with
  | root => intro _; exact Leads.root
  | step hl hi he ih =>
    intro hs
    exact Leads.step (ih (fun i hi => hs i (by omega))) hi (by rw [hs _ (Nat.lt_succ_self _)]; exact he)

theorem Leads.reach (hg : TreeGood n D now) {m x : Nat} (h : Leads D S m x) : Reach n D x := by
  induction h with
  | root => exact Reach.root
  | step hl hi he ih =>
    have hx := hl.lt hg
    exact Reach.step ih hx (by rw [hg.kn_nn hx]; exact hi)

theorem Leads.live (hg : TreeGood n D now) {m x : Nat} (h : Leads D S m x) : (D x).kind ≠ 0 := by
  rcases Nat.eq_zero_or_pos x with e | e
  · subst e; rw [hg.root]; decide
  · exact (hg.reach x e (h.lt hg)).1 (h.reach hg)

theorem TreeGood.name (hg : TreeGood n D now) {x : Nat} (hx : x < n) {i : Nat} (hi : i < (D x).nn) : nameOk ((D x).names i).data.toList = true := by
  have hd := (dir_of_names (hg.nodes x hx) (by omega)).2.1
  unfold dirNames at hd
  have := List.all_eq_true.1 hd i (by simpa using hi)
  simp only [Bool.and_eq_true] at this
  exact this.1

theorem cnt_two {Z : Nat → Int} {z : Int} {i j : Nat} (hij : j < i) (hj : Z j = z) (hi : Z i = z) : ∀ k, i < k → 2 ≤ cnt Z z k
  | 0, hk => by omega
  | k + 1, hk => by
    rw [show cnt Z z (k + 1) = cnt Z z k + (if Z k = z then 1 else 0) from rfl]
    by_cases e : i = k
    · subst e; rw [if_pos hi]; have := cnt_pos hj i hij; omega
    · have := cnt_two hij hj hi k (by omega); omega

theorem refsTo_two {z : Int} {x i j : Nat} (hij : j < i) (hi : i < (D x).kn) (h1 : (D x).kids j = z) (h2 : (D x).kids i = z) : ∀ m, x < m → 2 ≤ refsTo D z m
  | 0, hm => by omega
  | m + 1, hm => by
    rw [show refsTo D z (m + 1) = refsTo D z m + cnt (D m).kids z (D m).kn from rfl]
    by_cases e : x = m
    · subst e; have := cnt_two hij h1 h2 _ hi; omega
    · have := refsTo_two hij hi h1 h2 m (by omega); omega

theorem pathOk_more {m : Nat} {s : ByteArray} (h : pathOk m S = true) (hm : m < 5) (hs : nameOk s.data.toList = true) : pathOk (m + 1) (catS m S (fun _ => s)) = true := by
  unfold pathOk at *
  simp only [Bool.and_eq_true, decide_eq_true_eq] at *
  refine ⟨?_, by omega⟩
  have h1 := h.1
  unfold namesOk at *
  rw [List.all_eq_true] at *
  intro i hi
  have hi' : i < m + 1 := by simpa using hi
  unfold catS
  by_cases e : i < m
  · rw [if_pos e]; exact h1 i (by simpa using e)
  · rw [if_neg e]; exact hs

theorem leads_more {m x i : Nat} (h : Leads D S m x) (hi : i < (D x).nn) : Leads D (catS m S (fun _ => (D x).names i)) (m + 1) ((D x).kids i).toNat :=
  Leads.step (h.ext (fun j hj => by unfold catS; rw [if_pos hj])) hi (by unfold catS; rw [if_neg (Nat.lt_irrefl _)])
end
end Go.Proofs.Ytomacpailikmoac

/-
  A tree with free places more, behind all. Plain facts.
-/
namespace Go.Proofs.Ytomacpailikmoac
open Go.RowKit
set_option linter.unusedVariables false

/-- Places that are free behind the first n. -/
def padT (D : Nat → Nd) (n : Nat) : Nat → Nd := fun i => if i < n then D i else leafNd 0 0

theorem pad_lt (D : Nat → Nd) {n i : Nat} (h : i < n) : padT D n i = D i := by simp [padT, h]
theorem pad_ge (D : Nat → Nd) {n i : Nat} (h : n ≤ i) : padT D n i = leafNd 0 0 := by simp [padT, Nat.not_lt.2 h]

section
variable {n m : Nat} {D : Nat → Nd} {now : Int} {S : Nat → ByteArray}

theorem pad_refs {z : Int} : ∀ k, k ≤ n → refsTo (padT D n) z k = refsTo D z k
  | 0, _ => rfl
  | k + 1, h => by
    rw [show refsTo (padT D n) z (k + 1) = refsTo (padT D n) z k + cnt (padT D n k).kids z (padT D n k).kn from rfl, pad_refs k (by omega), pad_lt D (show k < n by omega)]
    rfl

theorem pad_refs_more {z : Int} : ∀ k, refsTo (padT D n) z (n + k) = refsTo D z n
  | 0 => pad_refs n (Nat.le_refl _)
  | k + 1 => by
    rw [show refsTo (padT D n) z (n + (k + 1)) = refsTo (padT D n) z (n + k) + cnt (padT D n (n + k)).kids z (padT D n (n + k)).kn from rfl, pad_refs_more k, pad_ge D (Nat.le_add_right n k)]
    rfl

theorem pad_reach (hg : TreeGood n D now) {i : Nat} (h : Reach m (padT D n) i) : i < n ∧ Reach n D i := by
  induction h with
  | root => exact ⟨hg.some, Reach.root⟩
  | step hr hi hj ih =>
    obtain ⟨h1, h2⟩ := ih
    rw [pad_lt D h1] at hj ⊢
    have hk := hg.kids h1 hj
    exact ⟨by omega, Reach.step h2 h1 hj⟩

theorem reach_pad (hg : TreeGood n D now) (hm : n ≤ m) {i : Nat} (h : Reach n D i) : Reach m (padT D n) i := by
  induction h with
  | root => exact Reach.root
  | step hr hi hj ih =>
    rename_i i j
    have := Reach.step (n := m) (D := padT D n) (i := i) (j := j) ih (by omega) (by rw [pad_lt D hi]; exact hj)
    rwa [pad_lt D hi] at this

theorem pad_nd (hg : TreeGood n D now) (hm : n ≤ m) {i : Nat} (hi : i < n) : ndOk m (padT D n) now (D i) = true := by
  have hk := hg.nodes i hi
  unfold ndOk at hk ⊢
  split
  · rename_i h; rw [if_pos h] at hk; exact hk
  · rename_i h; rw [if_neg h] at hk
    split
    · rename_i h1; rw [if_pos h1] at hk; exact hk
    · rename_i h1; rw [if_neg h1] at hk
      split
      · rename_i h2; rw [if_pos h2] at hk
        unfold dirOk at hk ⊢
        simp only [Bool.and_eq_true] at hk ⊢
        obtain ⟨⟨⟨⟨a1, a2⟩, a3, a4⟩, a5⟩, a6⟩ := hk
        refine ⟨⟨⟨⟨a1, a2⟩, ?_, a4⟩, a5⟩, a6⟩
        unfold kidsOk at a3 ⊢
        rw [List.all_eq_true] at a3 ⊢
        intro j hj
        have := a3 j hj
        unfold kidOk at this ⊢
        simp only [Bool.and_eq_true, decide_eq_true_eq] at this ⊢
        obtain ⟨⟨b1, b2⟩, b3⟩ := this
        refine ⟨⟨b1, by omega⟩, ?_⟩
        rw [pad_lt D (by omega)]
        exact b3
      · rename_i h2; rw [if_neg h2] at hk; exact hk

theorem pad_good (hg : TreeGood n D now) (hm : n ≤ m) (h10 : m ≤ 10) : TreeGood m (padT D n) now := by
  have h1 := hg.some
  refine ⟨by omega, h10, hg.begun, hg.soon, by rw [pad_lt D h1]; exact hg.root, fun i hi => ?_, fun i h1i hi => ?_, fun i h1i hi hk => ?_⟩
  · by_cases e : i < n
    · rw [pad_lt D e]; exact pad_nd hg hm e
    · rw [pad_ge D (by omega)]
      unfold ndOk leafNd
      rw [if_pos rfl]
      unfold freeOk
      simp
  · by_cases e : i < n
    · rw [pad_lt D e]
      exact ⟨fun h => (hg.reach i h1i e).1 (pad_reach hg h).2, fun h => reach_pad hg hm ((hg.reach i h1i e).2 h)⟩
    · rw [pad_ge D (by omega)]
      exact ⟨fun h => absurd (pad_reach hg h).1 e, fun h => absurd rfl h⟩
  · by_cases e : i < n
    · rw [pad_lt D e] at hk
      obtain ⟨k, rfl⟩ : ∃ k, m = n + k := ⟨m - n, by omega⟩
      rw [pad_refs_more k]
      exact hg.one i h1i e hk
    · rw [pad_ge D (by omega)] at hk
      exact absurd hk (by simp [leafNd])

theorem leads_pad (hg : TreeGood n D now) {k x : Nat} (h : Leads D S k x) : Leads (padT D n) S k x := by
  induction h with
  | root => exact Leads.root
  | step hl hi he ih =>
    rename_i k x i
    have hx := hl.lt hg
    have := Leads.step (D := padT D n) (S := S) (k := k) (x := x) (i := i) ih (by rw [pad_lt D hx]; exact hi) (by rw [pad_lt D hx]; exact he)
    rwa [pad_lt D hx] at this

theorem pad_leads (hg : TreeGood n D now) {k x : Nat} (h : Leads (padT D n) S k x) : Leads D S k x := by
  induction h with
  | root => exact Leads.root
  | step hl hi he ih =>
    have hx := ih.lt hg
    rw [pad_lt D hx] at hi he ⊢
    exact Leads.step ih hi he

theorem find_pad (hg : TreeGood n D now) (hm : n ≤ m) (h10 : m ≤ 10) {k : Nat} {r : Int} (h : FindAre n D now k S r) {r' : Int} (h' : FindAre m (padT D n) now k S r') : r' = r := by
  by_cases g : pathOk k S = true ∧ ∃ x, Leads D S k x
  · obtain ⟨g1, x, g2⟩ := g
    rw [h.yes hg g1 x g2, h'.yes (pad_good hg hm h10) g1 x (leads_pad hg g2)]
  · rw [h.no (fun e => g e.2), h'.no (fun e => g ⟨e.2.1, e.2.2.choose, pad_leads hg e.2.2.choose_spec⟩)]
end
end Go.Proofs.Ytomacpailikmoac

/-
  'append([]impl.Node{}, t.Nodes...)': a copy of the places of a drawn tree, over the same lists. Plain laws.
-/
namespace Go.Proofs.Ytomacpailikmoac
open Go.RowKit Go.Deep
set_option linter.unusedVariables false

/-- An empty list of places of one's own, made since wr. -/
structure RgE (wr W : World) (e0 : Nat) : Prop where
  bel : Below wr.heap.size wr W
  own : W.ownsRow wr.heap.size 32 5 (.slice (some ⟨e0, 0, none⟩) 0 0) 0 []
  up : wr.heap.size ≤ e0
  lt : e0 < W.heap.size

theorem RgE.alloc {wr W : World} {e0 : Nat} (h : RgE wr W e0) (o : Obj) : RgE wr (W.alloc o) e0 := ⟨h.bel.alloc h.bel.size _, h.own.alloc o, h.up, by have := h.lt; simp; omega⟩

theorem rgE_new {wr W : World} (h : Below wr.heap.size wr W) : RgE wr (W.alloc (.cells #[] 32)) W.heap.size :=
  ⟨h.alloc h.size _, ⟨rfl, Or.inr ⟨W.heap.size, 0, #[], rfl, h.size, blk_alloc_new _ _, Nat.le_refl _, by unfold maxLen; omega, rfl, rfl⟩⟩, h.size, by simp⟩

theorem rgE1 (wr : World) : RgE wr (wr.drew.alloc (.cells #[] 32)) wr.heap.size := rgE_new (below_drewN (Below.refl _ _) 1)
theorem rgE2 (wr : World) (o : Obj) : RgE wr ((wr.drew.alloc o).alloc (.cells #[] 32)) (wr.heap.size + 1) := by
  have := rgE_new ((below_drewN (Below.refl wr.heap.size wr) 1).alloc (Nat.le_refl _) o)
  have e : ((wr.drewN 1).alloc o).heap.size = wr.heap.size + 1 := by simp
  rw [e] at this
  exact this
theorem rgE0 (wr : World) : RgE wr (wr.alloc (.cells #[] 32)) wr.heap.size := rgE_new (Below.refl _ _)

section
variable {W W' : World} {B g cap n : Nat} {D : Nat → Nd} {L : Nat → Loc}

/-- The cells of the row, as they are appended. -/
theorem OwnT.news (h : OwnT W B g cap n D L) : ∃ news : List Value, news.length = n * 5 ∧ (∀ u ∈ news, u.oneCell' = true) ∧ ∀ j, j < n * 5 → news[j]? = W.cell? ⟨g, j, none⟩ := by
  obtain ⟨cur, hb, hcs⟩ := h.blk
  have hr := h.room
  have hl : (cur.toList.take (n * 5)).length = n * 5 := by simp [hcs]; omega
  have hc : ∀ j, j < n * 5 → (cur.toList.take (n * 5))[j]? = W.cell? ⟨g, j, none⟩ := fun j hj => by
    rw [List.getElem?_take_of_lt hj]
    simp [World.cell?, hb]
  refine ⟨_, hl, fun u hu => ?_, hc⟩
  obtain ⟨j, hj, he⟩ := List.getElem_of_mem hu
  rw [hl] at hj
  have h1 := hc j hj
  rw [List.getElem?_eq_getElem (by rw [hl]; exact hj), he] at h1
  obtain ⟨c0, c1, c2, c3, c4⟩ := h.cells (j / 5) (by omega)
  have hj5 : j % 5 = 0 ∨ j % 5 = 1 ∨ j % 5 = 2 ∨ j % 5 = 3 ∨ j % 5 = 4 := by omega
  rcases hj5 with e | e | e | e | e
  · rw [show j = j / 5 * 5 by omega, c0] at h1; cases h1; rfl
  · rw [show j = j / 5 * 5 + 1 by omega, c1] at h1; cases h1; rfl
  · rw [show j = j / 5 * 5 + 2 by omega, c2] at h1; cases h1; rfl
  · rw [show j = j / 5 * 5 + 3 by omega, c3] at h1; cases h1; rfl
  · rw [show j = j / 5 * 5 + 4 by omega, c4] at h1; cases h1; rfl

theorem OwnT.copied (h : OwnT W B g cap n D L) (hB : B ≤ W.heap.size) {news : List Value} (hnews : ∀ j, j < n * 5 → news[j]? = W.cell? ⟨g, j, none⟩) (hbel : Below W.heap.size W W') {g' c' : Nat} (hg' : W.heap.size ≤ g')
    (hown : W'.ownsRow W.heap.size 32 5 (.slice (some ⟨g', 0, none⟩) n c') n news) : OwnT W' B g' c' n D L := by
  rcases hown.2 with ⟨h0, _⟩ | ⟨g2, cap2, cur2, hv, hb2, hblk2, hn2, hm2, hs2, ht2⟩
  · cases h0
  cases hv
  have cell2 : ∀ j, j < n * 5 → W'.cell? ⟨g', j, none⟩ = W.cell? ⟨g, j, none⟩ := fun j hj => by
    rw [← hnews j hj, ← ht2, List.getElem?_take_of_lt hj]
    simp [World.cell?, hblk2]
  have hb := hbel.size
  refine ⟨⟨cur2, hblk2, hs2⟩, by omega, hn2, hm2, fun i hi => ?_, fun i hi => ?_⟩
  · rw [cell2 _ (by omega), cell2 _ (by omega), cell2 _ (by omega), cell2 _ (by omega), cell2 _ (by omega)]
    exact h.cells i hi
  · obtain ⟨h1, h3, h4⟩ := h.lists i hi
    exact ⟨h1.below (Nat.le_refl _) hbel, fun b o x e => by have := h3 b o x e; omega, fun b o x e => by have := h4 b o x e; omega⟩
end

theorem infoNode' : (Try.prog.info? 32).map (fun i => (i.zero, i.size, i.bytes)) = some (some (.agg #[.int .i64 0, .string ByteArray.empty, .slice none 0 0, .slice none 0 0, .int .i64 0]), 5, 80) := by kernel_rfl

/-- The append, at a step of a drawn region. -/
theorem copy_step {ops : Array Oper} {o : Oper} {a : Act} {K : Act → World → Prop} {Q : Exit → Act → World → Prop} {E : Prop} {wr WA : World} {e0 : Nat} (hgd : o.guard = none) (s x : Operand) (ho : o.op = .call { callee := .builtin .append, args := #[s, x], argTypes := #[23, 23] }) (hA : RgE wr WA e0)
    {B g cap n : Nat} {D : Nat → Nd} {L : Nat → Loc} (h : OwnT wr B g cap n D L) (hB : B ≤ wr.heap.size) (hn : n ≤ 1000) (hn1 : 1 ≤ n) (hs : a.eval s = .slice (some ⟨e0, 0, none⟩) 0 0) (hx : a.eval x = .slice (some ⟨g, 0, none⟩) n cap)
    (k : ∀ g' c' w', OwnT w' B g' c' n D L → wr.heap.size ≤ g' → Below wr.heap.size wr w' → WA.grownBy w' (some e0) → (g' = e0 ∨ WA.heap.size ≤ g') → K (a.put o.dst (.slice (some ⟨g', 0, none⟩) n c')) w') : if Region.wanted o (yielded ops a.tmps) = true then Oper.wp Try.prog o a WA K Q else E := by
  obtain ⟨i0, hi0, hz0, hz1, hz2⟩ := info_parts infoNode'
  obtain ⟨news, hl, h1, hc⟩ := h.news
  have hsz := hA.bel.size
  have hlt := h.lt
  have hw : Region.wanted o (yielded ops a.tmps) = true := by simp [Region.wanted, hgd]
  rw [if_pos hw]
  refine wp_append_lies WA s x 23 ho wr.heap.size 32 i0 _ 5 80 Try.underlying23 hi0 hz0 hz1 hz2 rfl (by decide) (.slice (some ⟨e0, 0, none⟩) 0 0) 0 [] hs hA.own ⟨g, 0, none⟩ n cap news hx hl (fun j u hu => ?_) h1 (by omega) (by unfold maxLen; omega) (by omega) hsz WA.heap.size rfl ?_
  · have hj : j < n * 5 := by
      rcases Nat.lt_or_ge j (n * 5) with e | e
      · exact e
      · rw [List.getElem?_eq_none (by omega)] at hu; cases hu
    rw [hc j hj] at hu
    rw [show (⟨g, 0, none⟩ : Addr).add j = ⟨g, j, none⟩ by unfold Addr.add; split <;> simp_all]
    exact (hA.bel.cell (p := ⟨g, j, none⟩) hlt).trans hu
  · intro g' c' w' hown hgrow hat hlt'
    have hgr : WA.grownBy w' (some e0) := by simpa [Value.ownBlock] using hgrow
    have hup := hA.up
    have hbel : Below wr.heap.size wr w' := hA.bel.grown hgr hsz (fun b e => by simp at e; omega)
    have hg' : wr.heap.size ≤ g' := by
      rcases hat with e | e
      · simp [Value.ownBlock] at e; omega
      · omega
    simp only [Nat.zero_add, List.nil_append] at hown
    have := k g' c' w' (h.copied hB hc hbel hg' hown) hg' hbel hgr (hat.elim (fun e => Or.inl (by simpa [Value.ownBlock] using e.symm)) (fun e => Or.inr (by omega)))
    simpa using this
end Go.Proofs.Ytomacpailikmoac

/-
  A copy of a drawn tree in a variable, with free places more. Plain facts.
-/
namespace Go.Proofs.Ytomacpailikmoac
open Go.RowKit Go.Deep
set_option linter.unusedVariables false

def padL (L : Nat → Loc) (n : Nat) : Nat → Loc := fun i => if i < n then L i else loc00

theorem OwnT.congr {W : World} {B g cap n : Nat} {D D' : Nat → Nd} {L L' : Nat → Loc} (h : OwnT W B g cap n D L) (hd : ∀ i, i < n → D' i = D i) (hl : ∀ i, i < n → L' i = L i) : OwnT W B g cap n D' L' :=
  ⟨h.blk, h.base, h.room, h.most, fun i hi => by rw [hd i hi, hl i hi]; exact h.cells i hi, fun i hi => by rw [hd i hi, hl i hi]; exact h.lists i hi⟩

/-- What is known of the copy x, which lies in block X: k places. -/
structure InX (w W4 : World) (X g' c' n k : Nat) (D : Nat → Nd) (L : Nat → Loc) (now : Int) (W : World) : Prop where
  bel : Below W4.heap.size W4 W
  x : Blk W X #[.slice (some ⟨g', 0, none⟩) k c', .int .i64 now] 25
  own : OwnT W w.heap.size g' c' k (padT D n) (padL L n)
  far : W4.heap.size ≤ X ∧ W4.heap.size ≤ g' ∧ g' ≠ X
  low : ∀ i, i < n → (∀ b o y, (L i).nA = some ⟨b, o, y⟩ → b < W4.heap.size) ∧ (∀ b o y, (L i).kA = some ⟨b, o, y⟩ → b < W4.heap.size)

theorem InX.away {w W4 : World} {X g' c' n k : Nat} {D : Nat → Nd} {L : Nat → Loc} {now : Int} {W : World} (h : InX w W4 X g' c' n k D L now W) : Away (fun b => b = X) g' k (padL L n) :=
  ⟨h.far.2.2, fun i hi => by
    unfold padL
    by_cases e : i < n
    · rw [if_pos e]
      exact ⟨fun b o y e1 e2 => by have := (h.low i e).1 b o y e1; have := h.far.1; omega, fun b o y e1 e2 => by have := (h.low i e).2 b o y e1; have := h.far.1; omega⟩
    · rw [if_neg e]
      exact ⟨fun b o y e1 => by simp [loc00] at e1, fun b o y e1 => by simp [loc00] at e1⟩⟩

/-- The copy has been made. -/
theorem InX.start {w W4 w7 W : World} {X g g' c c' n : Nat} {D : Nat → Nd} {L : Nat → Loc} {now : Int} (h4 : OwnT W4 w.heap.size g c n D L) (h7 : OwnT w7 w.heap.size g' c' n D L) (hg7 : W4.heap.size ≤ g') (hb : Below W4.heap.size W4 w7) (hX : W4.heap.size ≤ X) (hgX : g' ≠ X)
    (hs : w7.heap.size ≤ W.heap.size) (hW : ∀ b, b < w7.heap.size → b ≠ X → W.heap[b]? = w7.heap[b]?) (hos : W.os = w7.os ∧ W.tape = w7.tape ∧ W.output = w7.output) (hx : Blk W X #[.slice (some ⟨g', 0, none⟩) n c', .int .i64 now] 25) : InX w W4 X g' c' n n D L now W := by
  have hlow : ∀ i, i < n → (∀ b o y, (L i).nA = some ⟨b, o, y⟩ → b < W4.heap.size) ∧ (∀ b o y, (L i).kA = some ⟨b, o, y⟩ → b < W4.heap.size) := fun i hi => ⟨fun b o y e => ((h4.lists i hi).2.1 b o y e).2.2, fun b o y e => ((h4.lists i hi).2.2 b o y e).2.2⟩
  have hsz := hb.size
  have ha : Away (fun b => b = X) g' n L := ⟨hgX, fun i hi => ⟨fun b o y e e2 => by have := (hlow i hi).1 b o y e; omega, fun b o y e e2 => by have := (hlow i hi).2 b o y e; omega⟩⟩
  refine ⟨⟨hos.1.trans hb.os, hos.2.1.trans hb.tape, hos.2.2.trans hb.output, by omega, fun k hk => (hW k (by omega) (by omega)).trans (hb.block k hk)⟩, hx, ?_, ⟨hX, hg7, hgX⟩, hlow⟩
  exact (h7.other ha hs (fun b h1 h2 h3 => hW b h2 h3)).congr (fun i hi => pad_lt D hi) (fun i hi => by simp [padL, hi])


/-- A free place more: t.Nodes is appended to and written. -/
theorem InX.more {w W4 : World} {X g' c' n k : Nat} {D : Nat → Nd} {L : Nat → Loc} {now : Int} {W W' : World} (h : InX w W4 X g' c' n k D L now W) (hk : n ≤ k) {cur : Array Value} (hc : W.heap[g']? = some (.cells cur 32 (0, 0))) (hs : cur.size = c' * 5) {g2 c2 : Nat}
    (hown : W'.ownsRow w.heap.size 32 5 (.slice (some ⟨g2, 0, none⟩) (k + 1) c2) (k + 1) (cur.toList.take (k * 5) ++ leafCells 0 0)) (hgrow : W.grownBy W' (some g')) (hat : g' = g2 ∨ W.heap.size ≤ g2) :
    InX w W4 X g2 c2 n (k + 1) D L now (W'.setCell ⟨X, 0, none⟩ (.slice (some ⟨g2, 0, none⟩) (k + 1) c2)) := by
  have hf := h.far
  have hsz := h.bel.size
  have hxl := h.x.lt
  have hgl := h.own.lt
  have ho := h.own.appL hc hs hown hgrow hat
  have eD : putNd (padT D n) k (leafNd 0 0) = padT D n := by
    funext j
    by_cases e : j = k
    · subst e; rw [putNd_same, pad_ge D hk]
    · rw [putNd_ne _ _ e]
  have eL : putLoc (padL L n) k loc00 = padL L n := by
    funext j
    by_cases e : j = k
    · subst e; simp [putLoc, padL, Nat.not_lt.2 hk]
    · simp [putLoc, e]
  rw [eD, eL] at ho
  have hb : ∀ b, b < W.heap.size → b ≠ g' → W'.heap[b]? = W.heap[b]? := fun b h1 h2 => hgrow.block b h1 (by simpa using h2)
  have hf2 : W4.heap.size ≤ g2 ∧ g2 ≠ X := by rcases hat with e | e <;> omega
  have ha : Away (fun b => b = X) g2 (k + 1) (padL L n) := ⟨hf2.2, fun i hi => by
    unfold padL
    by_cases e : i < n
    · rw [if_pos e]
      exact ⟨fun b o y e1 e2 => by have := (h.low i e).1 b o y e1; omega, fun b o y e1 e2 => by have := (h.low i e).2 b o y e1; omega⟩
    · rw [if_neg e]
      exact ⟨fun b o y e1 => by simp [loc00] at e1, fun b o y e1 => by simp [loc00] at e1⟩⟩
  refine ⟨?_, (h.x.of_block (hb X hxl (Ne.symm hf.2.2))).set 0 _, ho.setOther ha rfl _ _, ⟨hf.1, hf2.1, hf2.2⟩, h.low⟩
  have hg2 := hgrow.size
  exact bel_put (h.bel.grown hgrow hsz (fun b e => by simp at e; omega)) _ hf.1

theorem InX.below {w W4 : World} {X g' c' n k : Nat} {D : Nat → Nd} {L : Nat → Loc} {now : Int} {W W' : World} (h : InX w W4 X g' c' n k D L now W) (hb : Below W.heap.size W W') : InX w W4 X g' c' n k D L now W' :=
  ⟨h.bel.trans (hb.mono h.bel.size), h.x.below hb h.x.lt, h.own.below hb, h.far, h.low⟩

theorem leaf0_fair : FairNd (leafNd 0 0) := ⟨Nat.zero_le _, Nat.zero_le _, fun j hj => absurd hj (Nat.not_lt_zero _), fun j hj => absurd hj (Nat.not_lt_zero _), by simp [leafNd], by simp [leafNd], by simp [leafNd]⟩

theorem pad_fair {n m : Nat} {D : Nat → Nd} (h : Fair n D) (hm : 1 ≤ m) (h11 : m ≤ 11) : Fair m (padT D n) := ⟨hm, h11, fun i hi => by
  by_cases e : i < n
  · rw [pad_lt D e]; exact h.each i e
  · rw [pad_ge D (by omega)]; exact leaf0_fair⟩

theorem pad_none {n : Nat} {D : Nat → Nd} {now : Int} (hg : TreeGood n D now) (h : n ≤ 10) : refsTo (padT D n) (n : Nat) 10 = 0 := by
  obtain ⟨k, hk⟩ : ∃ k, 10 = n + k := ⟨10 - n, by omega⟩
  rw [hk, pad_refs_more k]
  exact refsTo_zero n fun i hi j hj e => by have := (hg.kids hi hj).2.1; omega
end Go.Proofs.Ytomacpailikmoac

/-
  What NodeSame of the specification answers at two places.
-/
namespace Go.Proofs.Ytomacpailikmoac
open Go.RowKit
set_option linter.unusedVariables false

set_option maxHeartbeats 400000 in
theorem l2Ints_any (a a' : Option Addr) (n c m c' : Nat) (Z Y : Nat → Int) (w : World) (hS : IsInts w a n Z) (hT : IsInts w a' m Y) (hn : n ≤ maxLen) (hm : m ≤ maxLen) :
    Calls Try.prog 33 #[.slice a n c, .slice a' m c'] w fun e w' => (∃ q, w' = w.drewN q) ∧ e = .returned (.bool (decide (n = m) && eqZ n Z Y)) := by
  unfold maxLen at hn hm
  by_cases hne : n = m
  · subst hne
    have hb : ((n : Int) != (n : Int)) = false := by simp
    go_enter Try.func33, Try.ntmps33
    go_wp2
    go_loopw [5] (fun i wr => ∃ k q : Nat, k ≤ n ∧ i = .int .i64 k ∧ wr = w.drewN q ∧ eqZ k Z Y = true) (fun i _ => n - (intOf i).toNat)
    case atStart => exact ⟨0, 0, Nat.zero_le _, rfl, rfl, rfl⟩
    case round =>
      obtain ⟨k, q, hk, rfl, rfl, heq⟩ := hrel
      have HE : Hid (eqZ k Z Y = true) := heq
      clear heq
      by_cases hlt : k < n
      · obtain ⟨b, off, rfl, hlt2, hc⟩ := hS.at hlt
        obtain ⟨b', off', rfl, hlt2', hc'⟩ := hT.at hlt
        have h1 := hc k hlt
        have h2 := hc' k hlt
        have hlti : (k : Int) < (n : Int) := by omega
        clear hc hc'
        by_cases hzy : Z k = Y k
        · have hzb : (Z k != Y k) = false := by simp [hzy]
          have HZ : Hid (Z k = Y k) := hzy
          clear hzy
          go_wp2
          go_quiet (fail)
          go_wp2
          go_roundw
          case rel => exact ⟨k + 1, q + nq, by omega, by go_num, rfl, eqZ_succ k Z Y HE.out HZ.out⟩
          case measure => simp [intOf]; omega
        · have hzb : (Z k != Y k) = true := by simp [hzy]
          have HZ : Hid (¬ Z k = Y k) := hzy
          clear hzy
          go_wp2
          go_quiet (fail)
          go_wp2
          go_ret
          exact ⟨⟨q + nq, by simp⟩, ret_bool (by rw [← eqZ_not n k Z Y hlt HZ.out]; simp)⟩
      · have hkn : k = n := by omega
        have HK : Hid (k = n) := hkn
        clear hkn
        go_wp2
        go_ret
        exact ⟨⟨q, rfl⟩, ret_bool (by rw [← HK.out, HE.out]; simp)⟩
  · have hb : ((n : Int) != (m : Int)) = true := by simp; omega
    go_enter Try.func33, Try.ntmps33
    go_wp2
    go_ret
    exact ⟨⟨0, rfl⟩, ret_bool (by simp [hne])⟩

set_option maxHeartbeats 400000 in
theorem l2Texts_any (a a' : Option Addr) (n c m c' : Nat) (S T : Nat → ByteArray) (w : World) (hS : IsStrs w a n S) (hT : IsStrs w a' m T) (hn : n ≤ maxLen) (hm : m ≤ maxLen) :
    Calls Try.prog 32 #[.slice a n c, .slice a' m c'] w fun e w' => (∃ q, w' = w.drewN q) ∧ e = .returned (.bool (decide (n = m) && eqS n S T)) := by
  unfold maxLen at hn hm
  by_cases hne : n = m
  · subst hne
    have hb : ((n : Int) != (n : Int)) = false := by simp
    go_enter Try.func32, Try.ntmps32
    go_wp2
    go_loopw [5] (fun i wr => ∃ k q : Nat, k ≤ n ∧ i = .int .i64 k ∧ wr = w.drewN q ∧ eqS k S T = true) (fun i _ => n - (intOf i).toNat)
    case atStart => exact ⟨0, 0, Nat.zero_le _, rfl, rfl, rfl⟩
    case round =>
      obtain ⟨k, q, hk, rfl, rfl, heq⟩ := hrel
      have HE : Hid (eqS k S T = true) := heq
      clear heq
      by_cases hlt : k < n
      · obtain ⟨b, off, rfl, hlt2, hc⟩ := hS.at hlt
        obtain ⟨b', off', rfl, hlt2', hc'⟩ := hT.at hlt
        have h1 := hc k hlt
        have h2 := hc' k hlt
        have hlti : (k : Int) < (n : Int) := by omega
        clear hc hc'
        go_wp2
        go_quiet (fail)
        go_wp2
        · go_ret
          exact ⟨⟨q + nq, by simp⟩, ret_bool (by rw [← eqS_not n k S T hlt ‹_›]; simp)⟩
        · go_roundw
          case rel => exact ⟨k + 1, q + nq, by omega, by go_num, rfl, eqS_succ k S T HE.out ‹_›⟩
          case measure => simp [intOf]; omega
      · have hkn : k = n := by omega
        have HK : Hid (k = n) := hkn
        clear hkn
        go_wp2
        go_ret
        exact ⟨⟨q, rfl⟩, ret_bool (by rw [← HK.out, HE.out]; simp)⟩
  · have hb : ((n : Int) != (m : Int)) = true := by simp; omega
    go_enter Try.func32, Try.ntmps32
    go_wp2
    go_ret
    exact ⟨⟨0, rfl⟩, ret_bool (by simp [hne])⟩

set_option maxHeartbeats 1000000 in
theorem specNodeSame_any (d d' : Nd) (l l' : Loc) (w : World) (hI : NdIn w d l) (hI' : NdIn w d' l') (hf : d.Fits) (hf' : d'.Fits) :
    Calls Try.prog 13 #[ndV d l, ndV d' l'] w fun e w' => Below w.heap.size w w' ∧ e = .returned (.bool (d.same d')) := by
  have hn := hf.nn
  have hn' := hf'.nn
  have hk := hf.kn
  have hk' := hf'.kn
  unfold ndV
  cases h1 : (d.kind == d'.kind) with
  | false =>
    have H1 : Hid (d.same d' = false) := show d.same d' = false by unfold Nd.same; rw [h1]; rfl
    go_enter Try.func13, Try.ntmps13
    go_wp2_with fail
    go_ret
    exact ⟨((Below.refl _ _).alloc (Nat.le_refl _) _).alloc (by simp) _, ret_bool H1.out.symm⟩
  | true =>
    have H1 : Hid ((d.kind == d'.kind) = true) := h1
    cases h2 : (d.text.toList == d'.text.toList) with
    | false =>
      have H2 : Hid (d.same d' = false) := show d.same d' = false by unfold Nd.same; rw [h2]; simp
      go_enter Try.func13, Try.ntmps13
      go_wp2_with fail
      go_ret
      exact ⟨((Below.refl _ _).alloc (Nat.le_refl _) _).alloc (by simp) _, ret_bool H2.out.symm⟩
    | true =>
      have H2 : Hid ((d.text.toList == d'.text.toList) = true) := h2
      cases h3 : (d.turn == d'.turn) with
      | false =>
        have H3 : Hid (d.same d' = false) := show d.same d' = false by unfold Nd.same; rw [h3]; simp
        go_enter Try.func13, Try.ntmps13
        go_wp2_with fail
        go_ret
        exact ⟨((Below.refl _ _).alloc (Nat.le_refl _) _).alloc (by simp) _, ret_bool H3.out.symm⟩
      | true =>
        have H3 : Hid ((d.turn == d'.turn) = true) := h3
        go_enter Try.func13, Try.ntmps13
        go_wp2_with fail
        refine at_world (F := New2 w _ _ _ _) (new2 w _ _ _ _) ?_
        rintro W ⟨hp, hp', hb, hs⟩
        have hI1 := hI.below (Nat.le_refl _) hb
        have hI1' := hI'.below (Nat.le_refl _) hb
        refine (l2Texts_any l.nA l'.nA d.nn l.nc d'.nn l'.nc d.names d'.names W hI1.1 hI1'.1 hn hn').mono ?_
        rintro e w1 ⟨⟨q, rfl⟩, rfl⟩
        have p3 : W.cell? ⟨w.heap.size, 3, none⟩ = some (.slice l.kA d.kn l.kc) := hp.cell 3
        have q3 : W.cell? ⟨w.heap.size + 1, 3, none⟩ = some (.slice l'.kA d'.kn l'.kc) := hp'.cell 3
        have HI : Hid (IsInts W l.kA d.kn d.kids ∧ IsInts W l'.kA d'.kn d'.kids) := ⟨hI1.2, hI1'.2⟩
        have HB : Hid (Below w.heap.size w W) := hb
        clear hI1 hI1' hI hI' hp hp' hb hs hf hf'
        cases h4 : (decide (d.nn = d'.nn) && eqS d.nn d.names d'.names) with
        | false =>
          have H4 : Hid (d.same d' = false) := show d.same d' = false by unfold Nd.same; rw [h4]; simp
          clear h4
          go_wp2
          go_ret
          exact ⟨below_drewN HB.out _, ret_bool H4.out.symm⟩
        | true =>
          have H4 : Hid ((decide (d.nn = d'.nn) && eqS d.nn d.names d'.names) = true) := h4
          clear h4
          go_wp2_with fail
          refine (l2Ints_any l.kA l'.kA d.kn l.kc d'.kn l'.kc d.kids d'.kids (W.drewN q) (HI.out.1.below (Nat.le_refl _) (below_drewN (Below.refl _ _) _)) (HI.out.2.below (Nat.le_refl _) (below_drewN (Below.refl _ _) _)) hk hk').mono ?_
          rintro e w1 ⟨⟨q', rfl⟩, rfl⟩
          have H5 : Hid (d.same d' = (decide (d.kn = d'.kn) && eqZ d.kn d.kids d'.kids)) := show d.same d' = _ by unfold Nd.same; rw [H1.out, H2.out, H3.out, H4.out]; simp
          go_wp2
          go_ret
          exact ⟨below_drewN HB.out _, ret_bool H5.out.symm⟩
end Go.Proofs.Ytomacpailikmoac

/-
  What TreeSame of the specification answers at two trees.
-/
namespace Go.Proofs.Ytomacpailikmoac
open Go.RowKit
set_option linter.unusedVariables false

/-- Two trees are one. -/
def treeSame (n m : Nat) (D E : Nat → Nd) (now now' : Int) : Bool := (decide (n = m) && sameAll n D E) && (now == now')

/-- What is known within TreeSame. -/
structure TSIn (w : World) (a a' : Option Addr) (n c m c' : Nat) (now now' : Int) (t : TypeId) (W : World) : Prop where
  p : Blk W w.heap.size #[.slice a n c, .int .i64 now] t
  p' : Blk W (w.heap.size + 1) #[.slice a' m c', .int .i64 now'] t
  bel : Below w.heap.size w W

theorem TSIn.below {w : World} {a a' : Option Addr} {n c m c' : Nat} {now now' : Int} {t : TypeId} {W W' : World} (h : TSIn w a a' n c m c' now now' t W) (hb : Below W.heap.size W W') : TSIn w a a' n c m c' now now' t W' :=
  ⟨h.p.below hb h.p.lt, h.p'.below hb h.p'.lt, h.bel.trans (hb.mono (by have := h.p.lt; omega))⟩

end Go.Proofs.Ytomacpailikmoac

/-
  What TreeSame of the program answers at two trees.
-/
namespace Go.Proofs.Ytomacpailikmoac
open Go.RowKit
set_option linter.unusedVariables false

set_option maxHeartbeats 2000000 in
theorem equalFunc_any (a a' : Option Addr) (n c m c' : Nat) (D E : Nat → Nd) (L M : Nat → Loc) (w : World) (hS : IsNds w a n D L) (hT : IsNds w a' m E M) (hf : FitAll n D) (hf' : FitAll m E) (hn : n ≤ maxLen) (hm : m ≤ maxLen) :
    Calls Try.prog 34 #[.slice a n c, .slice a' m c', .func (Fn.func 12) #[] #[]] w fun e w' => Below w.heap.size w w' ∧ e = .returned (.bool (decide (n = m) && sameAll n D E)) := by
  unfold maxLen at hn hm
  by_cases hne : n = m
  · subst hne
    have hb : ((n : Int) != (n : Int)) = false := by simp
    go_enter Try.func34, Try.ntmps34
    go_wp2
    go_loopw [17] (fun i wr => ∃ k : Nat, k ≤ n ∧ i = .int .i64 k ∧ Below w.heap.size w wr ∧ sameAll k D E = true) (fun i _ => n - (intOf i).toNat)
    case atStart => exact ⟨0, Nat.zero_le _, rfl, Below.refl _ _, rfl⟩
    case round =>
      obtain ⟨k, hk, rfl, hbel, heq⟩ := hrel
      by_cases hlt : k < n
      · have hSr := hS.below (Nat.le_refl _) hbel
        have hTr := hT.below (Nat.le_refl _) hbel
        obtain ⟨b, off, rfl, hlt2, hc⟩ := hSr.at hlt
        obtain ⟨b', off', rfl, hlt2', hc'⟩ := hTr.at hlt
        obtain ⟨c0, c1, c2, c3, c4, hI⟩ := hc k hlt
        obtain ⟨d0, d1, d2, d3, d4, hI'⟩ := hc' k hlt
        have hlti : (k : Int) < (n : Int) := by omega
        have HE : Hid (sameAll k D E = true ∧ Below w.heap.size w wr ∧ NdIn wr (D k) (L k) ∧ NdIn wr (E k) (M k)) := ⟨heq, hbel, hI, hI'⟩
        clear hc hc' hSr hTr hbel heq hI hI'
        go_wp2_with fail
        refine at_world (F := New2 wr _ _ _ _) (new2 wr _ _ _ _) ?_
        rintro W ⟨hp, hp', hb', hs⟩
        refine (implNodeSame_any (D k) (E k) (L k) (M k) W (HE.out.2.2.1.below (Nat.le_refl _) hb') (HE.out.2.2.2.below (Nat.le_refl _) hb') (hf k hlt) (hf' k hlt)).mono ?_
        rintro e w1 ⟨hb1, rfl⟩
        have HB : Hid (Below w.heap.size w w1) := HE.out.2.1.trans ((hb'.trans (hb1.mono (by omega))).mono HE.out.2.1.size)
        clear hp hp' hb' hs hb1 c0 c1 c2 c3 c4 d0 d1 d2 d3 d4
        cases hq : (D k).same (E k) with
        | false =>
          have HQ : Hid ((D k).same (E k) = false) := hq
          clear hq
          go_wp2
          go_ret
          exact ⟨HB.out, ret_bool (by rw [← sameAll_not n k D E hlt HQ.out]; simp)⟩
        | true =>
          have HQ : Hid ((D k).same (E k) = true) := hq
          clear hq
          go_wp2
          go_roundw
          case rel => exact ⟨k + 1, by omega, by go_num, HB.out, sameAll_succ k D E HE.out.1 HQ.out⟩
          case measure => simp [intOf]; omega
      · have hkn : k = n := by omega
        have HK : Hid (k = n ∧ Below w.heap.size w wr ∧ sameAll k D E = true) := ⟨hkn, hbel, heq⟩
        clear hkn hbel heq
        go_wp2
        go_ret
        exact ⟨HK.out.2.1, ret_bool (by have := HK.out.2.2; rw [HK.out.1] at this; rw [this]; simp)⟩
  · have hb : ((n : Int) != (m : Int)) = true := by simp; omega
    go_enter Try.func34, Try.ntmps34
    go_wp2
    go_ret
    exact ⟨Below.refl _ _, ret_bool (by simp [hne])⟩

set_option maxHeartbeats 2000000 in
theorem implTreeSame_any (a a' : Option Addr) (n c m c' : Nat) (now now' : Int) (D E : Nat → Nd) (L M : Nat → Loc) (w : World) (hS : IsNds w a n D L) (hT : IsNds w a' m E M) (hf : FitAll n D) (hf' : FitAll m E) (hn : n ≤ maxLen) (hm : m ≤ maxLen) :
    Calls Try.prog 14 #[trV a n c now, trV a' m c' now'] w fun e w' => Below w.heap.size w w' ∧ e = .returned (.bool (treeSame n m D E now now')) := by
  have hn' := hn
  have hm' := hm
  unfold maxLen at hn' hm'
  unfold trV
  cases hnc : (now == now') with
  | false =>
    have HN : Hid (false = treeSame n m D E now now') := by show _ = _; unfold treeSame; rw [hnc, Bool.and_false]
    go_enter Try.func14, Try.ntmps14
    go_wp2_with fail
    go_ret
    exact ⟨((Below.refl _ _).alloc (Nat.le_refl _) _).alloc (by simp) _, ret_bool HN.out⟩
  | true =>
    go_enter Try.func14, Try.ntmps14
    go_wp2_with fail
    refine at_world (F := New2 w _ _ _ _) (new2 w _ _ _ _) ?_
    rintro W ⟨hp, hp', hb, hs⟩
    refine (equalFunc_any a a' n c m c' D E L M W (hS.below (Nat.le_refl _) hb) (hT.below (Nat.le_refl _) hb) hf hf' hn hm).mono ?_
    rintro e w1 ⟨hb1, rfl⟩
    have HB : Hid (Below w.heap.size w w1 ∧ (decide (n = m) && sameAll n D E) = treeSame n m D E now now') := ⟨hb.trans (hb1.mono (by omega)), by unfold treeSame; rw [hnc, Bool.and_true]⟩
    clear hp hp' hb hs hb1
    rw [HB.out.2]
    go_wp2
    go_ret
    exact ⟨HB.out.1, rfl⟩
end Go.Proofs.Ytomacpailikmoac

/-
  For every code, FnTreeFree answers true: a drawn tree that is ok, with places more that are free, behind all, is ok, and leads where it led; with one too many it is none; and the code reads afterwards as it read before. No condition.
-/
namespace Go.Proofs.Ytomacpailikmoac.fnTreeFree
open Go.ChangeShapes Go.WideShapes Go.ChangeAt Go.RowKit Go.Deep
set_option linter.unusedVariables false

/-- A drawn tree in a variable of the law's, and a drawn way. -/
structure InTP (w : World) (T g c n : Nat) (D : Nat → Nd) (L : Nat → Loc) (now : Int) (gp m cp : Nat) (S : Nat → ByteArray) (W : World) : Prop where
  it : InT w T g c n D L now W
  p : Drawn W gp m cp S

theorem InTP.below {w : World} {T g c n : Nat} {D : Nat → Nd} {L : Nat → Loc} {now : Int} {gp m cp : Nat} {S : Nat → ByteArray} {W W' : World} (h : InTP w T g c n D L now gp m cp S W) (hb : Below W.heap.size W W') : InTP w T g c n D L now gp m cp S W' := ⟨h.it.below hb, h.p.below hb⟩

theorem blk_second (W4 : World) : Blk ((W4.drew.alloc (.cells #[] 32)).alloc (.cells #[.slice none 0 0, .int .i64 0] 25)) (W4.heap.size + 1) #[.slice none 0 0, .int .i64 0] 25 := by
  have := Blk.new (W4.drew.alloc (.cells #[] 32)) #[.slice none 0 0, .int .i64 0] 25
  have e : (W4.drew.alloc (.cells #[] 32)).heap.size = W4.heap.size + 1 := by simp
  rwa [e] at this

set_option maxRecDepth 100000 in
set_option maxHeartbeats 4000000 in
theorem walk (a0 : Option Addr) (len0 cap0 : Nat) (zs0 : Nat → Int) (w : World) (hC : IsCode w a0 len0 zs0) (hl : len0 ≤ maxLen) (hp : len0 ≤ cap0) :
    Calls Try.prog 5 #[.slice a0 len0 cap0] w fun e w' => e = .returned (.bool true) ∧ Below w.heap.size w w' := by
  have hl' := hl
  unfold maxLen at hl'
  obtain ⟨i0, hi, hz0, hz1, hz2⟩ := info_parts infoStr
  obtain ⟨j0, hj0, hy0, hy1, hy2⟩ := info_parts infoNode
  by_cases hbig : (1048576 : Int) < len0
  · go_enter Try.func5, Try.ntmps5
    go_wp2
    go_ret
    exact ⟨rfl, Below.refl _ _⟩
  · go_enter Try.func5, Try.ntmps5
    go_wp2_with fail
    refine (drawTreeFind_any w a0 len0 cap0 zs0 hC hl hp).mono ?_
    rintro e w1 ⟨g, c, n, D, L, now, v, Sl, rfl, hd, hv, hl9, hall⟩
    unfold trV
    obtain ⟨gp, cp, rfl, hP⟩ := hv.drawn hl9 hall
    obtain ⟨m, hm⟩ : ∃ m, m = Sl.length := ⟨_, rfl⟩
    obtain ⟨S, hSd⟩ : ∃ S : Nat → ByteArray, S = fun i => Sl.getD i ByteArray.empty := ⟨_, rfl⟩
    rw [← hm, ← hSd] at hP
    rw [← hm]
    clear hSd hv hl9 hall hm
    have HA : Hid (FitAll n D ∧ n ≤ maxLen ∧ sizeTo D n ≤ 1048576 ∧ In64 now) := ⟨hd.fair.fits, hd.fair.len, hd.fair.size, (InT.start hd).in64⟩
    have HP : Hid (m ≤ maxLen ∧ Small m S) := ⟨hP.len, hP.small⟩
    have hm9 := hP.few
    have hmc := hP.room
    have hcm := hP.most
    have hn11 := hd.fair.few
    have hn1 := hd.fair.some
    have H1 : Hid (InTP w w1.heap.size g c n D L now gp m cp S (w1.alloc (.cells #[.slice (some ⟨g, 0, none⟩) n c, .int .i64 now] 25))) := ⟨InT.start hd, hP.below ((Below.refl _ _).alloc (Nat.le_refl _) _)⟩
    clear hd hC hP
    go_wp2_with fail
    obtain ⟨T, hT⟩ : ∃ T, T = w1.heap.size := ⟨_, rfl⟩
    rw [← hT] at H1 ⊢
    clear hT
    refine (implTreeFind (some ⟨g, 0, none⟩) n c now D L (some ⟨gp, 0, none⟩) m cp S _ H1.out.it.drawn.nds H1.out.p.strs HA.out.1 HA.out.2.1 HA.out.2.2.1 HA.out.2.2.2 HP.out.1 HP.out.2).mono ?_
    rintro e W2 ⟨hb2, r1, rfl, hr1⟩
    have H2 : Hid (InTP w T g c n D L now gp m cp S W2) := H1.out.below hb2
    have HR : Hid (FindAre n D now m S r1) := hr1
    clear H1 hb2 hr1 w1
    have t0 : W2.cell? ⟨T, 0, none⟩ = some (.slice (some ⟨g, 0, none⟩) n c) := H2.out.it.t.cell 0
    have t1 : W2.cell? ⟨T, 1, none⟩ = some (.int .i64 now) := H2.out.it.t.cell 1
    go_wp2_with fail
    refine (specTreeFind_any (some ⟨g, 0, none⟩) n c now D L (some ⟨gp, 0, none⟩) m cp S W2 H2.out.it.drawn.nds H2.out.p.strs HA.out.1 HA.out.2.1 HA.out.2.2.1 HP.out.1 HP.out.2).mono ?_
    rintro e W3 ⟨hb3, r2, rfl, hr2⟩
    have e12 : r2 = r1 := hr2.one HR.out
    subst e12
    have H3 : Hid (InTP w T g c n D L now gp m cp S W3) := H2.out.below hb3
    clear H2 hb3 hr2 t0 t1
    have t0 : W3.cell? ⟨T, 0, none⟩ = some (.slice (some ⟨g, 0, none⟩) n c) := H3.out.it.t.cell 0
    have t1 : W3.cell? ⟨T, 1, none⟩ = some (.int .i64 now) := H3.out.it.t.cell 1
    go_wp2_with fail
    refine (specTreeOk_any (some ⟨g, 0, none⟩) n c now D L W3 H3.out.it.drawn.nds HA.out.1 HA.out.2.1 HA.out.2.2.1).mono ?_
    rintro e W4 ⟨hb4, ok, rfl, hok⟩
    have H4 : Hid (InTP w T g c n D L now gp m cp S W4) := H3.out.below hb4
    clear H3 hb4 t0 t1
    have t0 : W4.cell? ⟨T, 0, none⟩ = some (.slice (some ⟨g, 0, none⟩) n c) := H4.out.it.t.cell 0
    have t1 : W4.cell? ⟨T, 1, none⟩ = some (.int .i64 now) := H4.out.it.t.cell 1
    by_cases hgo : ok = true ∧ n < 10
    · obtain ⟨rfl, hn10⟩ := hgo
      have hg : TreeGood n D now := hok.1 rfl
      have HG : Hid (TreeGood n D now) := hg
      have hn10i : decide ((10 : Int) ≤ (n : Int)) = false := by simp; omega
      clear hg hok
      have hTl := H4.out.it.t.lt
      have hTn0 : T ≠ W4.heap.size := by omega
      have hTn1 : T ≠ W4.heap.size + 1 := by omega
      have hTm0 : W4.heap.size ≠ T := by omega
      have hTm1 : W4.heap.size + 1 ≠ T := by omega
      have hO4 := H4.out.it.drawn.own
      have hbw : w.heap.size ≤ W4.heap.size := H4.out.it.drawn.bel.size
      go_wp2_with fail
      go_region_held3 (fun W' => W'.cell? ⟨T, 0, none⟩ = some (.slice (some ⟨g, 0, none⟩) n c) ∧ W'.cell? ⟨T, 1, none⟩ = some (.int .i64 now)) (go_keep) (first
        | (refine copy_step (wr := W4) (by rfl) _ _ (by rfl) (rgE1 W4) hO4 hbw (by omega) hn1 (by rfl) (by rfl) ?_
           intro g' c' w7 hO7 hg7 hB7 hgr7 hat7
           have U0 : w7.cell? ⟨T, 0, none⟩ = some (.slice (some ⟨g, 0, none⟩) n c) := (hB7.cell (p := ⟨T, 0, none⟩) hTl).trans t0
           have U1 : w7.cell? ⟨T, 1, none⟩ = some (.int .i64 now) := (hB7.cell (p := ⟨T, 1, none⟩) hTl).trans t1
           have hTn2 : T ≠ w7.heap.size := by have := hB7.size; omega
           have hTm2 : w7.heap.size ≠ T := by have := hB7.size; omega)
        | (refine copy_step (wr := W4) (by rfl) _ _ (by rfl) (rgE2 W4 _) hO4 hbw (by omega) hn1 (by rfl) (by rfl) ?_
           intro g' c' w7 hO7 hg7 hB7 hgr7 hat7
           have U0 : w7.cell? ⟨T, 0, none⟩ = some (.slice (some ⟨g, 0, none⟩) n c) := (hB7.cell (p := ⟨T, 0, none⟩) hTl).trans t0
           have U1 : w7.cell? ⟨T, 1, none⟩ = some (.int .i64 now) := (hB7.cell (p := ⟨T, 1, none⟩) hTl).trans t1
           have xb : Blk w7 (W4.heap.size) #[.slice none 0 0, .int .i64 0] 25 := ((Blk.new W4.drew #[.slice none 0 0, .int .i64 0] 25).alloc (.cells #[] 32)).of_block (hgr7.block _ (by first | (simp; done) | (simp; omega)) (by first | (simp; done) | (simp; omega)))
           have xc0 : w7.cell? ⟨W4.heap.size, 0, none⟩ = some (.slice none 0 0) := xb.cell 0
           have xc1 : w7.cell? ⟨W4.heap.size, 1, none⟩ = some (.int .i64 0) := xb.cell 1
           have xf0 := xb.frozen 0
           have xf1 := xb.frozen 1)
        | (refine copy_step (wr := W4) (by rfl) _ _ (by rfl) ((rgE1 W4).alloc _) hO4 hbw (by omega) hn1 (by rfl) (by rfl) ?_
           intro g' c' w7 hO7 hg7 hB7 hgr7 hat7
           have U0 : w7.cell? ⟨T, 0, none⟩ = some (.slice (some ⟨g, 0, none⟩) n c) := (hB7.cell (p := ⟨T, 0, none⟩) hTl).trans t0
           have U1 : w7.cell? ⟨T, 1, none⟩ = some (.int .i64 now) := (hB7.cell (p := ⟨T, 1, none⟩) hTl).trans t1
           have xb : Blk w7 (W4.heap.size + 1) #[.slice none 0 0, .int .i64 0] 25 := (blk_second W4).of_block (hgr7.block _ (by first | (simp; done) | (simp; omega)) (by first | (simp; done) | (simp; omega)))
           have xc0 : w7.cell? ⟨W4.heap.size + 1, 0, none⟩ = some (.slice none 0 0) := xb.cell 0
           have xc1 : w7.cell? ⟨W4.heap.size + 1, 1, none⟩ = some (.int .i64 0) := xb.cell 1
           have xf0 := xb.frozen 0
           have xf1 := xb.frozen 1))
      · have hx := InX.start (now := now) hO4 hO7 hg7 hB7 (X := w7.heap.size) (by have := hB7.size; omega) (by have := hO7.lt; omega) (W := w7.alloc (.cells #[.slice (some ⟨g', 0, none⟩) n c', .int .i64 now] 25)) (by simp) (fun b h1 h2 => blk_alloc_lt _ _ _ h1) ⟨rfl, rfl, rfl⟩ (Blk.new w7 _ _)
        obtain ⟨X, hX⟩ : ∃ X, X = w7.heap.size := ⟨_, rfl⟩
        rw [← hX] at hx
        clear U0 U1 hgr7 hat7 t0 t1 hO7 hB7 hTn0 hTn1 hTm0 hTm1 hTn2 hTm2
        go_wp2_with fail
        rw [← hX]
        refine wp_world (F := InX w W4 X g' c' n n D L now) hx ?_
        clear hx hX hg7
        intro W5 hx
        have hXle := hx.far.1
        go_loopw [] (fun wr => ∃ (k g2 c2 : Nat), n ≤ k ∧ k ≤ 10 ∧ InX w W4 X g2 c2 n k D L now wr) (fun wr => match wr.cell? ⟨X, 0, none⟩ with | some (.slice _ k _) => 10 - k | _ => 0)
        case atStart => exact ⟨n, g', c', Nat.le_refl _, by omega, hx⟩
        case round =>
          obtain ⟨k, g2, c2, hk1, hk2, hin⟩ := hrel
          clear hx
          have x0 : wr.cell? ⟨X, 0, none⟩ = some (.slice (some ⟨g2, 0, none⟩) k c2) := hin.x.cell 0
          have x1 : wr.cell? ⟨X, 1, none⟩ = some (.int .i64 now) := hin.x.cell 1
          have xf0 := hin.x.frozen 0
          have hXl := hin.x.lt
          have hgX := hin.far.2.2
          have hgl := hin.own.lt
          have hinA := hin.below ((Below.refl _ _).alloc (Nat.le_refl _) (.cells #[.int .i64 0, .string ⟨#[]⟩, .slice none 0 0, .slice none 0 0, .int .i64 0] 32))
          obtain ⟨cur6, hc6, hs6⟩ := hinA.own.blk
          have hws : w.heap.size ≤ wr.heap.size := by have := hin.bel.size; omega
          by_cases hk : k < 10
          · have hki : decide ((k : Int) < 10) = true := by simp; omega
            have HIN : Hid _ := hinA
            clear hin
            go_wp2_with (at_builtin; refine wpList_append_lies _ rfl _ _ 23 rfl w.heap.size 32 j0 _ 5 80 Try.underlying23 hj0 hy0 hy1 hy2 rfl (by decide) (.slice (some ⟨g2, 0, none⟩) k c2) k (cur6.toList.take (k * 5)) rfl (hinA.own.owns hc6 hs6) ⟨wr.heap.size, 0, none⟩ 1 1 (leafCells 0 0) rfl rfl (World.news_of_block (cs := #[.int .i64 0, .string ⟨#[]⟩, .slice none 0 0, .slice none 0 0, .int .i64 0]) (t := 32) (fr := (0, 0)) (heap_alloc_new wr _)) (by simp [leafCells, Value.oneCell']) (by decide) (by unfold maxLen; omega) (by omega) (by simp; omega) (wr.heap.size + 1) (by simp) ?_)
            intro g3 c3 w8 hown hgrow hat hlt8
            have q0 : w8.cell? ⟨X, 0, none⟩ = some (.slice (some ⟨g2, 0, none⟩) k c2) := (hgrow.cell_far _ (by simp; omega) (by simp [Value.ownBlock]; omega)).trans (HIN.out.x.cell 0)
            have q0f : w8.frozen? ⟨X, 0, none⟩ = false := (hgrow.frozen_far _ (by simp; omega) (by simp [Value.ownBlock]; omega)).trans (HIN.out.x.frozen 0)
            have hmore := HIN.out.more hk1 hc6 hs6 hown (by simpa [Value.ownBlock] using hgrow) (hat.elim (fun e => Or.inl (by simpa [Value.ownBlock] using e)) (fun e => Or.inr (by rw [e]; simp)))
            have HM : Hid _ := hmore
            have HX0 : Hid ((w8.setCell ⟨X, 0, none⟩ (.slice (some ⟨g3, 0, none⟩) (k + 1) c3)).cell? ⟨X, 0, none⟩ = some (.slice (some ⟨g3, 0, none⟩) (k + 1) c3)) := hmore.x.cell 0
            have HXO : Hid (wr.cell? ⟨X, 0, none⟩ = some (.slice (some ⟨g2, 0, none⟩) k c2)) := x0
            clear hown hgrow hat hlt8 hmore hinA hc6 hs6 x0 x1 xf0 HIN
            go_wp2
            go_roundw
            case rel => exact ⟨k + 1, g3, c3, by omega, by omega, HM.out⟩
            case measure =>
              rw [HX0.out, HXO.out]
              show 10 - (k + 1) < 10 - k
              omega
          · obtain rfl : k = 10 := by omega
            have HIN : Hid _ := hin
            have HF : Hid (Fair 10 (padT D n)) := pad_fair H4.out.it.drawn.fair (by omega) (by omega)
            have HF1 : Hid (Fair 11 (padT D n)) := pad_fair H4.out.it.drawn.fair (by omega) (by omega)
            clear hin hinA hc6 hs6
            go_wp2_with fail
            refine (implTreeOk (some ⟨g2, 0, none⟩) 10 c2 now (padT D n) (padL L n) wr HIN.out.own.nds HF.out.fits HF.out.len HF.out.size HA.out.2.2.2).mono ?_
            rintro e w9 ⟨hb9, ok, rfl, hok⟩
            have hok' : ok = true := hok.2 (pad_good HG.out (by omega) (by omega))
            subst hok'
            have H9 : Hid (InX w W4 X g2 c2 n 10 D L now w9) := HIN.out.below hb9
            clear hok hb9 HIN x0 x1 xf0
            have x0 : w9.cell? ⟨X, 0, none⟩ = some (.slice (some ⟨g2, 0, none⟩) 10 c2) := H9.out.x.cell 0
            have x1 : w9.cell? ⟨X, 1, none⟩ = some (.int .i64 now) := H9.out.x.cell 1
            go_wp2_with fail
            refine (implTreeFind (some ⟨g2, 0, none⟩) 10 c2 now (padT D n) (padL L n) (some ⟨gp, 0, none⟩) m cp S w9 H9.out.own.nds (H4.out.below H9.out.bel).p.strs HF.out.fits HF.out.len HF.out.size HA.out.2.2.2 HP.out.1 HP.out.2).mono ?_
            rintro e w10 ⟨hb10, r5, rfl, hr5⟩
            have er5 : r5 = r2 := find_pad HG.out (by omega) (by omega) HR.out hr5
            subst er5
            have H10 : Hid (InX w W4 X g2 c2 n 10 D L now w10) := H9.out.below hb10
            clear hr5 hb10 H9 x0 x1
            have x0 : w10.cell? ⟨X, 0, none⟩ = some (.slice (some ⟨g2, 0, none⟩) 10 c2) := H10.out.x.cell 0
            have x1 : w10.cell? ⟨X, 1, none⟩ = some (.int .i64 now) := H10.out.x.cell 1
            have t0 : w10.cell? ⟨T, 0, none⟩ = some (.slice (some ⟨g, 0, none⟩) n c) := (H4.out.below H10.out.bel).it.t.cell 0
            go_wp2_with fail
            refine (implTreeRefs (some ⟨g2, 0, none⟩) 10 c2 now n (padT D n) (padL L n) w10 H10.out.own.nds HF.out.fits HF.out.len HF.out.size HA.out.2.2.2 (by unfold In64; omega)).mono ?_
            rintro e w11 ⟨hb11, r6, rfl, hr6⟩
            have er6 : r6 = refsTo (padT D n) (n : Nat) 10 := hr6.yes (pad_good HG.out (by omega) (by omega)) (by omega) (by omega)
            rw [pad_none HG.out (by omega)] at er6
            subst er6
            have H11 : Hid (InX w W4 X g2 c2 n 10 D L now w11) := H10.out.below hb11
            clear hr6 hb11 H10 x0 x1 t0
            have x0 : w11.cell? ⟨X, 0, none⟩ = some (.slice (some ⟨g2, 0, none⟩) 10 c2) := H11.out.x.cell 0
            have x1 : w11.cell? ⟨X, 1, none⟩ = some (.int .i64 now) := H11.out.x.cell 1
            have t0 : w11.cell? ⟨T, 0, none⟩ = some (.slice (some ⟨g, 0, none⟩) n c) := (H4.out.below H11.out.bel).it.t.cell 0
            have t1 : w11.cell? ⟨T, 1, none⟩ = some (.int .i64 now) := (H4.out.below H11.out.bel).it.t.cell 1
            go_wp2_with fail
            refine (implTreeSame_any (some ⟨g2, 0, none⟩) (some ⟨g, 0, none⟩) 10 c2 n c now now (padT D n) D (padL L n) L w11 H11.out.own.nds (H4.out.below H11.out.bel).it.drawn.nds HF.out.fits HA.out.1 HF.out.len HA.out.2.1).mono ?_
            rintro e w12 ⟨hb12, rfl⟩
            have hts : treeSame 10 n (padT D n) D now now = false := by unfold treeSame; simp; omega
            rw [hts]
            have H12 : Hid (InX w W4 X g2 c2 n 10 D L now w12) := H11.out.below hb12
            clear hb12 H11 x0 x1 t0 t1 hts
            have x0 : w12.cell? ⟨X, 0, none⟩ = some (.slice (some ⟨g2, 0, none⟩) 10 c2) := H12.out.x.cell 0
            have x1 : w12.cell? ⟨X, 1, none⟩ = some (.int .i64 now) := H12.out.x.cell 1
            have xf0 := H12.out.x.frozen 0
            have hXl := H12.out.x.lt
            have hgl := H12.out.own.lt
            have hinA := H12.out.below ((Below.refl _ _).alloc (Nat.le_refl _) (.cells #[.int .i64 0, .string ⟨#[]⟩, .slice none 0 0, .slice none 0 0, .int .i64 0] 32))
            obtain ⟨cur6, hc6, hs6⟩ := hinA.own.blk
            have hws : w.heap.size ≤ w12.heap.size := by have := H12.out.bel.size; omega
            have HIN : Hid _ := hinA
            go_wp2_with (at_builtin; refine wpList_append_lies _ rfl _ _ 23 rfl w.heap.size 32 j0 _ 5 80 Try.underlying23 hj0 hy0 hy1 hy2 rfl (by decide) (.slice (some ⟨g2, 0, none⟩) 10 c2) 10 (cur6.toList.take (10 * 5)) rfl (hinA.own.owns hc6 hs6) ⟨w12.heap.size, 0, none⟩ 1 1 (leafCells 0 0) rfl rfl (World.news_of_block (cs := #[.int .i64 0, .string ⟨#[]⟩, .slice none 0 0, .slice none 0 0, .int .i64 0]) (t := 32) (fr := (0, 0)) (heap_alloc_new w12 _)) (by simp [leafCells, Value.oneCell']) (by decide) (by unfold maxLen; omega) (by omega) (by simp; omega) (w12.heap.size + 1) (by simp) ?_)
            intro g3 c3 w13 hown hgrow hat hlt8
            have q0 : w13.cell? ⟨X, 0, none⟩ = some (.slice (some ⟨g2, 0, none⟩) 10 c2) := (hgrow.cell_far _ (by simp; omega) (by simp [Value.ownBlock]; omega)).trans (HIN.out.x.cell 0)
            have q1 : w13.cell? ⟨X, 1, none⟩ = some (.int .i64 now) := (hgrow.cell_far _ (by simp; omega) (by simp [Value.ownBlock]; omega)).trans (HIN.out.x.cell 1)
            have q0f : w13.frozen? ⟨X, 0, none⟩ = false := (hgrow.frozen_far _ (by simp; omega) (by simp [Value.ownBlock]; omega)).trans (HIN.out.x.frozen 0)
            have HM : Hid _ := HIN.out.more (k := 10) (by omega) hc6 hs6 hown (by simpa [Value.ownBlock] using hgrow) (hat.elim (fun e => Or.inl (by simpa [Value.ownBlock] using e)) (fun e => Or.inr (by rw [e]; simp)))
            clear hown hgrow hat hlt8 hinA hc6 hs6 x0 x1 xf0 HIN H12
            go_wp2_with fail
            refine (implTreeOk (some ⟨g3, 0, none⟩) 11 c3 now (padT D n) (padL L n) _ HM.out.own.nds HF1.out.fits HF1.out.len HF1.out.size HA.out.2.2.2).mono ?_
            rintro e w14 ⟨hb14, ok, rfl, hok⟩
            have hok' : ok = false := by
              cases ok with
              | false => rfl
              | true => have := (hok.1 rfl).few; omega
            subst hok'
            have HE : Hid (Below w.heap.size w w14) := (H4.out.it.drawn.bel.trans ((HM.out.below hb14).bel.mono hbw))
            clear hok hb14 HM q0 q1 q0f
            go_wp2
            go_ret
            exact ⟨by simp, HE.out⟩
      · have hx := InX.start (now := now) hO4 hO7 hg7 hB7 (X := W4.heap.size + 1) (by omega) (hat7.elim (fun e => by omega) (fun e => by simp at e; omega)) (W := (w7.setCell ⟨W4.heap.size + 1, 0, none⟩ (.slice (some ⟨g', 0, none⟩) n c')).setCell ⟨W4.heap.size + 1, 1, none⟩ (.int .i64 now)) (by simp [World.setCell]) (fun b h1 h2 => (blk_setCell_other _ _ _ _ h2).trans (blk_setCell_other _ _ _ _ h2)) ⟨rfl, rfl, rfl⟩ ((xb.set 0 _).set 1 _)
        obtain ⟨X, hX⟩ : ∃ X, X = W4.heap.size + 1 := ⟨_, rfl⟩
        rw [← hX] at hx
        clear U0 U1 hgr7 hat7 t0 t1 hO7 hB7 hTn0 hTn1 hTm0 hTm1 xb xc0 xc1 xf0 xf1
        go_wp2_with fail
        rw [← hX]
        refine wp_world (F := InX w W4 X g' c' n n D L now) hx ?_
        clear hx hX hg7
        intro W5 hx
        have hXle := hx.far.1
        go_loopw [] (fun wr => ∃ (k g2 c2 : Nat), n ≤ k ∧ k ≤ 10 ∧ InX w W4 X g2 c2 n k D L now wr) (fun wr => match wr.cell? ⟨X, 0, none⟩ with | some (.slice _ k _) => 10 - k | _ => 0)
        case atStart => exact ⟨n, g', c', Nat.le_refl _, by omega, hx⟩
        case round =>
          obtain ⟨k, g2, c2, hk1, hk2, hin⟩ := hrel
          clear hx
          have x0 : wr.cell? ⟨X, 0, none⟩ = some (.slice (some ⟨g2, 0, none⟩) k c2) := hin.x.cell 0
          have x1 : wr.cell? ⟨X, 1, none⟩ = some (.int .i64 now) := hin.x.cell 1
          have xf0 := hin.x.frozen 0
          have hXl := hin.x.lt
          have hgX := hin.far.2.2
          have hgl := hin.own.lt
          have hinA := hin.below ((Below.refl _ _).alloc (Nat.le_refl _) (.cells #[.int .i64 0, .string ⟨#[]⟩, .slice none 0 0, .slice none 0 0, .int .i64 0] 32))
          obtain ⟨cur6, hc6, hs6⟩ := hinA.own.blk
          have hws : w.heap.size ≤ wr.heap.size := by have := hin.bel.size; omega
          by_cases hk : k < 10
          · have hki : decide ((k : Int) < 10) = true := by simp; omega
            have HIN : Hid _ := hinA
            clear hin
            go_wp2_with (at_builtin; refine wpList_append_lies _ rfl _ _ 23 rfl w.heap.size 32 j0 _ 5 80 Try.underlying23 hj0 hy0 hy1 hy2 rfl (by decide) (.slice (some ⟨g2, 0, none⟩) k c2) k (cur6.toList.take (k * 5)) rfl (hinA.own.owns hc6 hs6) ⟨wr.heap.size, 0, none⟩ 1 1 (leafCells 0 0) rfl rfl (World.news_of_block (cs := #[.int .i64 0, .string ⟨#[]⟩, .slice none 0 0, .slice none 0 0, .int .i64 0]) (t := 32) (fr := (0, 0)) (heap_alloc_new wr _)) (by simp [leafCells, Value.oneCell']) (by decide) (by unfold maxLen; omega) (by omega) (by simp; omega) (wr.heap.size + 1) (by simp) ?_)
            intro g3 c3 w8 hown hgrow hat hlt8
            have q0 : w8.cell? ⟨X, 0, none⟩ = some (.slice (some ⟨g2, 0, none⟩) k c2) := (hgrow.cell_far _ (by simp; omega) (by simp [Value.ownBlock]; omega)).trans (HIN.out.x.cell 0)
            have q0f : w8.frozen? ⟨X, 0, none⟩ = false := (hgrow.frozen_far _ (by simp; omega) (by simp [Value.ownBlock]; omega)).trans (HIN.out.x.frozen 0)
            have hmore := HIN.out.more hk1 hc6 hs6 hown (by simpa [Value.ownBlock] using hgrow) (hat.elim (fun e => Or.inl (by simpa [Value.ownBlock] using e)) (fun e => Or.inr (by rw [e]; simp)))
            have HM : Hid _ := hmore
            have HX0 : Hid ((w8.setCell ⟨X, 0, none⟩ (.slice (some ⟨g3, 0, none⟩) (k + 1) c3)).cell? ⟨X, 0, none⟩ = some (.slice (some ⟨g3, 0, none⟩) (k + 1) c3)) := hmore.x.cell 0
            have HXO : Hid (wr.cell? ⟨X, 0, none⟩ = some (.slice (some ⟨g2, 0, none⟩) k c2)) := x0
            clear hown hgrow hat hlt8 hmore hinA hc6 hs6 x0 x1 xf0 HIN
            go_wp2
            go_roundw
            case rel => exact ⟨k + 1, g3, c3, by omega, by omega, HM.out⟩
            case measure =>
              rw [HX0.out, HXO.out]
              show 10 - (k + 1) < 10 - k
              omega
          · obtain rfl : k = 10 := by omega
            have HIN : Hid _ := hin
            have HF : Hid (Fair 10 (padT D n)) := pad_fair H4.out.it.drawn.fair (by omega) (by omega)
            have HF1 : Hid (Fair 11 (padT D n)) := pad_fair H4.out.it.drawn.fair (by omega) (by omega)
            clear hin hinA hc6 hs6
            go_wp2_with fail
            refine (implTreeOk (some ⟨g2, 0, none⟩) 10 c2 now (padT D n) (padL L n) wr HIN.out.own.nds HF.out.fits HF.out.len HF.out.size HA.out.2.2.2).mono ?_
            rintro e w9 ⟨hb9, ok, rfl, hok⟩
            have hok' : ok = true := hok.2 (pad_good HG.out (by omega) (by omega))
            subst hok'
            have H9 : Hid (InX w W4 X g2 c2 n 10 D L now w9) := HIN.out.below hb9
            clear hok hb9 HIN x0 x1 xf0
            have x0 : w9.cell? ⟨X, 0, none⟩ = some (.slice (some ⟨g2, 0, none⟩) 10 c2) := H9.out.x.cell 0
            have x1 : w9.cell? ⟨X, 1, none⟩ = some (.int .i64 now) := H9.out.x.cell 1
            go_wp2_with fail
            refine (implTreeFind (some ⟨g2, 0, none⟩) 10 c2 now (padT D n) (padL L n) (some ⟨gp, 0, none⟩) m cp S w9 H9.out.own.nds (H4.out.below H9.out.bel).p.strs HF.out.fits HF.out.len HF.out.size HA.out.2.2.2 HP.out.1 HP.out.2).mono ?_
            rintro e w10 ⟨hb10, r5, rfl, hr5⟩
            have er5 : r5 = r2 := find_pad HG.out (by omega) (by omega) HR.out hr5
            subst er5
            have H10 : Hid (InX w W4 X g2 c2 n 10 D L now w10) := H9.out.below hb10
            clear hr5 hb10 H9 x0 x1
            have x0 : w10.cell? ⟨X, 0, none⟩ = some (.slice (some ⟨g2, 0, none⟩) 10 c2) := H10.out.x.cell 0
            have x1 : w10.cell? ⟨X, 1, none⟩ = some (.int .i64 now) := H10.out.x.cell 1
            have t0 : w10.cell? ⟨T, 0, none⟩ = some (.slice (some ⟨g, 0, none⟩) n c) := (H4.out.below H10.out.bel).it.t.cell 0
            go_wp2_with fail
            refine (implTreeRefs (some ⟨g2, 0, none⟩) 10 c2 now n (padT D n) (padL L n) w10 H10.out.own.nds HF.out.fits HF.out.len HF.out.size HA.out.2.2.2 (by unfold In64; omega)).mono ?_
            rintro e w11 ⟨hb11, r6, rfl, hr6⟩
            have er6 : r6 = refsTo (padT D n) (n : Nat) 10 := hr6.yes (pad_good HG.out (by omega) (by omega)) (by omega) (by omega)
            rw [pad_none HG.out (by omega)] at er6
            subst er6
            have H11 : Hid (InX w W4 X g2 c2 n 10 D L now w11) := H10.out.below hb11
            clear hr6 hb11 H10 x0 x1 t0
            have x0 : w11.cell? ⟨X, 0, none⟩ = some (.slice (some ⟨g2, 0, none⟩) 10 c2) := H11.out.x.cell 0
            have x1 : w11.cell? ⟨X, 1, none⟩ = some (.int .i64 now) := H11.out.x.cell 1
            have t0 : w11.cell? ⟨T, 0, none⟩ = some (.slice (some ⟨g, 0, none⟩) n c) := (H4.out.below H11.out.bel).it.t.cell 0
            have t1 : w11.cell? ⟨T, 1, none⟩ = some (.int .i64 now) := (H4.out.below H11.out.bel).it.t.cell 1
            go_wp2_with fail
            refine (implTreeSame_any (some ⟨g2, 0, none⟩) (some ⟨g, 0, none⟩) 10 c2 n c now now (padT D n) D (padL L n) L w11 H11.out.own.nds (H4.out.below H11.out.bel).it.drawn.nds HF.out.fits HA.out.1 HF.out.len HA.out.2.1).mono ?_
            rintro e w12 ⟨hb12, rfl⟩
            have hts : treeSame 10 n (padT D n) D now now = false := by unfold treeSame; simp; omega
            rw [hts]
            have H12 : Hid (InX w W4 X g2 c2 n 10 D L now w12) := H11.out.below hb12
            clear hb12 H11 x0 x1 t0 t1 hts
            have x0 : w12.cell? ⟨X, 0, none⟩ = some (.slice (some ⟨g2, 0, none⟩) 10 c2) := H12.out.x.cell 0
            have x1 : w12.cell? ⟨X, 1, none⟩ = some (.int .i64 now) := H12.out.x.cell 1
            have xf0 := H12.out.x.frozen 0
            have hXl := H12.out.x.lt
            have hgl := H12.out.own.lt
            have hinA := H12.out.below ((Below.refl _ _).alloc (Nat.le_refl _) (.cells #[.int .i64 0, .string ⟨#[]⟩, .slice none 0 0, .slice none 0 0, .int .i64 0] 32))
            obtain ⟨cur6, hc6, hs6⟩ := hinA.own.blk
            have hws : w.heap.size ≤ w12.heap.size := by have := H12.out.bel.size; omega
            have HIN : Hid _ := hinA
            go_wp2_with (at_builtin; refine wpList_append_lies _ rfl _ _ 23 rfl w.heap.size 32 j0 _ 5 80 Try.underlying23 hj0 hy0 hy1 hy2 rfl (by decide) (.slice (some ⟨g2, 0, none⟩) 10 c2) 10 (cur6.toList.take (10 * 5)) rfl (hinA.own.owns hc6 hs6) ⟨w12.heap.size, 0, none⟩ 1 1 (leafCells 0 0) rfl rfl (World.news_of_block (cs := #[.int .i64 0, .string ⟨#[]⟩, .slice none 0 0, .slice none 0 0, .int .i64 0]) (t := 32) (fr := (0, 0)) (heap_alloc_new w12 _)) (by simp [leafCells, Value.oneCell']) (by decide) (by unfold maxLen; omega) (by omega) (by simp; omega) (w12.heap.size + 1) (by simp) ?_)
            intro g3 c3 w13 hown hgrow hat hlt8
            have q0 : w13.cell? ⟨X, 0, none⟩ = some (.slice (some ⟨g2, 0, none⟩) 10 c2) := (hgrow.cell_far _ (by simp; omega) (by simp [Value.ownBlock]; omega)).trans (HIN.out.x.cell 0)
            have q1 : w13.cell? ⟨X, 1, none⟩ = some (.int .i64 now) := (hgrow.cell_far _ (by simp; omega) (by simp [Value.ownBlock]; omega)).trans (HIN.out.x.cell 1)
            have q0f : w13.frozen? ⟨X, 0, none⟩ = false := (hgrow.frozen_far _ (by simp; omega) (by simp [Value.ownBlock]; omega)).trans (HIN.out.x.frozen 0)
            have HM : Hid _ := HIN.out.more (k := 10) (by omega) hc6 hs6 hown (by simpa [Value.ownBlock] using hgrow) (hat.elim (fun e => Or.inl (by simpa [Value.ownBlock] using e)) (fun e => Or.inr (by rw [e]; simp)))
            clear hown hgrow hat hlt8 hinA hc6 hs6 x0 x1 xf0 HIN H12
            go_wp2_with fail
            refine (implTreeOk (some ⟨g3, 0, none⟩) 11 c3 now (padT D n) (padL L n) _ HM.out.own.nds HF1.out.fits HF1.out.len HF1.out.size HA.out.2.2.2).mono ?_
            rintro e w14 ⟨hb14, ok, rfl, hok⟩
            have hok' : ok = false := by
              cases ok with
              | false => rfl
              | true => have := (hok.1 rfl).few; omega
            subst hok'
            have HE : Hid (Below w.heap.size w w14) := (H4.out.it.drawn.bel.trans ((HM.out.below hb14).bel.mono hbw))
            clear hok hb14 HM q0 q1 q0f
            go_wp2
            go_ret
            exact ⟨by simp, HE.out⟩
      · have hx := InX.start (now := now) hO4 hO7 hg7 hB7 (X := W4.heap.size) (by omega) (hat7.elim (fun e => by omega) (fun e => by simp at e; omega)) (W := (w7.setCell ⟨W4.heap.size, 0, none⟩ (.slice (some ⟨g', 0, none⟩) n c')).setCell ⟨W4.heap.size, 1, none⟩ (.int .i64 now)) (by simp [World.setCell]) (fun b h1 h2 => (blk_setCell_other _ _ _ _ h2).trans (blk_setCell_other _ _ _ _ h2)) ⟨rfl, rfl, rfl⟩ ((xb.set 0 _).set 1 _)
        obtain ⟨X, hX⟩ : ∃ X, X = W4.heap.size := ⟨_, rfl⟩
        rw [← hX] at hx
        clear U0 U1 hgr7 hat7 t0 t1 hO7 hB7 hTn0 hTn1 hTm0 hTm1 xb xc0 xc1 xf0 xf1
        go_wp2_with fail
        rw [← hX]
        refine wp_world (F := InX w W4 X g' c' n n D L now) hx ?_
        clear hx hX hg7
        intro W5 hx
        have hXle := hx.far.1
        go_loopw [] (fun wr => ∃ (k g2 c2 : Nat), n ≤ k ∧ k ≤ 10 ∧ InX w W4 X g2 c2 n k D L now wr) (fun wr => match wr.cell? ⟨X, 0, none⟩ with | some (.slice _ k _) => 10 - k | _ => 0)
        case atStart => exact ⟨n, g', c', Nat.le_refl _, by omega, hx⟩
        case round =>
          obtain ⟨k, g2, c2, hk1, hk2, hin⟩ := hrel
          clear hx
          have x0 : wr.cell? ⟨X, 0, none⟩ = some (.slice (some ⟨g2, 0, none⟩) k c2) := hin.x.cell 0
          have x1 : wr.cell? ⟨X, 1, none⟩ = some (.int .i64 now) := hin.x.cell 1
          have xf0 := hin.x.frozen 0
          have hXl := hin.x.lt
          have hgX := hin.far.2.2
          have hgl := hin.own.lt
          have hinA := hin.below ((Below.refl _ _).alloc (Nat.le_refl _) (.cells #[.int .i64 0, .string ⟨#[]⟩, .slice none 0 0, .slice none 0 0, .int .i64 0] 32))
          obtain ⟨cur6, hc6, hs6⟩ := hinA.own.blk
          have hws : w.heap.size ≤ wr.heap.size := by have := hin.bel.size; omega
          by_cases hk : k < 10
          · have hki : decide ((k : Int) < 10) = true := by simp; omega
            have HIN : Hid _ := hinA
            clear hin
            go_wp2_with (at_builtin; refine wpList_append_lies _ rfl _ _ 23 rfl w.heap.size 32 j0 _ 5 80 Try.underlying23 hj0 hy0 hy1 hy2 rfl (by decide) (.slice (some ⟨g2, 0, none⟩) k c2) k (cur6.toList.take (k * 5)) rfl (hinA.own.owns hc6 hs6) ⟨wr.heap.size, 0, none⟩ 1 1 (leafCells 0 0) rfl rfl (World.news_of_block (cs := #[.int .i64 0, .string ⟨#[]⟩, .slice none 0 0, .slice none 0 0, .int .i64 0]) (t := 32) (fr := (0, 0)) (heap_alloc_new wr _)) (by simp [leafCells, Value.oneCell']) (by decide) (by unfold maxLen; omega) (by omega) (by simp; omega) (wr.heap.size + 1) (by simp) ?_)
            intro g3 c3 w8 hown hgrow hat hlt8
            have q0 : w8.cell? ⟨X, 0, none⟩ = some (.slice (some ⟨g2, 0, none⟩) k c2) := (hgrow.cell_far _ (by simp; omega) (by simp [Value.ownBlock]; omega)).trans (HIN.out.x.cell 0)
            have q0f : w8.frozen? ⟨X, 0, none⟩ = false := (hgrow.frozen_far _ (by simp; omega) (by simp [Value.ownBlock]; omega)).trans (HIN.out.x.frozen 0)
            have hmore := HIN.out.more hk1 hc6 hs6 hown (by simpa [Value.ownBlock] using hgrow) (hat.elim (fun e => Or.inl (by simpa [Value.ownBlock] using e)) (fun e => Or.inr (by rw [e]; simp)))
            have HM : Hid _ := hmore
            have HX0 : Hid ((w8.setCell ⟨X, 0, none⟩ (.slice (some ⟨g3, 0, none⟩) (k + 1) c3)).cell? ⟨X, 0, none⟩ = some (.slice (some ⟨g3, 0, none⟩) (k + 1) c3)) := hmore.x.cell 0
            have HXO : Hid (wr.cell? ⟨X, 0, none⟩ = some (.slice (some ⟨g2, 0, none⟩) k c2)) := x0
            clear hown hgrow hat hlt8 hmore hinA hc6 hs6 x0 x1 xf0 HIN
            go_wp2
            go_roundw
            case rel => exact ⟨k + 1, g3, c3, by omega, by omega, HM.out⟩
            case measure =>
              rw [HX0.out, HXO.out]
              show 10 - (k + 1) < 10 - k
              omega
          · obtain rfl : k = 10 := by omega
            have HIN : Hid _ := hin
            have HF : Hid (Fair 10 (padT D n)) := pad_fair H4.out.it.drawn.fair (by omega) (by omega)
            have HF1 : Hid (Fair 11 (padT D n)) := pad_fair H4.out.it.drawn.fair (by omega) (by omega)
            clear hin hinA hc6 hs6
            go_wp2_with fail
            refine (implTreeOk (some ⟨g2, 0, none⟩) 10 c2 now (padT D n) (padL L n) wr HIN.out.own.nds HF.out.fits HF.out.len HF.out.size HA.out.2.2.2).mono ?_
            rintro e w9 ⟨hb9, ok, rfl, hok⟩
            have hok' : ok = true := hok.2 (pad_good HG.out (by omega) (by omega))
            subst hok'
            have H9 : Hid (InX w W4 X g2 c2 n 10 D L now w9) := HIN.out.below hb9
            clear hok hb9 HIN x0 x1 xf0
            have x0 : w9.cell? ⟨X, 0, none⟩ = some (.slice (some ⟨g2, 0, none⟩) 10 c2) := H9.out.x.cell 0
            have x1 : w9.cell? ⟨X, 1, none⟩ = some (.int .i64 now) := H9.out.x.cell 1
            go_wp2_with fail
            refine (implTreeFind (some ⟨g2, 0, none⟩) 10 c2 now (padT D n) (padL L n) (some ⟨gp, 0, none⟩) m cp S w9 H9.out.own.nds (H4.out.below H9.out.bel).p.strs HF.out.fits HF.out.len HF.out.size HA.out.2.2.2 HP.out.1 HP.out.2).mono ?_
            rintro e w10 ⟨hb10, r5, rfl, hr5⟩
            have er5 : r5 = r2 := find_pad HG.out (by omega) (by omega) HR.out hr5
            subst er5
            have H10 : Hid (InX w W4 X g2 c2 n 10 D L now w10) := H9.out.below hb10
            clear hr5 hb10 H9 x0 x1
            have x0 : w10.cell? ⟨X, 0, none⟩ = some (.slice (some ⟨g2, 0, none⟩) 10 c2) := H10.out.x.cell 0
            have x1 : w10.cell? ⟨X, 1, none⟩ = some (.int .i64 now) := H10.out.x.cell 1
            have t0 : w10.cell? ⟨T, 0, none⟩ = some (.slice (some ⟨g, 0, none⟩) n c) := (H4.out.below H10.out.bel).it.t.cell 0
            go_wp2_with fail
            refine (implTreeRefs (some ⟨g2, 0, none⟩) 10 c2 now n (padT D n) (padL L n) w10 H10.out.own.nds HF.out.fits HF.out.len HF.out.size HA.out.2.2.2 (by unfold In64; omega)).mono ?_
            rintro e w11 ⟨hb11, r6, rfl, hr6⟩
            have er6 : r6 = refsTo (padT D n) (n : Nat) 10 := hr6.yes (pad_good HG.out (by omega) (by omega)) (by omega) (by omega)
            rw [pad_none HG.out (by omega)] at er6
            subst er6
            have H11 : Hid (InX w W4 X g2 c2 n 10 D L now w11) := H10.out.below hb11
            clear hr6 hb11 H10 x0 x1 t0
            have x0 : w11.cell? ⟨X, 0, none⟩ = some (.slice (some ⟨g2, 0, none⟩) 10 c2) := H11.out.x.cell 0
            have x1 : w11.cell? ⟨X, 1, none⟩ = some (.int .i64 now) := H11.out.x.cell 1
            have t0 : w11.cell? ⟨T, 0, none⟩ = some (.slice (some ⟨g, 0, none⟩) n c) := (H4.out.below H11.out.bel).it.t.cell 0
            have t1 : w11.cell? ⟨T, 1, none⟩ = some (.int .i64 now) := (H4.out.below H11.out.bel).it.t.cell 1
            go_wp2_with fail
            refine (implTreeSame_any (some ⟨g2, 0, none⟩) (some ⟨g, 0, none⟩) 10 c2 n c now now (padT D n) D (padL L n) L w11 H11.out.own.nds (H4.out.below H11.out.bel).it.drawn.nds HF.out.fits HA.out.1 HF.out.len HA.out.2.1).mono ?_
            rintro e w12 ⟨hb12, rfl⟩
            have hts : treeSame 10 n (padT D n) D now now = false := by unfold treeSame; simp; omega
            rw [hts]
            have H12 : Hid (InX w W4 X g2 c2 n 10 D L now w12) := H11.out.below hb12
            clear hb12 H11 x0 x1 t0 t1 hts
            have x0 : w12.cell? ⟨X, 0, none⟩ = some (.slice (some ⟨g2, 0, none⟩) 10 c2) := H12.out.x.cell 0
            have x1 : w12.cell? ⟨X, 1, none⟩ = some (.int .i64 now) := H12.out.x.cell 1
            have xf0 := H12.out.x.frozen 0
            have hXl := H12.out.x.lt
            have hgl := H12.out.own.lt
            have hinA := H12.out.below ((Below.refl _ _).alloc (Nat.le_refl _) (.cells #[.int .i64 0, .string ⟨#[]⟩, .slice none 0 0, .slice none 0 0, .int .i64 0] 32))
            obtain ⟨cur6, hc6, hs6⟩ := hinA.own.blk
            have hws : w.heap.size ≤ w12.heap.size := by have := H12.out.bel.size; omega
            have HIN : Hid _ := hinA
            go_wp2_with (at_builtin; refine wpList_append_lies _ rfl _ _ 23 rfl w.heap.size 32 j0 _ 5 80 Try.underlying23 hj0 hy0 hy1 hy2 rfl (by decide) (.slice (some ⟨g2, 0, none⟩) 10 c2) 10 (cur6.toList.take (10 * 5)) rfl (hinA.own.owns hc6 hs6) ⟨w12.heap.size, 0, none⟩ 1 1 (leafCells 0 0) rfl rfl (World.news_of_block (cs := #[.int .i64 0, .string ⟨#[]⟩, .slice none 0 0, .slice none 0 0, .int .i64 0]) (t := 32) (fr := (0, 0)) (heap_alloc_new w12 _)) (by simp [leafCells, Value.oneCell']) (by decide) (by unfold maxLen; omega) (by omega) (by simp; omega) (w12.heap.size + 1) (by simp) ?_)
            intro g3 c3 w13 hown hgrow hat hlt8
            have q0 : w13.cell? ⟨X, 0, none⟩ = some (.slice (some ⟨g2, 0, none⟩) 10 c2) := (hgrow.cell_far _ (by simp; omega) (by simp [Value.ownBlock]; omega)).trans (HIN.out.x.cell 0)
            have q1 : w13.cell? ⟨X, 1, none⟩ = some (.int .i64 now) := (hgrow.cell_far _ (by simp; omega) (by simp [Value.ownBlock]; omega)).trans (HIN.out.x.cell 1)
            have q0f : w13.frozen? ⟨X, 0, none⟩ = false := (hgrow.frozen_far _ (by simp; omega) (by simp [Value.ownBlock]; omega)).trans (HIN.out.x.frozen 0)
            have HM : Hid _ := HIN.out.more (k := 10) (by omega) hc6 hs6 hown (by simpa [Value.ownBlock] using hgrow) (hat.elim (fun e => Or.inl (by simpa [Value.ownBlock] using e)) (fun e => Or.inr (by rw [e]; simp)))
            clear hown hgrow hat hlt8 hinA hc6 hs6 x0 x1 xf0 HIN H12
            go_wp2_with fail
            refine (implTreeOk (some ⟨g3, 0, none⟩) 11 c3 now (padT D n) (padL L n) _ HM.out.own.nds HF1.out.fits HF1.out.len HF1.out.size HA.out.2.2.2).mono ?_
            rintro e w14 ⟨hb14, ok, rfl, hok⟩
            have hok' : ok = false := by
              cases ok with
              | false => rfl
              | true => have := (hok.1 rfl).few; omega
            subst hok'
            have HE : Hid (Below w.heap.size w w14) := (H4.out.it.drawn.bel.trans ((HM.out.below hb14).bel.mono hbw))
            clear hok hb14 HM q0 q1 q0f
            go_wp2
            go_ret
            exact ⟨by simp, HE.out⟩
    · have HE : ∀ W, InTP w T g c n D L now gp m cp S W → Calls Try.prog 9 #[trV (some ⟨g, 0, none⟩) n c now, .slice (some ⟨gp, 0, none⟩) m cp] W fun e w' => e = .returned (.int .i64 r2) ∧ InTP w T g c n D L now gp m cp S w' := fun W hW =>
        (specTreeFind_any (some ⟨g, 0, none⟩) n c now D L (some ⟨gp, 0, none⟩) m cp S W hW.it.drawn.nds hW.p.strs HA.out.1 HA.out.2.1 HA.out.2.2.1 HP.out.1 HP.out.2).mono fun e w' ⟨h1, r, h2, h3⟩ => ⟨by rw [h2, h3.one HR.out], hW.below h1⟩
      have HEH : Hid _ := HE
      clear HE
      cases ok with
      | false =>
        go_wp2_with fail
        refine (HEH.out W4 H4.out).mono ?_
        rintro e W5 ⟨rfl, h5⟩
        have H5 : Hid _ := h5
        clear h5 H4 HEH t0 t1
        go_wp2
        go_ret
        exact ⟨by simp, H5.out.it.drawn.bel⟩
      | true =>
        have hn10i : decide ((10 : Int) ≤ (n : Int)) = true := by simp at hgo ⊢; omega
        clear hgo hok
        go_wp2_with fail
        refine (HEH.out W4 H4.out).mono ?_
        rintro e W5 ⟨rfl, h5⟩
        have H5 : Hid _ := h5
        clear h5 H4 HEH t0 t1
        go_wp2
        go_ret
        exact ⟨by simp, H5.out.it.drawn.bel⟩

set_option maxRecDepth 100000 in
theorem lifted (os : Os) (started : os.Started) (H : Type) (enc : TypeId × Value → H) :
    ReturnsInHanded {} Try.checked os 5 .any (Rows.fnTreeFreeSpec.pre6 enc Try.prog Try.f5 Rows.fnTreeFreeRow.domain false) (Rows.fnTreeFreeSpec.post enc Try.prog Try.f5 false true false false) := by
  refine returnsInHanded_of_change (C := Try.checked) own started (by kernel_rfl) Try.func5
    (ChangeSpec.witness6 (enc := enc) (C := Try.checked) false ⟨#[], #[.slice none 0 0], []⟩ 8 (by kernel_rfl) (by kernel_rfl) (by kernel_rfl) (by kernel_rfl)) ?_
  intro W base args ds gs before hval0 hW hcnd _
  have hval : ∀ (j : Nat) t v, Try.f5.params[j]? = some t → args[j]? = some v → Value.okWide Try.prog W .any base t v := hval0
  have hW' := hW
  obtain ⟨p, q, hA0, hV, rfl, hfz, hnd⟩ := hW
  have hA : DataW.TrodAll enc Try.prog W 0 (fun _ => true) true Try.f5.params.toList args.toList ds p := hA0
  rw [Try.params5] at hA hval
  obtain ⟨v0, vs0, d0, ds0, p0, q0, hargs, rfl, rfl, h0, r0⟩ := trodAll_cons hA
  obtain ⟨rfl, rfl, rfl⟩ := trodAll_nil r0
  obtain rfl : args = #[v0] := by cases args; simp_all
  obtain ⟨rfl, rfl⟩ := trodVars_none hV
  obtain ⟨a0, len0, cap0, rfl⟩ := okWide_slice Try.underlying22 (hval 0 22 v0 rfl rfl)
  have k0 := h0
  have lt0 : ∀ x ∈ p0, x.block < W.heap.size := by obtain ⟨m, hm⟩ := k0; exact DataW.trod_lt m _ _ _ hm
  obtain ⟨zs0, hC0, hl0, hp0⟩ := openCode h0
  clear hA0 hval0
  refine (walk a0 len0 cap0 zs0 W hC0 hl0 hp0).mono fun e W' ⟨he, bel⟩ => ?_
  subst he
  exact ⟨_, rfl, _, _, _, [], _, [], hW', trodAll_mk1 (shut_bool Try.underlying4 _), (trodAll_cons_mk (Below.trod laidOut (by kernel_rfl) (of_decide_eq_true (by kernel_rfl)) k0 bel lt0) trodAll_mk0), rfl, bel.frame _, fun h => by cases h⟩

theorem over : Rows.fnTreeFreeRow.holds Try.pinned (OpenSpec.ofChange Rows.fnTreeFreeSpec) :=
  OpenClaim.holds_of_wide 5 Try.f5 rfl rfl rfl rfl rfl rfl rfl ⟨rfl, rfl, rfl, rfl, rfl⟩ rfl rfl rfl rfl rfl (by kernel_rfl) Try.func5 (by kernel_rfl)
    (of_decide_eq_true (by kernel_rfl)) (by unfold Func.isWrapper; first | (rw [if_pos (by decide +kernel)]; kernel_rfl) | (rw [if_neg (by decide +kernel)]; exact ⟨rfl, rfl⟩))
    (fun os started H enc _ => lifted os started H enc)
end Go.Proofs.Ytomacpailikmoac.fnTreeFree

namespace Go.Proofs.Ytomacpailikmoac
theorem fnTreeFree_holds : Rows.FnTreeFreeSaid := fnTreeFree.over
end Go.Proofs.Ytomacpailikmoac
