/-
  Two pieces held against each other by the language's own sign.
-/
import Derived.Test.YtjlldefajgmelaaDoorVolBase
import Derived.Laws.StructEq
namespace Go.Proofs.YtjlldefajgmelaaDoor
open Go.RowKit
set_option linter.unusedSimpArgs false

/-- Whether two pieces are one. -/
def sameVo (v u : Vo) : Bool := (v.num == u.num) && (v.cnt == u.cnt) && (v.sum == u.sum) && (v.text.toList == u.text.toList)

theorem sameVo_iff {v u : Vo} : sameVo v u = true ↔ v = u := by
  unfold sameVo
  simp only [Bool.and_eq_true, beq_iff_eq]
  constructor
  · rintro ⟨⟨⟨h1, h2⟩, h3⟩, h4⟩
    obtain ⟨a, b, c, d⟩ := v
    obtain ⟨a', b', c', d'⟩ := u
    simp only at h1 h2 h3 h4
    subst h1; subst h2; subst h3
    have : d = d' := by
      rw [ByteArray.toList_eq, ByteArray.toList_eq] at h4
      obtain ⟨⟨x⟩⟩ := d
      obtain ⟨⟨y⟩⟩ := d'
      have e : x = y := h4
      subst e; rfl
    subst this; rfl
  · rintro rfl; exact ⟨⟨⟨rfl, rfl⟩, rfl⟩, rfl⟩

theorem run_eqlVo (v u : Vo) (W : World) : (binOp .eql 24 (.agg #[.int .i64 v.num, .int .i64 v.cnt, .int .i64 v.sum, .string v.text]) (.agg #[.int .i64 u.num, .int .i64 u.cnt, .int .i64 u.sum, .string u.text])).run Tryd.prog W = .ok (.bool (sameVo v u)) W := by
  rw [run_eql_struct, run_equalIn_agg W 9999 24 _ _ (by kernel_rfl) (by kernel_rfl)]
  unfold sameVo
  simp [Program.fieldsOf, Tryd.underlying24, Op.eqFields, Tryd.underlying3, Tryd.underlying9, go_sem]
  by_cases h1 : v.num = u.num
  · by_cases h2 : v.cnt = u.cnt
    · by_cases h3 : v.sum = u.sum
      · by_cases h4 : v.text.toList = u.text.toList
        · simp [h1, h2, h3, h4]
        · simp [h1, h2, h3, h4]
      · simp [h1, h2, h3]
    · simp [h1, h2]
  · simp [h1]

theorem run_neqVo (v u : Vo) (W : World) : (binOp .neq 24 (.agg #[.int .i64 v.num, .int .i64 v.cnt, .int .i64 v.sum, .string v.text]) (.agg #[.int .i64 u.num, .int .i64 u.cnt, .int .i64 u.sum, .string u.text])).run Tryd.prog W = .ok (.bool (!(sameVo v u))) W := by
  rw [run_neq_struct, run_equalIn_agg W 9999 24 _ _ (by kernel_rfl) (by kernel_rfl)]
  unfold sameVo
  simp [Program.fieldsOf, Tryd.underlying24, Op.eqFields, Tryd.underlying3, Tryd.underlying9, go_sem]
  by_cases h1 : v.num = u.num
  · by_cases h2 : v.cnt = u.cnt
    · by_cases h3 : v.sum = u.sum
      · by_cases h4 : v.text.toList = u.text.toList
        · simp [h1, h2, h3, h4]
        · simp [h1, h2, h3, h4]
      · simp [h1, h2, h3]
    · simp [h1, h2]
  · simp [h1]

theorem sameVo_self (v : Vo) : sameVo v v = true := sameVo_iff.2 rfl
end Go.Proofs.YtjlldefajgmelaaDoor
