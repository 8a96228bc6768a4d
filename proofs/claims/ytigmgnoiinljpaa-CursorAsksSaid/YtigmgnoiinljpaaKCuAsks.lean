/- Any two places are a selection, or none; it is told, turned, measured and moved as the document says: it answers true and changes nothing. No condition. (Merged of 2 texts.) -/
import Derived.Test.YtigmgnoiinljpaaKA1
import Derived.Test.YtigmgnoiinljpaaKA2
import Derived.Test.YtigmgnoiinljpaaKA3
import Derived.ChangeMaps5
/- CursorAsks, walked: of any two places a selection, or none; told, turned, measured and moved as the document says. No condition. -/
namespace Go.Proofs.Ytigmgnoiinljpaa
open Go.RowKit Go.Deep

theorem cursorAsks_any (x y z n : Int) (hx : Fit64 x) (hy : Fit64 y) (hz : Fit64 z) (_hn : Fit64 n) (w : World) :
    Calls Try.prog 3 #[.int .i64 x, .int .i64 y, .int .i64 z, .int .i64 n] w fun e w' => e = .returned (.bool true) ∧ Below w.heap.size w w' := by
  by_cases h : 0 ≤ x ∧ x ≤ 1099511627776 ∧ 0 ≤ y ∧ y ≤ 1099511627776
  · by_cases d1 : x ≤ n
    · by_cases d2 : y ≤ n
      · exact asks_yes1 x y z n d1 d2 h.1 h.2.1 h.2.2.1 h.2.2.2 hz w
      · exact asks_yes2 x y z n d1 d2 h.1 h.2.1 h.2.2.1 h.2.2.2 hz w
    · exact asks_yes3 x y z n d1 h.1 h.2.1 h.2.2.1 h.2.2.2 hz w
  · exact asks_no x y z n hx hy h w
end Go.Proofs.Ytigmgnoiinljpaa

/- Any two places are a selection, or none; it is told, turned, measured and moved as the document says: it answers true and changes nothing. No condition. -/
namespace Go.Proofs.Ytigmgnoiinljpaa
open Go.ChangeShapes Go.WideShapes Go.ChangeAt Go.RowKit

set_option maxRecDepth 100000 in
theorem cursorAsks_lifted (os : Os) (started : os.Started) (H : Type) (enc : TypeId × Value → H) :
    ReturnsInHanded {} Try.checked os 3 .any (Rows.cursorAsksSpec.pre6 enc Try.prog Try.f3 Rows.cursorAsksRow.domain false) (Rows.cursorAsksSpec.post enc Try.prog Try.f3 false true false false) := by
  refine returnsInHanded_of_change (C := Try.checked) law_own started (by kernel_rfl) Try.func3
    (ChangeSpec.witness6 (enc := enc) (C := Try.checked) false ⟨#[], #[.int .i64 0, .int .i64 0, .int .i64 0, .int .i64 0], []⟩ 8 (by kernel_rfl) (by kernel_rfl) (by kernel_rfl) (by kernel_rfl)) ?_
  intro W base args ds gs before hval0 hW _ _
  have hval : ∀ (j : Nat) t v, Try.f3.params[j]? = some t → args[j]? = some v → Value.okWide Try.prog W .any base t v := hval0
  have hW' := hW
  obtain ⟨p, q, hA0, hV, rfl, _, _⟩ := hW
  have hA : DataW.TrodAll enc Try.prog W 0 (fun _ => true) true Try.f3.params.toList args.toList ds p := hA0
  rw [Try.params3] at hA hval
  obtain ⟨v0, v1, v2, v3, d0, d1, d2, d3, p0, p1, p2, p3, rfl, rfl, rfl, h0, h1, h2, h3⟩ := trodAll_four hA
  obtain ⟨rfl, rfl⟩ := trodVars_none hV
  obtain ⟨n0, rfl, rfl, rfl, hw0⟩ := open_int Try.underlying3 (hval 0 3 v0 rfl rfl) h0
  have hn0 : -9223372036854775808 ≤ n0 ∧ n0 ≤ 9223372036854775807 := by simpa [Lit.wf, IntKind.min, IntKind.max, IntKind.signed, IntKind.bits] using hw0
  obtain ⟨n1, rfl, rfl, rfl, hw1⟩ := open_int Try.underlying3 (hval 1 3 v1 rfl rfl) h1
  have hn1 : -9223372036854775808 ≤ n1 ∧ n1 ≤ 9223372036854775807 := by simpa [Lit.wf, IntKind.min, IntKind.max, IntKind.signed, IntKind.bits] using hw1
  obtain ⟨n2, rfl, rfl, rfl, hw2⟩ := open_int Try.underlying3 (hval 2 3 v2 rfl rfl) h2
  have hn2 : -9223372036854775808 ≤ n2 ∧ n2 ≤ 9223372036854775807 := by simpa [Lit.wf, IntKind.min, IntKind.max, IntKind.signed, IntKind.bits] using hw2
  obtain ⟨n3, rfl, rfl, rfl, hw3⟩ := open_int Try.underlying3 (hval 3 3 v3 rfl rfl) h3
  have hn3 : -9223372036854775808 ≤ n3 ∧ n3 ≤ 9223372036854775807 := by simpa [Lit.wf, IntKind.min, IntKind.max, IntKind.signed, IntKind.bits] using hw3
  clear hA0 hval0
  refine (cursorAsks_any n0 n1 n2 n3 hn0 hn1 hn2 hn3 W).mono fun e W' ⟨he, hb⟩ => ?_
  exact ⟨_, he, law_post law_laid (by kernel_rfl) (by kernel_rfl) Try.underlying4 rfl hW' rfl hb⟩

theorem cursorAsks_holds : Rows.CursorAsksSaid :=
  OpenClaim.holds_of_wide 3 Try.f3 rfl rfl rfl rfl rfl rfl rfl ⟨rfl, rfl, rfl, rfl, rfl⟩ rfl rfl rfl rfl rfl (by kernel_rfl) Try.func3 (by kernel_rfl)
    (of_decide_eq_true (by kernel_rfl)) (by unfold Func.isWrapper; first | (rw [if_pos (by decide +kernel)]; kernel_rfl) | (rw [if_neg (by decide +kernel)]; exact ⟨rfl, rfl⟩))
    (fun os started H enc _ => cursorAsks_lifted os started H enc)
end Go.Proofs.Ytigmgnoiinljpaa
