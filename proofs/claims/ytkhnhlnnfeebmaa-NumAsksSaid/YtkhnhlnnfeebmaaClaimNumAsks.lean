/- NumAsks holds: any number is written, and any bytes are read, as the document says: whatever int and bytes the law is called with, it answers true and changes nothing. No condition. -/
import Derived.Test.YtkhnhlnnfeebmaaLawNumAsks
import Derived.Test.YtkhnhlnnfeebmaaLaw
namespace Go.Proofs.Ytkhnhlnnfeebmaa
open Go.ChangeShapes Go.WideShapes Go.ChangeAt Go.RowKit

theorem numAsks_any (n : Int) (A : Option Addr) (l : List Nat) (c : Nat) (hb : ∀ x ∈ l, x < 256) (w : World) (hA : BytesAt w A l) :
    Calls Try.prog 3 #[.int .i64 n, .slice A l.length c] w fun e w' => e = .returned (.bool true) ∧ Below w.heap.size w w' := by
  by_cases hl : 100 < l.length
  · exact numAsks_long n A l.length c hl w
  · by_cases h : 0 ≤ n ∧ n ≤ 1099511627776
    · obtain ⟨m, rfl⟩ := Int.eq_ofNat_of_zero_le h.1
      exact numAsks_yes m (by omega) A l c hl hb w hA
    · exact numAsks_no n (by omega) A l c hl hb w hA

set_option maxRecDepth 100000 in
theorem numAsks_lifted (os : Os) (started : os.Started) (H : Type) (enc : TypeId × Value → H) :
    ReturnsInHanded {} Try.checked os 3 .any (Rows.numAsksSpec.pre6 enc Try.prog Try.f3 Rows.numAsksRow.domain false) (Rows.numAsksSpec.post enc Try.prog Try.f3 false true false false) := by
  refine returnsInHanded_of_change (C := Try.checked) law_own started (by kernel_rfl) Try.func3
    (ChangeSpec.witness6 (enc := enc) (C := Try.checked) false ⟨#[], #[.int .i64 0, .slice none 0 0], []⟩ 8 (by kernel_rfl) (by kernel_rfl) (by kernel_rfl) (by kernel_rfl)) ?_
  intro W base args ds gs before hval0 hW _ _
  have hval : ∀ (j : Nat) t v, Try.f3.params[j]? = some t → args[j]? = some v → Value.okWide Try.prog W .any base t v := hval0
  have hW' := hW
  obtain ⟨p, q, hA0, hV, rfl, _, _⟩ := hW
  have hlt : ∀ x ∈ p ++ q, x.block < W.heap.size := fun x hx => hW'.lt x hx
  have hA : DataW.TrodAll enc Try.prog W 0 (fun _ => true) true Try.f3.params.toList args.toList ds p := hA0
  rw [Try.params3] at hA hval
  obtain ⟨v0, v1, d0, d1, p0, p1, rfl, rfl, rfl, h0, h1⟩ := trodAll_two hA
  obtain ⟨rfl, rfl⟩ := trodVars_none hV
  obtain ⟨n, rfl, rfl, rfl, _⟩ := open_int Try.underlying3 (hval 0 3 v0 rfl rfl) h0
  obtain ⟨A, l, c, rfl, hat, h256, _⟩ := open_bytes (hval 1 22 v1 rfl rfl) h1 (fun x hx => hlt x (by simp [hx]))
  clear hA0 hval0
  refine (numAsks_any n A l c h256 W hat).mono fun e W' ⟨he, hb⟩ => ?_
  exact ⟨_, he, law_post law_laid (by kernel_rfl) (by kernel_rfl) Try.underlying4 rfl hW' rfl hb⟩

theorem numAsks_holds : Rows.NumAsksSaid :=
  OpenClaim.holds_of_wide 3 Try.f3 rfl rfl rfl rfl rfl rfl rfl ⟨rfl, rfl, rfl, rfl, rfl⟩ rfl rfl rfl rfl rfl (by kernel_rfl) Try.func3 (by kernel_rfl)
    (of_decide_eq_true (by kernel_rfl)) (by unfold Func.isWrapper; first | (rw [if_pos (by decide +kernel)]; kernel_rfl) | (rw [if_neg (by decide +kernel)]; exact ⟨rfl, rfl⟩))
    (fun os started H enc _ => numAsks_lifted os started H enc)
end Go.Proofs.Ytkhnhlnnfeebmaa
