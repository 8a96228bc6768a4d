/- CrcGoes holds: the sum of all pieces is reached from any place on, from the sum of a beginning, with what is behind it: whatever bytes and int the law is called with, it answers true and changes nothing. No condition. -/
import Derived.Test.YtgjnjnfodomldaaLawCrcGoes
namespace Go.Proofs.Ytgjnjnfodomldaa
open Go.ChangeShapes Go.WideShapes Go.ChangeAt Go.RowKit

theorem crcGoes_any (A : Option Addr) (l : List Nat) (c : Nat) (k : Int) (B : Option Addr) (m : List Nat) (d : Nat) (hlb : ∀ x ∈ l, x < 256) (hlc : l.length ≤ c) (hmb : ∀ x ∈ m, x < 256) (w : World) (hA : BytesAt w A l) (hB : BytesAt w B m) :
    Calls Try.prog 5 #[.slice A l.length c, .int .i64 k, .slice B m.length d] w fun e w' => e = .returned (.bool true) ∧ Below w.heap.size w w' := by
  by_cases h : l.length ≤ 500 ∧ m.length ≤ 500
  · exact crcGoes_yes A l c k B m d h.1 hlb hlc h.2 hmb w hA hB
  · exact crcGoes_long A l.length c k B m.length d (by omega) w

set_option maxRecDepth 100000 in
theorem crcGoes_lifted (os : Os) (started : os.Started) (H : Type) (enc : TypeId × Value → H) :
    ReturnsInHanded {} Try.checked os 5 .any (Rows.crcGoesSpec.pre6 enc Try.prog Try.f5 Rows.crcGoesRow.domain false) (Rows.crcGoesSpec.post enc Try.prog Try.f5 false true false false) := by
  refine returnsInHanded_of_change (C := Try.checked) law_own started (by kernel_rfl) Try.func5
    (ChangeSpec.witness6 (enc := enc) (C := Try.checked) false ⟨#[], #[.slice none 0 0, .int .i64 0, .slice none 0 0], []⟩ 8 (by kernel_rfl) (by kernel_rfl) (by kernel_rfl) (by kernel_rfl)) ?_
  intro W base args ds gs before hval0 hW _ _
  have hval : ∀ (j : Nat) t v, Try.f5.params[j]? = some t → args[j]? = some v → Value.okWide Try.prog W .any base t v := hval0
  have hW' := hW
  obtain ⟨p, q, hA0, hV, rfl, _, _⟩ := hW
  have hlt : ∀ x ∈ p ++ q, x.block < W.heap.size := fun x hx => hW'.lt x hx
  have hA : DataW.TrodAll enc Try.prog W 0 (fun _ => true) true Try.f5.params.toList args.toList ds p := hA0
  rw [Try.params5] at hA hval
  obtain ⟨v0, v1, v2, d0, d1, d2, p0, p1, p2, rfl, rfl, rfl, h0, h1, h2⟩ := trodAll_three hA
  obtain ⟨rfl, rfl⟩ := trodVars_none hV
  obtain ⟨A, l, c, rfl, hat0, hlb, _, hlc, _⟩ := open_bytes_cap (hval 0 24 v0 rfl rfl) h0 (fun x hx => hlt x (by simp [hx]))
  obtain ⟨n, rfl, rfl, rfl, _⟩ := open_int Try.underlying3 (hval 1 3 v1 rfl rfl) h1
  obtain ⟨B, m, c2, rfl, hat, h256, _⟩ := open_bytes (hval 2 24 v2 rfl rfl) h2 (fun x hx => hlt x (by simp [hx]))
  clear hA0 hval0
  refine (crcGoes_any A l c n B m c2 hlb hlc h256 W hat0 hat).mono fun e W' ⟨he, hb⟩ => ?_
  exact ⟨_, he, law_post law_laid (by kernel_rfl) (by kernel_rfl) Try.underlying4 rfl hW' rfl hb⟩

theorem crcGoes_holds : Rows.CrcGoesSaid :=
  OpenClaim.holds_of_wide 5 Try.f5 rfl rfl rfl rfl rfl rfl rfl ⟨rfl, rfl, rfl, rfl, rfl⟩ rfl rfl rfl rfl rfl (by kernel_rfl) Try.func5 (by kernel_rfl)
    (of_decide_eq_true (by kernel_rfl)) (by unfold Func.isWrapper; first | (rw [if_pos (by decide +kernel)]; kernel_rfl) | (rw [if_neg (by decide +kernel)]; exact ⟨rfl, rfl⟩))
    (fun os started H enc _ => crcGoes_lifted os started H enc)
end Go.Proofs.Ytgjnjnfodomldaa
