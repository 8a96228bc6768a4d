/- CrcFlips holds: bytes with one bit, or two, or up to four neighbouring bytes changed, have another sum: whatever bytes, ints and number the law is called with, it answers true and changes nothing. No condition. -/
import Derived.Test.YtgjnjnfodomldaaLawCrcFlips
namespace Go.Proofs.Ytgjnjnfodomldaa
open Go.ChangeShapes Go.WideShapes Go.ChangeAt Go.RowKit

theorem crcFlips_any (A : Option Addr) (l : List Nat) (c : Nat) (i k : Int) (x : Nat) (hx : x < 4294967296) (hlb : ∀ x ∈ l, x < 256) (w : World) (hA : BytesAt w A l) :
    Calls Try.prog 4 #[.slice A l.length c, .int .i64 i, .int .i64 k, .int .u32 (x : Int)] w fun e w' => e = .returned (.bool true) ∧ Below w.heap.size w w' := by
  by_cases h : 4 ≤ l.length ∧ l.length ≤ 500
  · exact crcFlips_yes A l c i k x hx h.1 h.2 hlb w hA
  · exact crcFlips_no A l.length c i k x (by omega) w

set_option maxRecDepth 100000 in
theorem crcFlips_lifted (os : Os) (started : os.Started) (H : Type) (enc : TypeId × Value → H) :
    ReturnsInHanded {} Try.checked os 4 .any (Rows.crcFlipsSpec.pre6 enc Try.prog Try.f4 Rows.crcFlipsRow.domain false) (Rows.crcFlipsSpec.post enc Try.prog Try.f4 false true false false) := by
  refine returnsInHanded_of_change (C := Try.checked) law_own started (by kernel_rfl) Try.func4
    (ChangeSpec.witness6 (enc := enc) (C := Try.checked) false ⟨#[], #[.slice none 0 0, .int .i64 0, .int .i64 0, .int .u32 0], []⟩ 8 (by kernel_rfl) (by kernel_rfl) (by kernel_rfl) (by kernel_rfl)) ?_
  intro W base args ds gs before hval0 hW _ _
  have hval : ∀ (j : Nat) t v, Try.f4.params[j]? = some t → args[j]? = some v → Value.okWide Try.prog W .any base t v := hval0
  have hW' := hW
  obtain ⟨p, q, hA0, hV, rfl, _, _⟩ := hW
  have hlt : ∀ x ∈ p ++ q, x.block < W.heap.size := fun x hx => hW'.lt x hx
  have hA : DataW.TrodAll enc Try.prog W 0 (fun _ => true) true Try.f4.params.toList args.toList ds p := hA0
  rw [Try.params4] at hA hval
  obtain ⟨v0, v1, v2, v3, d0, d1, d2, d3, p0, p1, p2, p3, rfl, rfl, rfl, h0, h1, h2, h3⟩ := trodAll_four hA
  obtain ⟨rfl, rfl⟩ := trodVars_none hV
  obtain ⟨A, l, c, rfl, hat0, hlb, _⟩ := open_bytes (hval 0 24 v0 rfl rfl) h0 (fun x hx => hlt x (by simp [hx]))
  obtain ⟨i, rfl, rfl, rfl, _⟩ := open_int Try.underlying3 (hval 1 3 v1 rfl rfl) h1
  obtain ⟨k, rfl, rfl, rfl, _⟩ := open_int Try.underlying3 (hval 2 3 v2 rfl rfl) h2
  obtain ⟨n, rfl, rfl, rfl, hwf⟩ := open_int Try.underlying23 (hval 3 23 v3 rfl rfl) h3
  have hn : 0 ≤ n ∧ n ≤ 4294967295 := by simpa [Lit.wf, IntKind.min, IntKind.max, IntKind.signed, IntKind.bits] using hwf
  obtain ⟨x, rfl⟩ := Int.eq_ofNat_of_zero_le hn.1
  clear hA0 hval0
  refine (crcFlips_any A l c i k x (by omega) hlb W hat0).mono fun e W' ⟨he, hb⟩ => ?_
  exact ⟨_, he, law_post law_laid (by kernel_rfl) (by kernel_rfl) Try.underlying4 rfl hW' rfl hb⟩

theorem crcFlips_holds : Rows.CrcFlipsSaid :=
  OpenClaim.holds_of_wide 4 Try.f4 rfl rfl rfl rfl rfl rfl rfl ⟨rfl, rfl, rfl, rfl, rfl⟩ rfl rfl rfl rfl rfl (by kernel_rfl) Try.func4 (by kernel_rfl)
    (of_decide_eq_true (by kernel_rfl)) (by unfold Func.isWrapper; first | (rw [if_pos (by decide +kernel)]; kernel_rfl) | (rw [if_neg (by decide +kernel)]; exact ⟨rfl, rfl⟩))
    (fun os started H enc _ => crcFlips_lifted os started H enc)
end Go.Proofs.Ytgjnjnfodomldaa
