/- CrcSums holds: any bytes have the sum that the document says, however they are cut, and it goes on from any sum: whatever slices of bytes and sum the law is called with, it answers true and changes nothing. No condition. -/
import Derived.Test.YtgjnjnfodomldaaLawCrcSums
namespace Go.Proofs.Ytgjnjnfodomldaa
open Go.ChangeShapes Go.WideShapes Go.ChangeAt Go.RowKit

theorem crcSums_any (A : Option Addr) (L : List (Option Addr × Nat × List Nat)) (c : Nat) (hL : L.length ≤ maxLen) (hF : Fine L) (s : Nat) (hs : s < 4294967296) (B : Option Addr) (l : List Nat) (d : Nat) (hb : ∀ x ∈ l, x < 256) (w : World) (hA : RowsAt w A L) (hB : BytesAt w B l) :
    Calls Try.prog 3 #[.slice A L.length c, .int .u32 (s : Int), .slice B l.length d] w fun e w' => e = .returned (.bool true) ∧ Below w.heap.size w w' := by
  rcases Nat.lt_or_ge 2000 (weight 2000 0 L) with h | h
  · exact crcSums_heavy A L c hL hF h s B _ d w hA
  · rcases Nat.lt_or_ge 2000 l.length with h2 | h2
    · exact crcSums_long A L c hL hF h s B _ d h2 w hA
    · exact crcSums_yes A L c (by have := weight_spec 2000 (by omega) L 0 h; omega) hF h s hs B l d h2 hb w hA hB

set_option maxRecDepth 100000 in
theorem crcSums_lifted (os : Os) (started : os.Started) (H : Type) (enc : TypeId × Value → H) :
    ReturnsInHanded {} Try.checked os 3 .any (Rows.crcSumsSpec.pre6 enc Try.prog Try.f3 Rows.crcSumsRow.domain false) (Rows.crcSumsSpec.post enc Try.prog Try.f3 false true false false) := by
  refine returnsInHanded_of_change (C := Try.checked) law_own started (by kernel_rfl) Try.func3
    (ChangeSpec.witness6 (enc := enc) (C := Try.checked) false ⟨#[], #[.slice none 0 0, .int .u32 0, .slice none 0 0], []⟩ 8 (by kernel_rfl) (by kernel_rfl) (by kernel_rfl) (by kernel_rfl)) ?_
  intro W base args ds gs before hval0 hW _ _
  have hval : ∀ (j : Nat) t v, Try.f3.params[j]? = some t → args[j]? = some v → Value.okWide Try.prog W .any base t v := hval0
  have hW' := hW
  obtain ⟨p, q, hA0, hV, rfl, _, _⟩ := hW
  have hlt : ∀ x ∈ p ++ q, x.block < W.heap.size := fun x hx => hW'.lt x hx
  have hA : DataW.TrodAll enc Try.prog W 0 (fun _ => true) true Try.f3.params.toList args.toList ds p := hA0
  rw [Try.params3] at hA hval
  obtain ⟨v0, v1, v2, d0, d1, d2, p0, p1, p2, rfl, rfl, rfl, h0, h1, h2⟩ := trodAll_three hA
  obtain ⟨rfl, rfl⟩ := trodVars_none hV
  obtain ⟨A, L, c, rfl, hat0, hF, hL⟩ := open_lists (hval 0 22 v0 rfl rfl) h0
  obtain ⟨n, rfl, rfl, rfl, hwf⟩ := open_int Try.underlying23 (hval 1 23 v1 rfl rfl) h1
  obtain ⟨B, l, c2, rfl, hat, h256, _⟩ := open_bytes (hval 2 24 v2 rfl rfl) h2 (fun x hx => hlt x (by simp [hx]))
  have hn : 0 ≤ n ∧ n ≤ 4294967295 := by simpa [Lit.wf, IntKind.min, IntKind.max, IntKind.signed, IntKind.bits] using hwf
  obtain ⟨s, rfl⟩ := Int.eq_ofNat_of_zero_le hn.1
  clear hA0 hval0
  refine (crcSums_any A L c hL hF s (by omega) B l c2 h256 W hat0 hat).mono fun e W' ⟨he, hb⟩ => ?_
  exact ⟨_, he, law_post law_laid (by kernel_rfl) (by kernel_rfl) Try.underlying4 rfl hW' rfl hb⟩

theorem crcSums_holds : Rows.CrcSumsSaid :=
  OpenClaim.holds_of_wide 3 Try.f3 rfl rfl rfl rfl rfl rfl rfl ⟨rfl, rfl, rfl, rfl, rfl⟩ rfl rfl rfl rfl rfl (by kernel_rfl) Try.func3 (by kernel_rfl)
    (of_decide_eq_true (by kernel_rfl)) (by unfold Func.isWrapper; first | (rw [if_pos (by decide +kernel)]; kernel_rfl) | (rw [if_neg (by decide +kernel)]; exact ⟨rfl, rfl⟩))
    (fun os started H enc _ => crcSums_lifted os started H enc)
end Go.Proofs.Ytgjnjnfodomldaa
