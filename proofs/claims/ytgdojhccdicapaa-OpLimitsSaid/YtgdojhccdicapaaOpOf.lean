/- The landed Of: an edit of a place. Condition: no text longer than 2^40 bytes. -/
import Derived.Test.YtgdojhccdicapaaRefOpOf
import Derived.Test.YtgdojhccdicapaaOpNormal
import Derived.Test.YtgdojhccdicapaaUtfValid
namespace Go.Proofs.Ytgdojhccdicapaa
open Go.RowKit Go.Deep

set_option maxHeartbeats 2000000 in
set_option maxRecDepth 100000 in
theorem opOf_any (base fr to : Int) (t : List Nat) (hbase : base ≤ 9223372036854775807) (hb : ∀ x ∈ t, x < 256) (hl : t.length ≤ 1099511627776) (w : World) :
    Calls Try.prog 25 #[.int .i64 base, .int .i64 fr, .int .i64 to, .string (bstr t)] w fun e w' => OfEnd base fr to t w e w' ∧ Below w.heap.size w w' := by
  by_cases h1 : fr < 0
  · have HE : Hid (OfNo base fr to t) := .inl h1
    go_enter Try.func25, Try.ntmps25
    go_wp2
    go_ret2
    exact ⟨.inl ⟨HE.out, rfl⟩, Below.refl _ _⟩
  by_cases h2 : to < fr
  · have HE : Hid (OfNo base fr to t) := .inr (.inl h2)
    go_enter Try.func25, Try.ntmps25
    go_wp2
    go_ret2
    exact ⟨.inl ⟨HE.out, rfl⟩, Below.refl _ _⟩
  by_cases h3 : base < to
  · have HE : Hid (OfNo base fr to t) := .inr (.inr (.inl h3))
    go_enter Try.func25, Try.ntmps25
    go_wp2
    go_ret2
    exact ⟨.inl ⟨HE.out, rfl⟩, Below.refl _ _⟩
  by_cases hv : ∃ vs, V t vs
  · obtain ⟨vs, hvs⟩ := hv
    have HE : Hid (¬ OfNo base fr to t) := fun h => by
      rcases h with h | h | h | h
      · exact h1 h
      · exact h2 h
      · exact h3 h
      · exact h ⟨vs, hvs⟩
    have GV := Lib.hid (fun w => utfValid_yes hvs hl w)
    clear hvs
    have GR := Lib.hid (fun n w => opRetain_any n w)
    have GI := Lib.hid (fun w => opInsert_any t w)
    have GD := Lib.hid (fun n w => opRemove_any n w)
    obtain ⟨L, HL⟩ : ∃ L, Hid (rNormal (ofParts base fr to t) = L) := ⟨_, Lib.hid rfl⟩
    have HGOOD : Hid (∀ y ∈ ofParts base fr to t, y.Good) := fun y hy => by
      have h64 : ∀ n : Int, 0 ≤ n → n ≤ base → Fit64 n := fun n h0 h1 => by unfold Fit64; omega
      rcases List.mem_cons.1 hy with rfl | hy
      · exact ⟨by unfold Fit64; simp, h64 _ (by show 0 ≤ fr; omega) (by show fr ≤ base; omega), by unfold Bytes; simp⟩
      rcases List.mem_cons.1 hy with rfl | hy
      · exact ⟨by unfold Fit64; simp, by unfold Fit64; simp, hb, (by show t.length ≤ _; unfold maxLen; omega)⟩
      rcases List.mem_cons.1 hy with rfl | hy
      · exact ⟨by unfold Fit64; simp, h64 _ (by show 0 ≤ to - fr; omega) (by show to - fr ≤ base; omega), by unfold Bytes; simp⟩
      rcases List.mem_cons.1 hy with rfl | hy
      · exact ⟨by unfold Fit64; simp, h64 _ (by show 0 ≤ base - to; omega) (by show base - to ≤ base; omega), by unfold Bytes; simp⟩
      · cases hy
    have GN := Lib.hid (fun (A : Option Addr) (c : Nat) w h => opNormal_any A c (ofParts base fr to t) (by show 4 ≤ _; omega) (by show ([] ++ (t ++ ([] ++ ([] ++ []))) : List Nat).length ≤ _; simpa using hl) HGOOD.out w h)
    rw [HL.out] at GN
    unfold OfEnd
    rw [HL.out]
    go_enter Try.func25, Try.ntmps25
    go_wp2_with fail
    refine (GV.out w).mono ?_
    rintro e w0 ⟨rfl, rfl⟩
    go_wp2_with fail
    refine (GR.out _ _).mono ?_
    rintro e v1 ⟨rfl, hb1⟩
    have HV1 : Hid (Below w.heap.size w v1) := hb1
    clear hb1
    go_wp2_with fail
    refine (GI.out _).mono ?_
    rintro e v2 ⟨rfl, hb1⟩
    have HV2 : Hid (Below w.heap.size w v2) := HV1.out.trans (hb1.mono HV1.out.size)
    clear hb1
    go_wp2_with fail
    refine (GD.out _ _).mono ?_
    rintro e v3 ⟨rfl, hb1⟩
    have HV3 : Hid (Below w.heap.size w v3) := HV2.out.trans (hb1.mono HV2.out.size)
    clear hb1
    go_wp2_with fail
    refine (GR.out _ _).mono ?_
    rintro e w1 ⟨rfl, hb1⟩
    have HB1 : Hid (Below w.heap.size w w1) := HV3.out.trans (hb1.mono HV3.out.size)
    clear hb1
    go_wp2_with fail
    refine (GN.out (some ⟨w1.heap.size, 0, none⟩) 4 _ (CellsAt.lit (fun j v hj => ?_) rfl)).mono ?_
    · match j, hj with
      | 0, hj => cases hj; rfl
      | 1, hj => cases hj; rfl
      | 2, hj => cases hj; rfl
      | 3, hj => cases hj; rfl
      | 4, hj => cases hj; rfl
      | 5, hj => cases hj; rfl
      | 6, hj => cases hj; rfl
      | 7, hj => cases hj; rfl
      | 8, hj => cases hj; rfl
      | 9, hj => cases hj; rfl
      | 10, hj => cases hj; rfl
      | 11, hj => cases hj; rfl
    rintro e w2 ⟨A', c', rfl, hown, hb2⟩
    have HOWN := Lib.hid (own_base hown (base' := w.heap.size) (by have := HB1.out.size; simp; omega)); clear hown
    have HB2 : Hid (Below w.heap.size w w2) := (HB1.out.alloc HB1.out.size _).trans (hb2.mono (by have := HB1.out.size; simp; omega))
    clear hb2
    go_wp2
    go_ret2
    exact ⟨.inr ⟨HE.out, A', c', rfl, HOWN.out⟩, HB2.out⟩
  · have HE : Hid (OfNo base fr to t) := .inr (.inr (.inr hv))
    have GV := Lib.hid (fun w => utfValid_no hv hb hl w)
    go_enter Try.func25, Try.ntmps25
    go_wp2_with fail
    refine (GV.out w).mono ?_
    rintro e w1 ⟨rfl, rfl⟩
    go_wp2
    go_ret2
    exact ⟨.inl ⟨HE.out, rfl⟩, Below.refl _ _⟩
end Go.Proofs.Ytgdojhccdicapaa
