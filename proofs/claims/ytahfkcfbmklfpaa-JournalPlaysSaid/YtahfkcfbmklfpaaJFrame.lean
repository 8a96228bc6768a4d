/- The contract of journal.frame: a frame in new memory. Condition: fewer than 2^40 bytes. -/
import Derived.Test.YtahfkcfbmklfpaaJMath
import Derived.Test.YtahfkcfbmklfpaaPutOwn
import Derived.Test.YtahfkcfbmklfpaaCrcFuns
namespace Go.Proofs.Ytahfkcfbmklfpaa
open Go.RowKit Go.Deep

theorem sum4_at (S : Nat) : ∀ j x : Nat, (sum4 S)[j]? = some x → (#[Value.int .u8 ((S : Int) / 16777216 % 256), Value.int .u8 ((S : Int) / 65536 % 256), Value.int .u8 ((S : Int) / 256 % 256), Value.int .u8 ((S : Int) % 256)] : Array Value)[j]? = some (Value.int .u8 (x : Int)) := by
  intro j x h
  match j, h with
  | 0, h => cases h; rfl
  | 1, h => cases h; rfl
  | 2, h => cases h; rfl
  | 3, h => cases h; rfl
set_option maxHeartbeats 1000000 in
set_option maxRecDepth 100000 in
theorem frame_any (A : Option Addr) (b : List Nat) (c : Nat) (hl : b.length ≤ 1000000) (hb : ∀ x ∈ b, x < 256) (w : World) (h : BytesAt w A b) :
    Calls Try.prog 35 #[.slice A b.length c] w fun e w' => ∃ v, e = .returned v ∧ w'.ownsRow w.heap.size 5 1 v (frm b).length (u8s (frm b)) ∧ Below w.heap.size w w' := by
  have H := Lib.hid h; clear h
  have GP := Lib.hid (numPut_own (b.length + 1) (by omega) w)
  have e1 : ((b.length + 1 : Nat) : Int) = (b.length : Int) + 1 := by omega
  rw [e1] at GP
  clear e1
  have HHL := Lib.hid (hed_length b)
  have HHB := Lib.hid (hed_bytes hb)
  have HSL := Lib.hid (sm_lt (hed b))
  have HN6 := nsz_le (b.length + 1)
  have HF : Hid (frm b = hed b ++ sum4 (sm (hed b))) := rfl
  have HNL := Lib.hid (nput_length (b.length + 1))
  obtain ⟨S, HS⟩ : ∃ S, Hid (sm (hed b) = S) := ⟨_, Lib.hid rfl⟩
  rw [HS.out] at HF HSL
  go_enter Try.func35, Try.ntmps35
  go_wp2_with fail
  refine GP.out.mono ?_
  rintro e w1 ⟨v1, rfl, ho1, hb1⟩
  have HO1 := Lib.hid ho1; have HB1 := Lib.hid hb1; clear ho1 hb1
  go_wp2_with
   (at_builtin
    refine wpList_append_bytes rfl (.tmp 8) (.tmp 9) rfl w.heap.size v1 _ _ rfl HO1.out A b c rfl (H.out.below HB1.out) (by rw [HNL.out]; omega) HB1.out.size ?_
    intro v2 w2 hap
    have hb2 := hap.below HB1.out HB1.out.size (fun k hk => (HO1.out.lt k hk).1)
    have HO2 : Hid (w2.ownsRow w.heap.size 5 1 v2 (hed b).length (u8s (hed b))) := by
      have := hap.1
      rw [← List.length_append] at this
      exact this
    have HB2 := Lib.hid hb2.1; clear hap hb2
    obtain ⟨A2, c2, hv2⟩ := own_slice HO2.out
    subst hv2)
  have HA2 : Hid (BytesAt w2 A2 (hed b)) := BytesAt.of_own HO2.out rfl
  have GS := Lib.hid (crcSum_one c2 1 (by rw [HHL.out]; simp only [maxLen]; omega) HHB.out w2 HA2.out 31 w2.heap.size rfl)
  rw [HS.out] at GS
  go_wp2_with fail
  refine GS.out.mono ?_
  rintro e w' ⟨rfl, rfl⟩
  have HB3 : Hid (Below w.heap.size w (w2.alloc (.cells #[.slice A2 (hed b).length c2] 31))) := HB2.out.alloc HB2.out.size _
  have HO3 : Hid ((w2.alloc (.cells #[.slice A2 (hed b).length c2] 31)).ownsRow w.heap.size 5 1 (.slice A2 (hed b).length c2) (hed b).length (u8s (hed b))) := HO2.out.alloc _
  generalize w2.alloc (.cells #[.slice A2 (hed b).length c2] 31) = w3 at HB3 HO3 ⊢
  have hs2 := HB3.out.size
  go_wp2_with
   (at_builtin
    refine wpList_append_bytes rfl (.tmp 14) (.tmp 26) rfl w.heap.size (.slice A2 (hed b).length c2) _ _ rfl (HO3.out.alloc _) (some ⟨w3.heap.size, 0, none⟩) (sum4 S) 4 rfl (BytesAt.lit (sum4_at S) rfl) (by rw [HHL.out]; show _ + 4 ≤ _; omega) (by simp; omega) ?_
    intro v4 w4 hap
    have hb4 := hap.below (balloc HB3.out _) (by simp; omega) (fun k hk => (HO3.out.lt k hk).1)
    have HO4 : Hid (w4.ownsRow w.heap.size 5 1 v4 (frm b).length (u8s (frm b))) := by
      have := hap.1
      rw [← List.length_append, ← HF.out] at this
      exact this
    have HB4 := Lib.hid hb4.1; clear hap hb4)
  go_ret
  exact ⟨_, rfl, HO4.out, HB4.out⟩
end Go.Proofs.Ytahfkcfbmklfpaa
