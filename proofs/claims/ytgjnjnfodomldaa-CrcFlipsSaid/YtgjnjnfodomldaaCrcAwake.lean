/- The contract of the laws' own 'awake' of crc: it answers true; what was there stays as it was. No condition. -/
import Derived.Test.YtgjnjnfodomldaaCrcFuns
import Derived.Lib.SlBytesConst
namespace Go.Proofs.Ytgjnjnfodomldaa
open Go.RowKit Go.Deep

theorem conv_const (w : World) (C : Array Value) (n c g : Nat) (hg : g = w.heap.size) :
    (convert 24 24 (.slice (some ⟨g, 0, none⟩) n c)).run Try.prog (w.alloc (.cells C 5)) = .ok (.slice (some ⟨g, 0, none⟩) n c) (w.alloc (.cells C 5 (C.size, C.size + 1))) := by
  subst hg
  exact Lib.run_convert_bytes_const (P := Try.prog) w 24 5 C n c Try.underlying24 Try.underlying5
theorem digits_lit {w : World} {t : TypeId} {fr : Nat × Nat} {g : Nat} (hg : g = w.heap.size) :
    BytesAt (w.alloc (.cells #[.int .u8 49, .int .u8 50, .int .u8 51, .int .u8 52, .int .u8 53, .int .u8 54, .int .u8 55, .int .u8 56, .int .u8 57] t fr)) (some ⟨g, 0, none⟩) [49, 50, 51, 52, 53, 54, 55, 56, 57] :=
  BytesAt.lit (fun j x h => by
    match j, h with
    | 0, h => cases h; rfl
    | 1, h => cases h; rfl
    | 2, h => cases h; rfl
    | 3, h => cases h; rfl
    | 4, h => cases h; rfl
    | 5, h => cases h; rfl
    | 6, h => cases h; rfl
    | 7, h => cases h; rfl
    | 8, h => cases h; rfl) hg
theorem a_lit {w : World} {t : TypeId} {fr : Nat × Nat} {g : Nat} (hg : g = w.heap.size) : BytesAt (w.alloc (.cells #[.int .u8 97] t fr)) (some ⟨g, 0, none⟩) [97] :=
  BytesAt.lit (fun j x h => by
    match j, h with
    | 0, h => cases h; rfl) hg
theorem sum_digits (w : World) (b cap cap' : Nat) (t : TypeId) (g : Nat) (hg : g = w.heap.size) (h : BytesAt w (some ⟨b, 0, none⟩) [49, 50, 51, 52, 53, 54, 55, 56, 57]) :
    Calls Try.prog 8 #[.slice (some ⟨g, 0, none⟩) 1 cap] (w.alloc (.cells #[.slice (some ⟨b, 0, none⟩) 9 cap'] t)) fun e w' => e = .returned (.int .u32 3421780262) ∧ w.alloc (.cells #[.slice (some ⟨b, 0, none⟩) 9 cap'] t) = w' := by
  have := crcSum_one (A := some ⟨b, 0, none⟩) (l := [49, 50, 51, 52, 53, 54, 55, 56, 57]) cap' cap (by simp [maxLen]) (by decide) w h t g hg
  rw [sm_check] at this
  exact this
theorem sum_a (w : World) (b cap cap' : Nat) (t : TypeId) (g : Nat) (hg : g = w.heap.size) (h : BytesAt w (some ⟨b, 0, none⟩) [97]) :
    Calls Try.prog 8 #[.slice (some ⟨g, 0, none⟩) 1 cap] (w.alloc (.cells #[.slice (some ⟨b, 0, none⟩) 1 cap'] t)) fun e w' => e = .returned (.int .u32 ((sm [97] : Nat) : Int)) ∧ w.alloc (.cells #[.slice (some ⟨b, 0, none⟩) 1 cap'] t) = w' :=
  crcSum_one (A := some ⟨b, 0, none⟩) (l := [97]) cap' cap (by simp [maxLen]) (by decide) w h t g hg
theorem same_a (w : World) (b cap : Nat) (h : BytesAt w (some ⟨b, 0, none⟩) [97]) :
    Calls Try.prog 12 #[.int .u32 ((sm [97] : Nat) : Int), .slice (some ⟨b, 0, none⟩) 1 cap] w fun e w' => e = .returned (.bool true) ∧ Below w.heap.size w w' := by
  have := crcSame_at (A := some ⟨b, 0, none⟩) (l := [97]) (sm [97]) cap (by simp [maxLen]) (by decide) w h
  rw [show decide (sm [97] = sm [97]) = true from decide_eq_true rfl] at this
  exact this
theorem same_1 (w : World) (b cap : Nat) (h : BytesAt w (some ⟨b, 0, none⟩) [97]) :
    Calls Try.prog 12 #[.int .u32 1, .slice (some ⟨b, 0, none⟩) 1 cap] w fun e w' => e = .returned (.bool false) ∧ Below w.heap.size w w' := by
  have := crcSame_at (A := some ⟨b, 0, none⟩) (l := [97]) 1 cap (by simp [maxLen]) (by decide) w h
  rw [sm_one] at this
  exact this
theorem sum_none (A : Option Addr) (cap : Nat) (w : World) : Calls Try.prog 8 #[.slice A 0 cap] w fun e w' => e = .returned (.int .u32 0) ∧ w = w' := by
  have := crcSum_nil A cap w
  rw [sm_nil] at this
  exact this

set_option maxRecDepth 100000 in
theorem crcAwake_any (w : World) : Calls Try.prog 7 #[] w fun e w' => e = .returned (.bool true) ∧ Below w.heap.size w w' := by
  obtain ⟨s, HS⟩ : ∃ s, Hid (sm [97] = s) := ⟨_, rfl⟩
  have SA := Lib.hid sum_a
  have SM := Lib.hid same_a
  rw [HS.out] at SA SM
  have kc := conv_const
  go_enter Try.func7, Try.ntmps7
  go_wp2_with fail
  refine (sum_digits _ _ _ _ _ _ ?_ (digits_lit ?_)).mono ?_
  · simp
  · simp
  rintro e w' ⟨rfl, rfl⟩
  go_wp2_with fail
  refine (sum_none _ _ _).mono ?_
  rintro e w' ⟨rfl, rfl⟩
  go_wp2_with fail
  refine (SA.out _ _ _ _ _ _ ?_ (a_lit ?_)).mono ?_
  · simp
  · simp
  rintro e w' ⟨rfl, rfl⟩
  go_wp2_with fail
  refine (SM.out _ _ _ (a_lit ?_)).mono ?_
  · simp
  rintro e w1 ⟨rfl, hb1⟩
  have HB1 := Lib.hid hb1; clear hb1
  go_wp2_with fail
  refine (same_1 _ _ _ (a_lit ?_)).mono ?_
  · simp
  rintro e w2 ⟨rfl, hb2⟩
  have HB2 := Lib.hid hb2; clear hb2
  go_wp2_with fail
  go_ret
  exact ⟨rfl, bstep (balloc (bstep (balloc (balloc (balloc (balloc (balloc (Below.refl _ _) _) _) _) _) _) HB1.out) _) HB2.out⟩
end Go.Proofs.Ytgjnjnfodomldaa
