/- The document's own Check of an edit. Condition: no slice is longer than memory, no text longer than 2^40 bytes. -/
import Derived.Test.YtgdojhccdicapaaRefOpNormal
import Derived.Test.YtgdojhccdicapaaRefOpLen
namespace Go.Proofs.Ytgdojhccdicapaa
open Go.RowKit Go.Deep

set_option maxRecDepth 100000 in
theorem refCheck_any (A : Option Addr) (c : Nat) (l : List CompV) (hl : l.length ≤ maxLen) (hf : Fine1 l) (w : World) (hc : CompsAt w A l) :
    Calls Try.prog 10 #[.slice A l.length c] w fun e w' => e = .returned (.int .i64 (rCheck l : Int)) ∧ Below w.heap.size w w' := by
  have HL := Lib.hid hl
  unfold maxLen at hl
  have GN := Lib.hid (refNormal0_any A c l HL.out hf w hc)
  have GB := Lib.hid (fun w h => refBase_any A c l HL.out w h)
  have GO := Lib.hid (fun w h => refOut_any A c l HL.out hf w h)
  have HC := Lib.hid hc; clear hc hf
  obtain ⟨T, HT⟩ : ∃ T, Hid (rCheck l = T) := ⟨_, Lib.hid rfl⟩
  rw [HT.out]
  unfold rCheck at HT
  by_cases h100 : 100 < l.length
  · rw [if_pos h100] at HT
    go_enter Try.func10, Try.ntmps10
    go_wp2
    go_ret
    exact ⟨by rw [← HT.out]; rfl, Below.refl _ _⟩
  · rw [if_neg h100] at HT
    cases hnb : nrmB l with
    | false =>
      rw [hnb, if_pos rfl] at HT
      rw [hnb] at GN
      clear hnb
      go_enter Try.func10, Try.ntmps10
      go_wp2_with fail
      refine GN.out.mono ?_
      rintro e w1 ⟨rfl, hb1⟩
      have HB1 := Lib.hid hb1; clear hb1
      go_wp2
      go_ret
      exact ⟨by rw [← HT.out]; rfl, HB1.out⟩
    | true =>
      rw [hnb, if_neg (by simp)] at HT
      rw [hnb] at GN
      clear hnb
      obtain ⟨p, HP⟩ : ∃ x, Hid (rBase l = x) := ⟨_, Lib.hid rfl⟩
      obtain ⟨q, HQ⟩ : ∃ x, Hid (rOut l = x) := ⟨_, Lib.hid rfl⟩
      rw [HP.out] at GB HT
      rw [HQ.out] at GO HT
      go_enter Try.func10, Try.ntmps10
      go_wp2_with fail
      refine GN.out.mono ?_
      rintro e w1 ⟨rfl, hb1⟩
      have HB1 := Lib.hid hb1; clear hb1
      go_wp2_with fail
      refine (GB.out w1 (HC.out.below HB1.out)).mono ?_
      rintro e w2 ⟨rfl, rfl⟩
      by_cases hp : 2000 < p
      · rw [if_pos (.inl hp)] at HT
        go_wp2
        go_ret
        exact ⟨by rw [← HT.out]; rfl, HB1.out⟩
      · go_wp2_with fail
        refine (GO.out w1 (HC.out.below HB1.out)).mono ?_
        rintro e w2 ⟨rfl, rfl⟩
        by_cases hq : 2000 < q
        · rw [if_pos (.inr hq)] at HT
          go_wp2
          go_ret
          exact ⟨by rw [← HT.out]; rfl, HB1.out⟩
        · rw [if_neg (by omega)] at HT
          go_wp2
          go_ret
          exact ⟨by rw [← HT.out]; rfl, HB1.out⟩
end Go.Proofs.Ytgdojhccdicapaa
