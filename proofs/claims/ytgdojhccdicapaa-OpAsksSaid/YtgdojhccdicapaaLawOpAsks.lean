/- OpAsks, walked: any parts are checked, made normal, measured, and compared, as the document says. Condition: what memory may hold. -/
import Derived.Test.YtgdojhccdicapaaOpAwake
import Derived.Test.YtgdojhccdicapaaOpPlain
import Derived.Test.YtgdojhccdicapaaRefOpCheck
namespace Go.Proofs.Ytgdojhccdicapaa
open Go.RowKit Go.Deep

theorem keep_good (n : Int) (hn : Fit64 n) : ∀ y ∈ keepL n, y.Good := by
  intro y hy
  unfold keepL at hy
  split at hy
  · cases hy
  · rw [List.mem_singleton.1 hy]
    exact ⟨by unfold Fit64; simp, hn, by unfold Bytes; simp⟩
theorem keep_len (n : Int) : (keepL n).length ≤ maxLen := by
  unfold keepL maxLen
  split <;> simp

set_option maxHeartbeats 4000000 in
set_option maxRecDepth 100000 in
theorem opAsks_any (A : Option Addr) (l : List CompV) (c : Nat) (B : Option Addr) (m : List CompV) (d : Nat) (n : Int) (hl : l.length ≤ maxLen) (hm : m.length ≤ maxLen) (hgl : ∀ y ∈ l, y.Good) (hgm : ∀ y ∈ m, y.Good) (hn : Fit64 n) (w : World) (hA : CompsAt w A l) (hB : CompsAt w B m) :
    Calls Try.prog 3 #[.slice A l.length c, .slice B m.length d, .int .i64 n] w fun e w' => e = .returned (.bool true) ∧ Below w.heap.size w w' := by
  have GA := Lib.hid (fun w => opAwake_any w)
  have GW1 := Lib.hid (fun w h => alikeComps_at 4000 c hl hgl w (A := A) h)
  have GW2 := Lib.hid (fun w h => alikeComps_at 4000 d hm hgm w (A := B) h)
  have HA := Lib.hid hA
  have HB := Lib.hid hB
  clear hA hB
  obtain ⟨T1, HT1⟩ : ∃ x, Hid (compsWeight 4000 l = x) := ⟨_, rfl⟩
  obtain ⟨T2, HT2⟩ : ∃ x, Hid (compsWeight 4000 m = x) := ⟨_, rfl⟩
  rw [HT1.out] at GW1
  rw [HT2.out] at GW2
  by_cases h1 : T1 ≤ 4000
  · by_cases h2 : T2 ≤ 4000
    · have hs1 := weight_spec 4000 (by omega) l (by rw [HT1.out]; exact h1)
      have hs2 := weight_spec 4000 (by omega) m (by rw [HT2.out]; exact h2)
      have hfl : Fine1 l := fine_of hgl (by omega)
      have hl2 : l.length ≤ 4000 := by omega
      have GC := Lib.hid (fun w h => opCheck_any A c l hl hfl w h)
      have GCr := Lib.hid (fun w h => refCheck_any A c l hl hfl w h)
      have GN := Lib.hid (fun w h => opNormal_any A c l (by omega) (by omega) hgl w h)
      have GNr := Lib.hid (fun w h => refNormal_any A c l (by omega) (by omega) w h)
      have hgN := norm_good l hgl (by omega)
      have hlN := norm_len l
      have GSN := Lib.hid (fun A1 B1 c1 d1 w h1 h2 => refSame_any A1 B1 c1 d1 (rNormal l) (rNormal l) (by unfold maxLen; omega) (by unfold maxLen; omega) hgN hgN w h1 h2)
      have GB := Lib.hid (fun w h => opBase_any A c l hl w h)
      have GBr := Lib.hid (fun w h => refBase_any A c l hl w h)
      have GO := Lib.hid (fun w h => opOut_any A c l hl hfl w h)
      have GOr := Lib.hid (fun w h => refOut_any A c l hl hfl w h)
      have GS := Lib.hid (fun w h1 h2 => opSame_any A B c d l m hl hm hgl hgm w h1 h2)
      have GSr := Lib.hid (fun w h1 h2 => refSame_any A B c d l m hl hm hgl hgm w h1 h2)
      have GI := Lib.hid (fun w h => opIdle_any A c l hl w h)
      have GIr := Lib.hid (fun w h => refIdle_any A c l hl w h)
      have GK := Lib.hid (fun w => opKeep_any n w)
      have GKr := Lib.hid (fun w => refKeep_any n w)
      have hgK := keep_good n hn
      have hlK := keep_len n
      have GSK := Lib.hid (fun A1 B1 c1 d1 w h1 h2 => refSame_any A1 B1 c1 d1 (keepL n) (keepL n) hlK hlK hgK hgK w h1 h2)
      simp only [sameB_self] at GSN GSK
      obtain ⟨K, HK⟩ : ∃ x, Hid (rCheck l = x) := ⟨_, rfl⟩
      obtain ⟨N, HN⟩ : ∃ x, Hid (rNormal l = x) := ⟨_, rfl⟩
      obtain ⟨p, HP⟩ : ∃ x, Hid (rBase l = x) := ⟨_, rfl⟩
      obtain ⟨q, HQ⟩ : ∃ x, Hid (rOut l = x) := ⟨_, rfl⟩
      obtain ⟨S, HS⟩ : ∃ x, Hid (sameB l m = x) := ⟨_, rfl⟩
      obtain ⟨I, HI⟩ : ∃ x, Hid (idleB l = x) := ⟨_, rfl⟩
      obtain ⟨L, HL⟩ : ∃ x, Hid (keepL n = x) := ⟨_, rfl⟩
      rw [HK.out] at GC GCr
      rw [HN.out] at GN GNr GSN
      rw [HP.out] at GB GBr
      rw [HQ.out] at GO GOr
      rw [HS.out] at GS GSr
      rw [HI.out] at GI GIr
      rw [HL.out] at GK GKr GSK
      have HW0 := Lib.hid (Below.refl w.heap.size w)
      clear hgl hgm hl hm hfl hs1 hs2 hgN hlN hgK hlK hn hl2
      obtain ⟨w0, Hw0⟩ : ∃ x, Hid (w = x) := ⟨_, rfl⟩
      rw [Hw0.out] at HA HB HW0 ⊢
      go_enter Try.func3, Try.ntmps3
      go_wp2_with fail
      refine (GW1.out _ HA.out).mono ?_
      rintro e w1 ⟨rfl, hb⟩
      have HW1 : Hid (Below w0.heap.size w0 w1) := HW0.out.trans (hb.mono HW0.out.size)
      replace HA := Lib.hid (HA.out.below hb)
      replace HB := Lib.hid (HB.out.below hb)
      clear hb
      go_wp2_with fail
      refine (GW2.out _ HB.out).mono ?_
      rintro e w2 ⟨rfl, hb⟩
      have HW2 : Hid (Below w0.heap.size w0 w2) := HW1.out.trans (hb.mono HW1.out.size)
      replace HA := Lib.hid (HA.out.below hb)
      replace HB := Lib.hid (HB.out.below hb)
      clear hb
      go_wp2_with fail
      refine (GC.out _ HA.out).mono ?_
      rintro e w3 ⟨rfl, hb⟩
      have HW3 : Hid (Below w0.heap.size w0 w3) := HW2.out.trans (hb.mono HW2.out.size)
      replace HA := Lib.hid (HA.out.below hb)
      replace HB := Lib.hid (HB.out.below hb)
      clear hb
      go_wp2_with fail
      refine (GCr.out _ HA.out).mono ?_
      rintro e w4 ⟨rfl, hb⟩
      have HW4 : Hid (Below w0.heap.size w0 w4) := HW3.out.trans (hb.mono HW3.out.size)
      replace HA := Lib.hid (HA.out.below hb)
      replace HB := Lib.hid (HB.out.below hb)
      clear hb
      go_wp2_with fail
      refine (GN.out _ HA.out).mono ?_
      rintro e w5 ⟨AN1, cN1, rfl, ho, hb⟩
      have HW5 : Hid (Below w0.heap.size w0 w5) := HW4.out.trans (hb.mono HW4.out.size)
      have HN1 := Lib.hid (CellsAt.of_own ho)
      replace HA := Lib.hid (HA.out.below hb)
      replace HB := Lib.hid (HB.out.below hb)
      clear hb ho
      go_wp2_with fail
      refine (GNr.out _ HA.out).mono ?_
      rintro e w6 ⟨AN2, cN2, rfl, ho, hb⟩
      have HW6 : Hid (Below w0.heap.size w0 w6) := HW5.out.trans (hb.mono HW5.out.size)
      have HN2 := Lib.hid (CellsAt.of_own ho)
      replace HA := Lib.hid (HA.out.below hb)
      replace HB := Lib.hid (HB.out.below hb)
      replace HN1 := Lib.hid (CompsAt.below HN1.out hb)
      clear hb ho
      go_wp2_with fail
      refine (GSN.out _ _ _ _ _ HN1.out HN2.out).mono ?_
      rintro e w7 ⟨rfl, hb⟩
      have HW7 : Hid (Below w0.heap.size w0 w7) := HW6.out.trans (hb.mono HW6.out.size)
      replace HA := Lib.hid (HA.out.below hb)
      replace HB := Lib.hid (HB.out.below hb)
      clear hb
      go_wp2_with fail
      refine (GB.out _ HA.out).mono ?_
      rintro e w8 ⟨rfl, hb⟩
      have HW8 : Hid (Below w0.heap.size w0 w8) := HW7.out.trans (hb.mono HW7.out.size)
      replace HA := Lib.hid (HA.out.below hb)
      replace HB := Lib.hid (HB.out.below hb)
      clear hb
      go_wp2_with fail
      refine (GBr.out _ HA.out).mono ?_
      rintro e w8x ⟨rfl, rfl⟩
      go_wp2_with fail
      refine (GO.out _ HA.out).mono ?_
      rintro e w9 ⟨rfl, hb⟩
      have HW9 : Hid (Below w0.heap.size w0 w9) := HW8.out.trans (hb.mono HW8.out.size)
      replace HA := Lib.hid (HA.out.below hb)
      replace HB := Lib.hid (HB.out.below hb)
      clear hb
      go_wp2_with fail
      refine (GOr.out _ HA.out).mono ?_
      rintro e w9x ⟨rfl, rfl⟩
      go_wp2_with fail
      refine (GS.out _ HA.out HB.out).mono ?_
      rintro e w10 ⟨rfl, hb⟩
      have HW10 : Hid (Below w0.heap.size w0 w10) := HW9.out.trans (hb.mono HW9.out.size)
      replace HA := Lib.hid (HA.out.below hb)
      replace HB := Lib.hid (HB.out.below hb)
      clear hb
      go_wp2_with fail
      refine (GSr.out _ HA.out HB.out).mono ?_
      rintro e w11 ⟨rfl, hb⟩
      have HW11 : Hid (Below w0.heap.size w0 w11) := HW10.out.trans (hb.mono HW10.out.size)
      replace HA := Lib.hid (HA.out.below hb)
      replace HB := Lib.hid (HB.out.below hb)
      clear hb
      go_wp2_with fail
      refine (GI.out _ HA.out).mono ?_
      rintro e w12 ⟨rfl, hb⟩
      have HW12 : Hid (Below w0.heap.size w0 w12) := HW11.out.trans (hb.mono HW11.out.size)
      replace HA := Lib.hid (HA.out.below hb)
      replace HB := Lib.hid (HB.out.below hb)
      clear hb
      go_wp2_with fail
      refine (GIr.out _ HA.out).mono ?_
      rintro e w12x ⟨rfl, rfl⟩
      go_wp2_with fail
      refine (GK.out _).mono ?_
      rintro e w13 ⟨AK1, cK1, rfl, ho, hb⟩
      have HW13 : Hid (Below w0.heap.size w0 w13) := HW12.out.trans (hb.mono HW12.out.size)
      have HK1 := Lib.hid (ho)
      replace HA := Lib.hid (HA.out.below hb)
      replace HB := Lib.hid (HB.out.below hb)
      clear hb ho
      go_wp2_with fail
      refine (GKr.out _).mono ?_
      rintro e w14 ⟨AK2, cK2, rfl, ho, hb⟩
      have HW14 : Hid (Below w0.heap.size w0 w14) := HW13.out.trans (hb.mono HW13.out.size)
      have HK2 := Lib.hid (ho)
      replace HA := Lib.hid (HA.out.below hb)
      replace HB := Lib.hid (HB.out.below hb)
      replace HK1 := Lib.hid (CompsAt.below HK1.out hb)
      clear hb ho
      go_wp2_with fail
      refine (GSK.out _ _ _ _ _ HK1.out HK2.out).mono ?_
      rintro e w15 ⟨rfl, hb⟩
      have HW15 : Hid (Below w0.heap.size w0 w15) := HW14.out.trans (hb.mono HW14.out.size)
      replace HA := Lib.hid (HA.out.below hb)
      replace HB := Lib.hid (HB.out.below hb)
      clear hb
      go_wp2_with fail
      refine (GA.out _).mono ?_
      rintro e w16 ⟨rfl, hb⟩
      have HW16 : Hid (Below w0.heap.size w0 w16) := HW15.out.trans (hb.mono HW15.out.size)
      replace HA := Lib.hid (HA.out.below hb)
      replace HB := Lib.hid (HB.out.below hb)
      clear hb
      go_wp2
      go_ret
      exact ⟨rfl, HW16.out⟩
    · have h2' : 4000 < T2 := by omega
      clear h2
      go_enter Try.func3, Try.ntmps3
      go_wp2_with fail
      refine (GW1.out _ HA.out).mono ?_
      rintro e w1 ⟨rfl, hb1⟩
      have HB1 := Lib.hid hb1
      replace HB := Lib.hid (HB.out.below hb1)
      clear hb1
      go_wp2_with fail
      refine (GW2.out _ HB.out).mono ?_
      rintro e w2 ⟨rfl, hb2⟩
      have HB2 : Hid (Below w.heap.size w w2) := HB1.out.trans (hb2.mono HB1.out.size)
      clear hb2
      go_wp2_with fail
      refine (GA.out _).mono ?_
      rintro e w3 ⟨rfl, hb3⟩
      have HB3 : Hid (Below w.heap.size w w3) := HB2.out.trans (hb3.mono HB2.out.size)
      clear hb3
      go_wp2
      go_ret
      exact ⟨rfl, HB3.out⟩
  · have h1' : 4000 < T1 := by omega
    clear h1
    go_enter Try.func3, Try.ntmps3
    go_wp2_with fail
    refine (GW1.out _ HA.out).mono ?_
    rintro e w1 ⟨rfl, hb1⟩
    have HB1 := Lib.hid hb1
    clear hb1
    go_wp2_with fail
    refine (GA.out _).mono ?_
    rintro e w3 ⟨rfl, hb3⟩
    have HB3 : Hid (Below w.heap.size w w3) := HB1.out.trans (hb3.mono HB1.out.size)
    clear hb3
    go_wp2
    go_ret
    exact ⟨rfl, HB3.out⟩
end Go.Proofs.Ytgdojhccdicapaa
