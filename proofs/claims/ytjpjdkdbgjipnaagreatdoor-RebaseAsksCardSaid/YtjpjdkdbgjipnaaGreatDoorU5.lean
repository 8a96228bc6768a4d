/- The document's own Normal of parts. Conditions: no more than 2^30 parts, no more than 2^40 bytes of text. -/
import Derived.Test.YtjpjdkdbgjipnaaGreatDoorU7
import Derived.Test.YtjpjdkdbgjipnaaGreatDoorU19
import Derived.Test.YtjpjdkdbgjipnaaGreatDoorU4
import Derived.Test.YtjpjdkdbgjipnaaGreatDoorU1
namespace Go.Proofs.YtjpjdkdbgjipnaaGreatDoor
open Go.RowKit Go.Deep
def NRel (l : List CompV) (k : Nat) (s : NS) : Prop := (k ≤ l.length → s = nRun (l.take k)) ∧ (k = l.length + 1 → s = ⟨yy19 l, 0, 0, []⟩)
set_option maxHeartbeats 16000000 in
set_option maxRecDepth 100000 in
theorem yy307 (A : Option Addr) (c : Nat) (l : List CompV) (hl : l.length ≤ 1073741824) (ht : tlen l ≤ 1099511627776) (w : World) (hc : yy8 w A l) :
  Calls Tryz.prog 54 #[.slice A l.length c] w fun e w' => ∃ A' c', e = .returned (.slice A' (yy19 l).length c') ∧ w'.ownsRow w.heap.size 60 3 (.slice A' (yy19 l).length c') (yy19 l).length ((yy19 l).flatMap yy2) ∧ Below w.heap.size w w' := by
 have HC := xh hc; clear hc
 have HTL := xh ht; clear ht
 have GH := xh (fun a b w => yy169 a b w)
 go_enter Tryz.func54, Tryz.ntmps54
 go_wp2
 go_loopw [3, 4, 5, 6, 7] (fun o p g t i wr => ∃ (k : Nat) (s : NS) (A0 : Option Addr) (c0 : Nat), k ≤ l.length + 1 ∧ i = .int .i64 k ∧ o = .slice A0 s.out.length c0 ∧ p = .int .i64 s.keep ∧ g = .int .i64 s.gone ∧ t = .string (bstr s.text) ∧ NRel l k s ∧
  wr.ownsRow w.heap.size 60 3 (.slice A0 s.out.length c0) s.out.length (s.out.flatMap yy2) ∧ Below w.heap.size w wr) (fun _ _ _ _ i _ => l.length + 1 - (intOf i).toNat)
 case atStart => exact ⟨0, nStart, none, 0, Nat.zero_le _, rfl, rfl, rfl, rfl, rfl, ⟨fun _ => rfl, fun h => by omega⟩, World.ownsRow_nil _ _ _ _, Below.refl _ _⟩
 case round =>
  obtain ⟨k, s, A0, c0, hk, rfl, rfl, rfl, rfl, rfl, hrel, hown, hb⟩ := hrel
  have HOWN0 := xh hown; clear hown
  have HB0 := xh hb; clear hb
  by_cases hend : k = l.length + 1
  ·obtain rfl := hrel.2 hend
   have hkl : ¬ k ≤ l.length := by omega
   clear hend
   go_wp2
   go_ret
   exact ⟨A0, c0, rfl, HOWN0.out, HB0.out⟩
  have hkl : k ≤ l.length := by omega
  clear hend hk
  have hs := hrel.1 hkl
  clear hrel
  have hfit := yy484 (l.take k)
  rw [← hs, List.length_take] at hfit
  have HTT : Hid (s.text.length ≤ tlen (l.take k)) := hfit.text
  have hp0 := hfit.keep0; have hp1 := hfit.keep1; have hg0 := hfit.gone0; have hg1 := hfit.gone1
  have hol : s.out.length ≤ 3221225472 := Nat.le_trans hfit.out (by omega)
  clear hfit
  obtain ⟨out0, keep, gone, tx⟩ := s
  simp only at hp0 hp1 hg0 hg1 hol HTT HOWN0
  have HS := xh hs; clear hs
  have HOL := xh hol; clear hol
  by_cases hlt : k < l.length
  ·obtain ⟨b, off, rfl, _⟩ := HC.out.form (by omega)
   obtain ⟨x0, x1, x2⟩ := (HC.out.below HB0.out).at_ hlt
   have HN := xh (show nRun (l.take (k + 1)) = nStep ⟨out0, keep, gone, tx⟩ l[k] by rw [List.take_succ_eq_append_getElem hlt, yy197, ← HS.out])
   have HTG := xh (yy262 hlt)
   have HX1 := xh (fun (w' : World) (h : yy8 w' (some ⟨b, off, none⟩) l) => (h.at_ hlt).2.1)
   generalize l[k] = y at x0 x1 x2 HN HTG HX1
   obtain ⟨kd, n, ct⟩ := y
   simp only at x0 x1 x2 HTG HX1
   have htx : tx.length ≤ 1099511627776 := by have := HTT.out; have := HTG.out; have := HTL.out; omega
   have hct : ct.length ≤ 1099511627776 := by have := HTG.out; have := HTL.out; omega
   have HADD := xh (fun w => yy657 tx ct htx hct w)
   clear htx hct
   by_cases h2 : kd = 2
   ·subst h2
    have HN2 : Hid (nRun (l.take (k + 1)) = ⟨out0, keep, gone, tx ++ ct⟩) := by show _ = _; rw [HN.out, nStep, if_pos rfl]
    have hadd := HADD.out
    go_wp2
    go_roundw
    case rel => exact ⟨k + 1, ⟨out0, keep, gone, tx ++ ct⟩, A0, c0, by omega, by go_num, rfl, rfl, rfl, rfl, ⟨fun _ => HN2.out.symm, fun h => by omega⟩, HOWN0.out, HB0.out⟩
    case measure => simp [intOf]; omega
   have g2 : (kd == 2) = false := xn h2
   by_cases h3 : kd = 3
   ·subst h3
    have HN2 : Hid (nRun (l.take (k + 1)) = ⟨out0, keep, hld gone n, tx⟩) := by show _ = _; rw [HN.out, nStep, if_neg h2, if_pos rfl]
    have HH := xh (fun w => GH.out gone n w)
    obtain ⟨q, HQ⟩ : ∃ q, Hid (hld gone n = q) := ⟨_, xh rfl⟩
    rw [HQ.out] at HN2 HH
    go_wp2_with fail
    refine (HH.out _).mono ?_
    rintro e w1 ⟨rfl, rfl⟩
    go_wp2
    go_roundw
    case rel => exact ⟨k + 1, ⟨out0, keep, q, tx⟩, A0, c0, by omega, by go_num, rfl, rfl, rfl, rfl, ⟨fun _ => HN2.out.symm, fun h => by omega⟩, HOWN0.out, HB0.out⟩
    case measure => simp [intOf]; omega
   have g3 : (kd == 3) = false := xn h3
   by_cases h1 : kd = 1
   ·subst h1
    by_cases hn : 1 ≤ n
    ·have hn' : ¬ n < 1 := by omega
     rw [nStep, if_neg h2, if_neg h3, if_neg (by simp only; omega)] at HN
     have HK0 := xh (fun w => GH.out 0 n w)
     have HKK := xh (fun w => GH.out keep n w)
     obtain ⟨q, HQ⟩ : ∃ q, Hid (hld keep n = q) := ⟨_, xh rfl⟩
     obtain ⟨q0, HQ0⟩ : ∃ q, Hid (hld 0 n = q) := ⟨_, xh rfl⟩
     simp only [HQ.out, HQ0.out] at HN
     rw [HQ.out] at HKK
     rw [HQ0.out] at HK0
     clear h2 h3
     by_cases hfl : tx ≠ [] ∨ 0 < gone
     ·rw [if_pos hfl] at HN
      unfold NS.flush at HN
      simp only at HN
      by_cases hkp : 0 < keep
      ·rw [keepOf, if_pos hkp] at HN
       by_cases htx : tx = []
       ·subst htx
        rw [textOf, if_pos rfl] at HN
        have hte := yy79
        by_cases hgo : 0 < gone
        ·rw [goneOf, if_pos hgo] at HN
         have HLEN0 : Hid (out0.length ≤ 3221225472) := HOL.out
         go_wp2_with (first
          | (at_builtin
             refine yy20 rfl (.tmp 86) (.tmp 89) rfl w (.slice A0 out0.length c0) out0 ⟨1, keep, []⟩ rfl HOWN0.out HB0.out rfl (by have := HLEN0.out; omega) ?_
             intro out1 A1 c1 w1 ho1 hown1 hb1
             have HO1 := xh ho1; have HOWN1 := xh hown1; have HB1 := xh hb1
             have HLEN1 : Hid (out1.length ≤ 3221225473) := by show _ ≤ _; rw [HO1.out, List.length_append]; have := HLEN0.out; simp only [List.length_cons, List.length_nil]; omega
             have z1 := HX1.out _ (HC.out.below HB1.out)
             clear ho1 hown1 hb1)
          | (at_builtin
             refine yy20 rfl (.tmp 100) (.tmp 103) rfl w (.slice A1 out1.length c1) out1 ⟨3, gone, []⟩ rfl HOWN1.out HB1.out rfl (by have := HLEN1.out; omega) ?_
             intro out2 A2 c2 w2 ho2 hown2 hb2
             have HO2 := xh ho2; have HOWN2 := xh hown2; have HB2 := xh hb2
             have HLEN2 : Hid (out2.length ≤ 3221225474) := by show _ ≤ _; rw [HO2.out, List.length_append]; have := HLEN1.out; simp only [List.length_cons, List.length_nil]; omega
             have z2 := HX1.out _ (HC.out.below HB2.out)
             clear ho2 hown2 hb2)
          | fail)
         refine (HK0.out _).mono ?_
         rintro e w9 ⟨rfl, rfl⟩
         go_wp2
         go_roundw
         case measure => simp [intOf]; omega
         have hO : nRun (l.take (k + 1)) = ⟨out2, q0, 0, []⟩ := by simp [HN.out, HO2.out, HO1.out]
         exact ⟨k + 1, ⟨out2, q0, 0, []⟩, A2, c2, by omega, by go_num, rfl, rfl, rfl, rfl, ⟨fun _ => hO.symm, fun h => by omega⟩, HOWN2.out, HB2.out⟩
        ·rw [goneOf, if_neg hgo] at HN
         have hgo0 : gone = 0 := by omega
         subst hgo0
         exact absurd hfl (by simp)
       ·have hte := yy97 htx
        rw [textOf, if_neg htx] at HN
        clear htx
        by_cases hgo : 0 < gone
        ·rw [goneOf, if_pos hgo] at HN
         have HLEN0 : Hid (out0.length ≤ 3221225472) := HOL.out
         go_wp2_with (first
          | (at_builtin
             refine yy20 rfl (.tmp 86) (.tmp 89) rfl w (.slice A0 out0.length c0) out0 ⟨1, keep, []⟩ rfl HOWN0.out HB0.out rfl (by have := HLEN0.out; omega) ?_
             intro out1 A1 c1 w1 ho1 hown1 hb1
             have HO1 := xh ho1; have HOWN1 := xh hown1; have HB1 := xh hb1
             have HLEN1 : Hid (out1.length ≤ 3221225473) := by show _ ≤ _; rw [HO1.out, List.length_append]; have := HLEN0.out; simp only [List.length_cons, List.length_nil]; omega
             have z1 := HX1.out _ (HC.out.below HB1.out)
             clear ho1 hown1 hb1)
          | (at_builtin
             refine yy20 rfl (.tmp 93) (.tmp 96) rfl w (.slice A1 out1.length c1) out1 ⟨2, 0, tx⟩ rfl HOWN1.out HB1.out rfl (by have := HLEN1.out; omega) ?_
             intro out2 A2 c2 w2 ho2 hown2 hb2
             have HO2 := xh ho2; have HOWN2 := xh hown2; have HB2 := xh hb2
             have HLEN2 : Hid (out2.length ≤ 3221225474) := by show _ ≤ _; rw [HO2.out, List.length_append]; have := HLEN1.out; simp only [List.length_cons, List.length_nil]; omega
             have z2 := HX1.out _ (HC.out.below HB2.out)
             clear ho2 hown2 hb2)
          | (at_builtin
             refine yy20 rfl (.tmp 100) (.tmp 103) rfl w (.slice A2 out2.length c2) out2 ⟨3, gone, []⟩ rfl HOWN2.out HB2.out rfl (by have := HLEN2.out; omega) ?_
             intro out3 A3 c3 w3 ho3 hown3 hb3
             have HO3 := xh ho3; have HOWN3 := xh hown3; have HB3 := xh hb3
             have HLEN3 : Hid (out3.length ≤ 3221225475) := by show _ ≤ _; rw [HO3.out, List.length_append]; have := HLEN2.out; simp only [List.length_cons, List.length_nil]; omega
             have z3 := HX1.out _ (HC.out.below HB3.out)
             clear ho3 hown3 hb3)
          | fail)
         refine (HK0.out _).mono ?_
         rintro e w9 ⟨rfl, rfl⟩
         go_wp2
         go_roundw
         case measure => simp [intOf]; omega
         have hO : nRun (l.take (k + 1)) = ⟨out3, q0, 0, []⟩ := by simp [HN.out, HO3.out, HO2.out, HO1.out]
         exact ⟨k + 1, ⟨out3, q0, 0, []⟩, A3, c3, by omega, by go_num, rfl, rfl, rfl, rfl, ⟨fun _ => hO.symm, fun h => by omega⟩, HOWN3.out, HB3.out⟩
        ·rw [goneOf, if_neg hgo] at HN
         have hgo0 : gone = 0 := by omega
         subst hgo0
         have HLEN0 : Hid (out0.length ≤ 3221225472) := HOL.out
         go_wp2_with (first
          | (at_builtin
             refine yy20 rfl (.tmp 86) (.tmp 89) rfl w (.slice A0 out0.length c0) out0 ⟨1, keep, []⟩ rfl HOWN0.out HB0.out rfl (by have := HLEN0.out; omega) ?_
             intro out1 A1 c1 w1 ho1 hown1 hb1
             have HO1 := xh ho1; have HOWN1 := xh hown1; have HB1 := xh hb1
             have HLEN1 : Hid (out1.length ≤ 3221225473) := by show _ ≤ _; rw [HO1.out, List.length_append]; have := HLEN0.out; simp only [List.length_cons, List.length_nil]; omega
             have z1 := HX1.out _ (HC.out.below HB1.out)
             clear ho1 hown1 hb1)
          | (at_builtin
             refine yy20 rfl (.tmp 93) (.tmp 96) rfl w (.slice A1 out1.length c1) out1 ⟨2, 0, tx⟩ rfl HOWN1.out HB1.out rfl (by have := HLEN1.out; omega) ?_
             intro out2 A2 c2 w2 ho2 hown2 hb2
             have HO2 := xh ho2; have HOWN2 := xh hown2; have HB2 := xh hb2
             have HLEN2 : Hid (out2.length ≤ 3221225474) := by show _ ≤ _; rw [HO2.out, List.length_append]; have := HLEN1.out; simp only [List.length_cons, List.length_nil]; omega
             have z2 := HX1.out _ (HC.out.below HB2.out)
             clear ho2 hown2 hb2)
          | fail)
         refine (HK0.out _).mono ?_
         rintro e w9 ⟨rfl, rfl⟩
         go_wp2
         go_roundw
         case measure => simp [intOf]; omega
         have hO : nRun (l.take (k + 1)) = ⟨out2, q0, 0, []⟩ := by simp [HN.out, HO2.out, HO1.out]
         exact ⟨k + 1, ⟨out2, q0, 0, []⟩, A2, c2, by omega, by go_num, rfl, rfl, rfl, rfl, ⟨fun _ => hO.symm, fun h => by omega⟩, HOWN2.out, HB2.out⟩
      ·rw [keepOf, if_neg hkp] at HN
       have hkp0 : keep = 0 := by omega
       subst hkp0
       by_cases htx : tx = []
       ·subst htx
        rw [textOf, if_pos rfl] at HN
        have hte := yy79
        by_cases hgo : 0 < gone
        ·rw [goneOf, if_pos hgo] at HN
         have HLEN0 : Hid (out0.length ≤ 3221225472) := HOL.out
         go_wp2_with (first
          | (at_builtin
             refine yy20 rfl (.tmp 100) (.tmp 103) rfl w (.slice A0 out0.length c0) out0 ⟨3, gone, []⟩ rfl HOWN0.out HB0.out rfl (by have := HLEN0.out; omega) ?_
             intro out1 A1 c1 w1 ho1 hown1 hb1
             have HO1 := xh ho1; have HOWN1 := xh hown1; have HB1 := xh hb1
             have HLEN1 : Hid (out1.length ≤ 3221225473) := by show _ ≤ _; rw [HO1.out, List.length_append]; have := HLEN0.out; simp only [List.length_cons, List.length_nil]; omega
             have z1 := HX1.out _ (HC.out.below HB1.out)
             clear ho1 hown1 hb1)
          | fail)
         refine (HK0.out _).mono ?_
         rintro e w9 ⟨rfl, rfl⟩
         go_wp2
         go_roundw
         case measure => simp [intOf]; omega
         have hO : nRun (l.take (k + 1)) = ⟨out1, q0, 0, []⟩ := by simp [HN.out, HO1.out]
         exact ⟨k + 1, ⟨out1, q0, 0, []⟩, A1, c1, by omega, by go_num, rfl, rfl, rfl, rfl, ⟨fun _ => hO.symm, fun h => by omega⟩, HOWN1.out, HB1.out⟩
        ·rw [goneOf, if_neg hgo] at HN
         have hgo0 : gone = 0 := by omega
         subst hgo0
         exact absurd hfl (by simp)
       ·have hte := yy97 htx
        rw [textOf, if_neg htx] at HN
        clear htx
        by_cases hgo : 0 < gone
        ·rw [goneOf, if_pos hgo] at HN
         have HLEN0 : Hid (out0.length ≤ 3221225472) := HOL.out
         go_wp2_with (first
          | (at_builtin
             refine yy20 rfl (.tmp 93) (.tmp 96) rfl w (.slice A0 out0.length c0) out0 ⟨2, 0, tx⟩ rfl HOWN0.out HB0.out rfl (by have := HLEN0.out; omega) ?_
             intro out1 A1 c1 w1 ho1 hown1 hb1
             have HO1 := xh ho1; have HOWN1 := xh hown1; have HB1 := xh hb1
             have HLEN1 : Hid (out1.length ≤ 3221225473) := by show _ ≤ _; rw [HO1.out, List.length_append]; have := HLEN0.out; simp only [List.length_cons, List.length_nil]; omega
             have z1 := HX1.out _ (HC.out.below HB1.out)
             clear ho1 hown1 hb1)
          | (at_builtin
             refine yy20 rfl (.tmp 100) (.tmp 103) rfl w (.slice A1 out1.length c1) out1 ⟨3, gone, []⟩ rfl HOWN1.out HB1.out rfl (by have := HLEN1.out; omega) ?_
             intro out2 A2 c2 w2 ho2 hown2 hb2
             have HO2 := xh ho2; have HOWN2 := xh hown2; have HB2 := xh hb2
             have HLEN2 : Hid (out2.length ≤ 3221225474) := by show _ ≤ _; rw [HO2.out, List.length_append]; have := HLEN1.out; simp only [List.length_cons, List.length_nil]; omega
             have z2 := HX1.out _ (HC.out.below HB2.out)
             clear ho2 hown2 hb2)
          | fail)
         refine (HK0.out _).mono ?_
         rintro e w9 ⟨rfl, rfl⟩
         go_wp2
         go_roundw
         case measure => simp [intOf]; omega
         have hO : nRun (l.take (k + 1)) = ⟨out2, q0, 0, []⟩ := by simp [HN.out, HO2.out, HO1.out]
         exact ⟨k + 1, ⟨out2, q0, 0, []⟩, A2, c2, by omega, by go_num, rfl, rfl, rfl, rfl, ⟨fun _ => hO.symm, fun h => by omega⟩, HOWN2.out, HB2.out⟩
        ·rw [goneOf, if_neg hgo] at HN
         have hgo0 : gone = 0 := by omega
         subst hgo0
         have HLEN0 : Hid (out0.length ≤ 3221225472) := HOL.out
         go_wp2_with (first
          | (at_builtin
             refine yy20 rfl (.tmp 93) (.tmp 96) rfl w (.slice A0 out0.length c0) out0 ⟨2, 0, tx⟩ rfl HOWN0.out HB0.out rfl (by have := HLEN0.out; omega) ?_
             intro out1 A1 c1 w1 ho1 hown1 hb1
             have HO1 := xh ho1; have HOWN1 := xh hown1; have HB1 := xh hb1
             have HLEN1 : Hid (out1.length ≤ 3221225473) := by show _ ≤ _; rw [HO1.out, List.length_append]; have := HLEN0.out; simp only [List.length_cons, List.length_nil]; omega
             have z1 := HX1.out _ (HC.out.below HB1.out)
             clear ho1 hown1 hb1)
          | fail)
         refine (HK0.out _).mono ?_
         rintro e w9 ⟨rfl, rfl⟩
         go_wp2
         go_roundw
         case measure => simp [intOf]; omega
         have hO : nRun (l.take (k + 1)) = ⟨out1, q0, 0, []⟩ := by simp [HN.out, HO1.out]
         exact ⟨k + 1, ⟨out1, q0, 0, []⟩, A1, c1, by omega, by go_num, rfl, rfl, rfl, rfl, ⟨fun _ => hO.symm, fun h => by omega⟩, HOWN1.out, HB1.out⟩
     ·rw [if_neg hfl] at HN
      obtain rfl : tx = [] := Classical.byContradiction fun h => hfl (.inl h)
      obtain rfl : gone = 0 := by have : ¬ 0 < gone := fun h => hfl (.inr h); omega
      clear hfl
      have hte := yy79
      go_wp2_with fail
      refine (HKK.out _).mono ?_
      rintro e w1 ⟨rfl, rfl⟩
      go_wp2
      go_roundw
      case rel => exact ⟨k + 1, ⟨out0, q, 0, []⟩, A0, c0, by omega, by go_num, rfl, rfl, rfl, rfl, ⟨fun _ => HN.out.symm, fun h => by omega⟩, HOWN0.out, HB0.out⟩
      case measure => simp [intOf]; omega
    ·have hn' : n < 1 := by omega
     have HN2 : Hid (nRun (l.take (k + 1)) = ⟨out0, keep, gone, tx⟩) := by show _ = _; rw [HN.out, nStep, if_neg h2, if_neg h3, if_pos (.inr hn')]
     clear h2 h3 hn
     go_wp2
     go_roundw
     case rel => exact ⟨k + 1, ⟨out0, keep, gone, tx⟩, A0, c0, by omega, by go_num, rfl, rfl, rfl, rfl, ⟨fun _ => HN2.out.symm, fun h => by omega⟩, HOWN0.out, HB0.out⟩
     case measure => simp [intOf]; omega
   ·have g1 : (kd == 1) = false := xn h1
    have g1' : (kd != 1) = true := bne_iff_ne.2 h1
    have HN2 : Hid (nRun (l.take (k + 1)) = ⟨out0, keep, gone, tx⟩) := by show _ = _; rw [HN.out, nStep, if_neg h2, if_neg h3, if_pos (.inl h1)]
    clear h2 h3 h1
    go_wp2
    go_roundw
    case rel => exact ⟨k + 1, ⟨out0, keep, gone, tx⟩, A0, c0, by omega, by go_num, rfl, rfl, rfl, rfl, ⟨fun _ => HN2.out.symm, fun h => by omega⟩, HOWN0.out, HB0.out⟩
    case measure => simp [intOf]; omega
  ·have hke : k = l.length := by omega
   have HE : Hid (yy19 l = NS.flush ⟨out0, keep, gone, tx⟩) := by show _ = _; rw [yy19, HS.out, List.take_of_length_le (by omega)]
   have hki : ((k : Int) == (l.length : Int)) = true := beq_iff_eq.2 (by omega)
   clear HS HTT
   unfold NS.flush at HE
   simp only at HE
   by_cases hkp : 0 < keep
   ·rw [keepOf, if_pos hkp] at HE
    by_cases htx : tx = []
    ·subst htx
     rw [textOf, if_pos rfl] at HE
     have hte := yy79
     by_cases hgo : 0 < gone
     ·rw [goneOf, if_pos hgo] at HE
      have HLEN0 : Hid (out0.length ≤ 3221225472) := HOL.out
      go_wp2_with (first
       | (at_builtin
          refine yy20 rfl (.tmp 86) (.tmp 89) rfl w (.slice A0 out0.length c0) out0 ⟨1, keep, []⟩ rfl HOWN0.out HB0.out rfl (by have := HLEN0.out; omega) ?_
          intro out1 A1 c1 w1 ho1 hown1 hb1
          have HO1 := xh ho1; have HOWN1 := xh hown1; have HB1 := xh hb1
          have HLEN1 : Hid (out1.length ≤ 3221225473) := by show _ ≤ _; rw [HO1.out, List.length_append]; have := HLEN0.out; simp only [List.length_cons, List.length_nil]; omega
          clear ho1 hown1 hb1)
       | (at_builtin
          refine yy20 rfl (.tmp 100) (.tmp 103) rfl w (.slice A1 out1.length c1) out1 ⟨3, gone, []⟩ rfl HOWN1.out HB1.out rfl (by have := HLEN1.out; omega) ?_
          intro out2 A2 c2 w2 ho2 hown2 hb2
          have HO2 := xh ho2; have HOWN2 := xh hown2; have HB2 := xh hb2
          have HLEN2 : Hid (out2.length ≤ 3221225474) := by show _ ≤ _; rw [HO2.out, List.length_append]; have := HLEN1.out; simp only [List.length_cons, List.length_nil]; omega
          clear ho2 hown2 hb2)
       | fail)
      go_roundw
      case measure => simp [intOf]; omega
      have hO : yy19 l = out2 := by simp [HE.out, HO2.out, HO1.out]
      exact ⟨k + 1, ⟨out2, 0, 0, []⟩, A2, c2, by omega, by go_num, rfl, rfl, rfl, rfl, ⟨fun h => by omega, fun _ => by rw [hO]⟩, HOWN2.out, HB2.out⟩
     ·rw [goneOf, if_neg hgo] at HE
      have hgo0 : gone = 0 := by omega
      subst hgo0
      have HLEN0 : Hid (out0.length ≤ 3221225472) := HOL.out
      go_wp2_with (first
       | (at_builtin
          refine yy20 rfl (.tmp 86) (.tmp 89) rfl w (.slice A0 out0.length c0) out0 ⟨1, keep, []⟩ rfl HOWN0.out HB0.out rfl (by have := HLEN0.out; omega) ?_
          intro out1 A1 c1 w1 ho1 hown1 hb1
          have HO1 := xh ho1; have HOWN1 := xh hown1; have HB1 := xh hb1
          have HLEN1 : Hid (out1.length ≤ 3221225473) := by show _ ≤ _; rw [HO1.out, List.length_append]; have := HLEN0.out; simp only [List.length_cons, List.length_nil]; omega
          clear ho1 hown1 hb1)
       | fail)
      go_roundw
      case measure => simp [intOf]; omega
      have hO : yy19 l = out1 := by simp [HE.out, HO1.out]
      exact ⟨k + 1, ⟨out1, 0, 0, []⟩, A1, c1, by omega, by go_num, rfl, rfl, rfl, rfl, ⟨fun h => by omega, fun _ => by rw [hO]⟩, HOWN1.out, HB1.out⟩
    ·have hte := yy97 htx
     rw [textOf, if_neg htx] at HE
     clear htx
     by_cases hgo : 0 < gone
     ·rw [goneOf, if_pos hgo] at HE
      have HLEN0 : Hid (out0.length ≤ 3221225472) := HOL.out
      go_wp2_with (first
       | (at_builtin
          refine yy20 rfl (.tmp 86) (.tmp 89) rfl w (.slice A0 out0.length c0) out0 ⟨1, keep, []⟩ rfl HOWN0.out HB0.out rfl (by have := HLEN0.out; omega) ?_
          intro out1 A1 c1 w1 ho1 hown1 hb1
          have HO1 := xh ho1; have HOWN1 := xh hown1; have HB1 := xh hb1
          have HLEN1 : Hid (out1.length ≤ 3221225473) := by show _ ≤ _; rw [HO1.out, List.length_append]; have := HLEN0.out; simp only [List.length_cons, List.length_nil]; omega
          clear ho1 hown1 hb1)
       | (at_builtin
          refine yy20 rfl (.tmp 93) (.tmp 96) rfl w (.slice A1 out1.length c1) out1 ⟨2, 0, tx⟩ rfl HOWN1.out HB1.out rfl (by have := HLEN1.out; omega) ?_
          intro out2 A2 c2 w2 ho2 hown2 hb2
          have HO2 := xh ho2; have HOWN2 := xh hown2; have HB2 := xh hb2
          have HLEN2 : Hid (out2.length ≤ 3221225474) := by show _ ≤ _; rw [HO2.out, List.length_append]; have := HLEN1.out; simp only [List.length_cons, List.length_nil]; omega
          clear ho2 hown2 hb2)
       | (at_builtin
          refine yy20 rfl (.tmp 100) (.tmp 103) rfl w (.slice A2 out2.length c2) out2 ⟨3, gone, []⟩ rfl HOWN2.out HB2.out rfl (by have := HLEN2.out; omega) ?_
          intro out3 A3 c3 w3 ho3 hown3 hb3
          have HO3 := xh ho3; have HOWN3 := xh hown3; have HB3 := xh hb3
          have HLEN3 : Hid (out3.length ≤ 3221225475) := by show _ ≤ _; rw [HO3.out, List.length_append]; have := HLEN2.out; simp only [List.length_cons, List.length_nil]; omega
          clear ho3 hown3 hb3)
       | fail)
      go_roundw
      case measure => simp [intOf]; omega
      have hO : yy19 l = out3 := by simp [HE.out, HO3.out, HO2.out, HO1.out]
      exact ⟨k + 1, ⟨out3, 0, 0, []⟩, A3, c3, by omega, by go_num, rfl, rfl, rfl, rfl, ⟨fun h => by omega, fun _ => by rw [hO]⟩, HOWN3.out, HB3.out⟩
     ·rw [goneOf, if_neg hgo] at HE
      have hgo0 : gone = 0 := by omega
      subst hgo0
      have HLEN0 : Hid (out0.length ≤ 3221225472) := HOL.out
      go_wp2_with (first
       | (at_builtin
          refine yy20 rfl (.tmp 86) (.tmp 89) rfl w (.slice A0 out0.length c0) out0 ⟨1, keep, []⟩ rfl HOWN0.out HB0.out rfl (by have := HLEN0.out; omega) ?_
          intro out1 A1 c1 w1 ho1 hown1 hb1
          have HO1 := xh ho1; have HOWN1 := xh hown1; have HB1 := xh hb1
          have HLEN1 : Hid (out1.length ≤ 3221225473) := by show _ ≤ _; rw [HO1.out, List.length_append]; have := HLEN0.out; simp only [List.length_cons, List.length_nil]; omega
          clear ho1 hown1 hb1)
       | (at_builtin
          refine yy20 rfl (.tmp 93) (.tmp 96) rfl w (.slice A1 out1.length c1) out1 ⟨2, 0, tx⟩ rfl HOWN1.out HB1.out rfl (by have := HLEN1.out; omega) ?_
          intro out2 A2 c2 w2 ho2 hown2 hb2
          have HO2 := xh ho2; have HOWN2 := xh hown2; have HB2 := xh hb2
          have HLEN2 : Hid (out2.length ≤ 3221225474) := by show _ ≤ _; rw [HO2.out, List.length_append]; have := HLEN1.out; simp only [List.length_cons, List.length_nil]; omega
          clear ho2 hown2 hb2)
       | fail)
      go_roundw
      case measure => simp [intOf]; omega
      have hO : yy19 l = out2 := by simp [HE.out, HO2.out, HO1.out]
      exact ⟨k + 1, ⟨out2, 0, 0, []⟩, A2, c2, by omega, by go_num, rfl, rfl, rfl, rfl, ⟨fun h => by omega, fun _ => by rw [hO]⟩, HOWN2.out, HB2.out⟩
   ·rw [keepOf, if_neg hkp] at HE
    have hkp0 : keep = 0 := by omega
    subst hkp0
    by_cases htx : tx = []
    ·subst htx
     rw [textOf, if_pos rfl] at HE
     have hte := yy79
     by_cases hgo : 0 < gone
     ·rw [goneOf, if_pos hgo] at HE
      have HLEN0 : Hid (out0.length ≤ 3221225472) := HOL.out
      go_wp2_with (first
       | (at_builtin
          refine yy20 rfl (.tmp 100) (.tmp 103) rfl w (.slice A0 out0.length c0) out0 ⟨3, gone, []⟩ rfl HOWN0.out HB0.out rfl (by have := HLEN0.out; omega) ?_
          intro out1 A1 c1 w1 ho1 hown1 hb1
          have HO1 := xh ho1; have HOWN1 := xh hown1; have HB1 := xh hb1
          have HLEN1 : Hid (out1.length ≤ 3221225473) := by show _ ≤ _; rw [HO1.out, List.length_append]; have := HLEN0.out; simp only [List.length_cons, List.length_nil]; omega
          clear ho1 hown1 hb1)
       | fail)
      go_roundw
      case measure => simp [intOf]; omega
      have hO : yy19 l = out1 := by simp [HE.out, HO1.out]
      exact ⟨k + 1, ⟨out1, 0, 0, []⟩, A1, c1, by omega, by go_num, rfl, rfl, rfl, rfl, ⟨fun h => by omega, fun _ => by rw [hO]⟩, HOWN1.out, HB1.out⟩
     ·rw [goneOf, if_neg hgo] at HE
      have hgo0 : gone = 0 := by omega
      subst hgo0
      have HLEN0 : Hid (out0.length ≤ 3221225472) := HOL.out
      go_wp2_with fail
      go_roundw
      case measure => simp [intOf]; omega
      have hO : yy19 l = out0 := by simp [HE.out]
      exact ⟨k + 1, ⟨out0, 0, 0, []⟩, A0, c0, by omega, by go_num, rfl, rfl, rfl, rfl, ⟨fun h => by omega, fun _ => by rw [hO]⟩, HOWN0.out, HB0.out⟩
    ·have hte := yy97 htx
     rw [textOf, if_neg htx] at HE
     clear htx
     by_cases hgo : 0 < gone
     ·rw [goneOf, if_pos hgo] at HE
      have HLEN0 : Hid (out0.length ≤ 3221225472) := HOL.out
      go_wp2_with (first
       | (at_builtin
          refine yy20 rfl (.tmp 93) (.tmp 96) rfl w (.slice A0 out0.length c0) out0 ⟨2, 0, tx⟩ rfl HOWN0.out HB0.out rfl (by have := HLEN0.out; omega) ?_
          intro out1 A1 c1 w1 ho1 hown1 hb1
          have HO1 := xh ho1; have HOWN1 := xh hown1; have HB1 := xh hb1
          have HLEN1 : Hid (out1.length ≤ 3221225473) := by show _ ≤ _; rw [HO1.out, List.length_append]; have := HLEN0.out; simp only [List.length_cons, List.length_nil]; omega
          clear ho1 hown1 hb1)
       | (at_builtin
          refine yy20 rfl (.tmp 100) (.tmp 103) rfl w (.slice A1 out1.length c1) out1 ⟨3, gone, []⟩ rfl HOWN1.out HB1.out rfl (by have := HLEN1.out; omega) ?_
          intro out2 A2 c2 w2 ho2 hown2 hb2
          have HO2 := xh ho2; have HOWN2 := xh hown2; have HB2 := xh hb2
          have HLEN2 : Hid (out2.length ≤ 3221225474) := by show _ ≤ _; rw [HO2.out, List.length_append]; have := HLEN1.out; simp only [List.length_cons, List.length_nil]; omega
          clear ho2 hown2 hb2)
       | fail)
      go_roundw
      case measure => simp [intOf]; omega
      have hO : yy19 l = out2 := by simp [HE.out, HO2.out, HO1.out]
      exact ⟨k + 1, ⟨out2, 0, 0, []⟩, A2, c2, by omega, by go_num, rfl, rfl, rfl, rfl, ⟨fun h => by omega, fun _ => by rw [hO]⟩, HOWN2.out, HB2.out⟩
     ·rw [goneOf, if_neg hgo] at HE
      have hgo0 : gone = 0 := by omega
      subst hgo0
      have HLEN0 : Hid (out0.length ≤ 3221225472) := HOL.out
      go_wp2_with (first
       | (at_builtin
          refine yy20 rfl (.tmp 93) (.tmp 96) rfl w (.slice A0 out0.length c0) out0 ⟨2, 0, tx⟩ rfl HOWN0.out HB0.out rfl (by have := HLEN0.out; omega) ?_
          intro out1 A1 c1 w1 ho1 hown1 hb1
          have HO1 := xh ho1; have HOWN1 := xh hown1; have HB1 := xh hb1
          have HLEN1 : Hid (out1.length ≤ 3221225473) := by show _ ≤ _; rw [HO1.out, List.length_append]; have := HLEN0.out; simp only [List.length_cons, List.length_nil]; omega
          clear ho1 hown1 hb1)
       | fail)
      go_roundw
      case measure => simp [intOf]; omega
      have hO : yy19 l = out1 := by simp [HE.out, HO1.out]
      exact ⟨k + 1, ⟨out1, 0, 0, []⟩, A1, c1, by omega, by go_num, rfl, rfl, rfl, rfl, ⟨fun h => by omega, fun _ => by rw [hO]⟩, HOWN1.out, HB1.out⟩
end Go.Proofs.YtjpjdkdbgjipnaaGreatDoor
