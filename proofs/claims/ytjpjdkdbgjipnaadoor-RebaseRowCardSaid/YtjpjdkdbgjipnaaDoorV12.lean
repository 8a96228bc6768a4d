/- The document's own Do: an edit of a text. Conditions: no more than 2^30 bytes of text. (Merged of 2 texts.) -/
import Derived.Test.YtjpjdkdbgjipnaaDoorV11
import Derived.Test.YtjpjdkdbgjipnaaDoorV8
import Derived.Test.YtjpjdkdbgjipnaaDoorV22
import Derived.Test.YtjpjdkdbgjipnaaDoorV21
namespace Go.Proofs.YtjpjdkdbgjipnaaDoor
open Go.RowKit Go.Deep
set_option maxRecDepth 100000 in
theorem yy197 (A : Option Addr) (c : Nat) (l : List CompV) (hl : l.length ≤ maxLen) (hf : Fine1 l) (w : World) (hc : yy6 w A l) :
  Calls Tryd.prog 46 #[.slice A l.length c] w fun e w' => e = .returned (.int .i64 (rCheck l : Int)) ∧ Below w.heap.size w w' := by
 have HL := xh hl
 unfold maxLen at hl
 have GN := xh (yy253 A c l HL.out hf w hc)
 have GB := xh (fun w h => yy221 A c l HL.out w h)
 have GO := xh (fun w h => yy478 A c l HL.out hf w h)
 have HC := xh hc; clear hc hf
 obtain ⟨T, HT⟩ : ∃ T, Hid (rCheck l = T) := ⟨_, xh rfl⟩
 rw [HT.out]
 unfold rCheck at HT
 by_cases h100 : 100 < l.length
 ·rw [if_pos h100] at HT
  go_enter Tryd.func46, Tryd.ntmps46
  go_wp2
  go_ret
  exact ⟨by rw [← HT.out]; rfl, Below.refl _ _⟩
 ·rw [if_neg h100] at HT
  cases hnb : nrmB l with
  | false =>
   rw [hnb, if_pos rfl] at HT
   rw [hnb] at GN
   clear hnb
   go_enter Tryd.func46, Tryd.ntmps46
   go_wp2_with fail
   refine GN.out.mono ?_
   rintro e w1 ⟨rfl, hb1⟩
   have HB1 := xh hb1; clear hb1
   go_wp2
   go_ret
   exact ⟨by rw [← HT.out]; rfl, HB1.out⟩
  | true =>
   rw [hnb, if_neg (by simp)] at HT
   rw [hnb] at GN
   clear hnb
   obtain ⟨p, HP⟩ : ∃ x, Hid (rBase l = x) := ⟨_, xh rfl⟩
   obtain ⟨q, HQ⟩ : ∃ x, Hid (rOut l = x) := ⟨_, xh rfl⟩
   rw [HP.out] at GB HT
   rw [HQ.out] at GO HT
   go_enter Tryd.func46, Tryd.ntmps46
   go_wp2_with fail
   refine GN.out.mono ?_
   rintro e w1 ⟨rfl, hb1⟩
   have HB1 := xh hb1; clear hb1
   go_wp2_with fail
   refine (GB.out w1 (HC.out.below HB1.out)).mono ?_
   rintro e w2 ⟨rfl, rfl⟩
   by_cases hp : 2000 < p
   ·rw [if_pos (.inl hp)] at HT
    go_wp2
    go_ret
    exact ⟨by rw [← HT.out]; rfl, HB1.out⟩
   ·go_wp2_with fail
    refine (GO.out w1 (HC.out.below HB1.out)).mono ?_
    rintro e w2 ⟨rfl, rfl⟩
    by_cases hq : 2000 < q
    ·rw [if_pos (.inr hq)] at HT
     go_wp2
     go_ret
     exact ⟨by rw [← HT.out]; rfl, HB1.out⟩
    ·rw [if_neg (by omega)] at HT
     go_wp2
     go_ret
     exact ⟨by rw [← HT.out]; rfl, HB1.out⟩
def DoEnd (t : List Nat) (l : List CompV) (e : Ending) : Prop :=
 (rCheck l ≠ 0 ∧ e = .returned (.tuple #[.string { data := #[] }, .int .i64 (rCheck l : Int)])) ∨
 (rCheck l = 0 ∧ (¬ ∃ vs, V t vs) ∧ e = .returned (.tuple #[.string { data := #[] }, .int .i64 2])) ∨
 (rCheck l = 0 ∧ ∃ vs, V t vs ∧ (((vs.length : Int) ≠ rBase l ∧ e = .returned (.tuple #[.string { data := #[] }, .int .i64 11])) ∨
  ((vs.length : Int) = rBase l ∧ e = .returned (.tuple #[.string (bstr (doRun vs l).2), .int .i64 0]))))
set_option maxHeartbeats 4000000 in
set_option maxRecDepth 100000 in
theorem yy567 (t : List Nat) (A : Option Addr) (c : Nat) (l : List CompV) (hb : ∀ x ∈ t, x < 256) (htl : t.length ≤ 1073741824) (hl : l.length ≤ maxLen) (hf : Fine1 l) (htt : tlen l ≤ 1073741824) (w : World) (hc : yy6 w A l) :
  Calls Tryd.prog 50 #[.string (bstr t), .slice A l.length c] w fun e w' => DoEnd t l e ∧ Below w.heap.size w w' := by
 have GC := xh (yy197 A c l hl hf w hc)
 have GV := xh (fun w => yy193 t hb (by omega) w)
 have GB := xh (fun w h => yy221 A c l hl w h)
 have HC := xh hc; clear hc
 have HF := xh hf; clear hf
 have HTT := xh htt; clear htt
 have HTL := xh htl; clear htl
 have HB := xh hb; clear hb
 unfold maxLen at hl
 by_cases hz : rCheck l = 0
 ·rw [hz] at GC
  by_cases hv : ∃ vs, V t vs
  ·obtain ⟨vs, hvs⟩ := hv
   rw [yy182 hvs] at GV
   have HV := xh hvs
   have GN := xh (fun w => yy327 HV.out (by have := HTL.out; omega) w)
   have GS := xh (fun a b h1 h2 w => yy328 HV.out (by have := HTL.out; omega) a b h1 h2 w)
   clear hvs
   have hvl : vs.length ≤ 1073741824 := Nat.le_trans HV.out.length_le HTL.out
   obtain ⟨p, HP⟩ : ∃ x, Hid (rBase l = x) := ⟨_, xh rfl⟩
   have HP2 : Hid (p ≤ 2000) := by show p ≤ 2000; rw [← HP.out]; exact (yy91 hz).2.2.1
   have HP0 : Hid (0 ≤ p) := by show 0 ≤ p; rw [← HP.out]; exact (yy362 l).1
   have HFA := xh (yy91 hz).2.1.fair
   have HLEN := xh (yy91 hz).1
   have HSUM : Hid (sumT l = p) := by show _ = _; rw [← HP.out]; exact yy647 HFA.out (yy91 hz).2.2.1
   rw [HP.out] at GB
   have HZ := xh hz; clear hz
   by_cases hbl : (vs.length : Int) = p
   ·have hne : ((vs.length : Int) != p) = false := by rw [bne_eq_false_iff_eq]; exact hbl
    have HBL := xh hbl
    clear hbl
    have HEND : Hid (DoEnd t l (.returned (.tuple #[.string (bstr (doRun vs l).2), .int .i64 0]))) := .inr (.inr ⟨HZ.out, vs, HV.out, .inr ⟨by rw [HP.out]; exact HBL.out, rfl⟩⟩)
    have HRL : Hid (∀ k, (doRun vs (l.take k)).2.length ≤ 108447924224) := fun k => by
     have h1 := yy546 vs (by rw [HV.out.bytes]; exact HTL.out) (l.take k)
     have h2 := yy233 l k
     have h3 := HTT.out
     have h4 : (l.take k).length ≤ 100 := by rw [List.length_take]; have := HLEN.out; omega
     have h5 : (l.take k).length * 1073741824 ≤ 100 * 1073741824 := Nat.mul_le_mul_right _ h4
     omega
    go_enter Tryd.func50, Tryd.ntmps50
    go_wp2_with fail
    refine GC.out.mono ?_
    rintro e w1 ⟨rfl, hb1⟩
    have HB1 := xh hb1; clear hb1
    go_wp2_with fail
    refine (GV.out w1).mono ?_
    rintro e w2 ⟨rfl, hb2⟩
    have HB2 : Hid (Below w.heap.size w w2) := HB1.out.trans (hb2.mono HB1.out.size)
    clear hb2
    go_wp2_with fail
    refine (GN.out w2).mono ?_
    rintro e w3 ⟨rfl, hb3⟩
    have HB3 : Hid (Below w.heap.size w w3) := HB2.out.trans (hb3.mono HB2.out.size)
    clear hb3
    go_wp2_with fail
    refine (GB.out w3 (HC.out.below HB3.out)).mono ?_
    rintro e w4 ⟨rfl, rfl⟩
    go_wp2
    go_loopw [7, 8, 9] (fun o a i wr => ∃ k : Nat, k ≤ l.length ∧ i = .int .i64 k ∧ a = .int .i64 (sumT (l.take k)) ∧ o = .string (bstr (doRun vs (l.take k)).2) ∧ w3 = wr) (fun _ _ i _ => l.length - (intOf i).toNat)
    case atStart => exact ⟨0, Nat.zero_le _, rfl, rfl, rfl, rfl⟩
    case round =>
     obtain ⟨k, hk, rfl, rfl, rfl, rfl⟩ := hrel
     have hrl := HRL.out k
     by_cases hlt : k < l.length
     ·obtain ⟨b, off, rfl, _⟩ := HC.out.form (by omega)
      obtain ⟨x0, x1, x2⟩ := (HC.out.below HB3.out).at_ hlt
      have HS := xh (show doRun vs (l.take (k + 1)) = doStep vs (doRun vs (l.take k)) l[k] by rw [List.take_succ_eq_append_getElem hlt, yy463])
      have HSN := xh (show sumT (l.take (k + 1)) = yy77 (sumT (l.take k)) l[k] by rw [List.take_succ_eq_append_getElem hlt, yy648])
      have hs0 := (yy462 HFA.out k).1
      have hs1 := (yy462 HFA.out (k + 1)).2
      rw [HSUM.out] at hs1
      have hfy := HFA.out _ (List.getElem_mem hlt)
      have HYT := xh (HF.out _ (List.getElem_mem hlt)).2
      have HAT := xh (yy649 vs (l.take k))
      generalize l[k] = y at x0 x1 x2 HS HSN hfy HYT
      obtain ⟨R, HR⟩ : ∃ R, Hid (doRun vs (l.take k) = R) := ⟨_, xh rfl⟩
      rw [HR.out] at HS HAT hrl ⊢
      obtain ⟨a0, o0⟩ := R
      simp only at HAT hrl
      rw [← HAT.out] at hs0 HSN ⊢
      obtain ⟨a, rfl⟩ : ∃ a : Nat, a0 = (a : Int) := ⟨a0.toNat, by omega⟩
      obtain ⟨kd, n, tx⟩ := y
      simp only at x0 x1 x2 HYT
      have hp2 := HP2.out
      have HBL2 := HBL.out
      by_cases h1 : kd = 1
      ·subst h1
       have hn : 1 ≤ n := by rcases hfy with ⟨_, h⟩ | h; exact h; (simp only at h; omega)
       obtain ⟨m, rfl⟩ : ∃ m : Nat, n = (m : Int) := ⟨n.toNat, by omega⟩
       have HSN2 : Hid (sumT (l.take (k + 1)) = (a : Int) + m) := by show _ = _; rw [HSN.out]; rfl
       rw [HSN2.out] at hs1
       have hle : a + m ≤ vs.length := by omega
       have HSL := xh (fun w => GS.out a (a + m) (by omega) hle w)
       obtain ⟨P, HPC⟩ : ∃ P, Hid (E ((vs.take (a + m)).drop a) = P) := ⟨_, xh rfl⟩
       have HPL : Hid (P.length ≤ 1073741824) := by show _ ≤ _; rw [← HPC.out]; exact Nat.le_trans (yy363 vs a (a + m)) (by rw [HV.out.bytes]; exact HTL.out)
       have HS2 : Hid (doRun vs (l.take (k + 1)) = ((a : Int) + m, o0 ++ P)) := by
        show _ = _
        rw [HS.out, ← HPC.out]
        show (_, o0 ++ E ((vs.take ((a : Int) + (m : Int)).toNat).drop (a : Int).toNat)) = _
        rw [show ((a : Int) + (m : Int)).toNat = a + m by omega, Int.toNat_natCast]
       rw [HPC.out] at HSL
       have hadd := fun w => yy458 o0 P (by omega) (by have := HPL.out; omega) w
       clear hfy HS HSN hs1 HBL2
       go_wp2_with fail
       refine (HSL.out _).mono ?_
       rintro e w9 ⟨rfl, rfl⟩
       go_wp2
       go_roundw
       case rel => exact ⟨k + 1, by omega, by go_num, by rw [HSN2.out], by rw [HS2.out], trivial⟩
       case measure => simp [intOf]; omega
      ·have g1 : (kd == 1) = false := xn h1
       by_cases h2 : kd = 2
       ·subst h2
        have HSN2 : Hid (sumT (l.take (k + 1)) = (a : Int)) := by show _ = _; rw [HSN.out]; rfl
        have HS2 : Hid (doRun vs (l.take (k + 1)) = ((a : Int), o0 ++ tx)) := by show _ = _; rw [HS.out]; rfl
        have hadd := fun w => yy458 o0 tx (by omega) HYT.out w
        clear hfy HS HSN hs1 HBL2 h1
        go_wp2
        go_roundw
        case rel => exact ⟨k + 1, by omega, by go_num, by rw [HSN2.out], by rw [HS2.out], trivial⟩
        case measure => simp [intOf]; omega
       ·have g2 : (kd == 2) = false := xn h2
        have h3 : kd = 3 ∧ 1 ≤ n := by
         rcases hfy with ⟨h, h'⟩ | h
         ·simp only at h h'; omega
         ·exact absurd h h2
        obtain ⟨rfl, hn⟩ := h3
        have HSN2 : Hid (sumT (l.take (k + 1)) = (a : Int) + n) := by show _ = _; rw [HSN.out]; rfl
        have HS2 : Hid (doRun vs (l.take (k + 1)) = ((a : Int) + n, o0)) := by show _ = _; rw [HS.out]; rfl
        rw [HSN2.out] at hs1
        clear hfy HS HSN HBL2 h1 h2
        go_wp2
        go_roundw
        case rel => exact ⟨k + 1, by omega, by go_num, by rw [HSN2.out], by rw [HS2.out], trivial⟩
        case measure => simp [intOf]; omega
     ·have hke : l.take k = l := List.take_of_length_le (by omega)
      rw [hke]
      clear hrl
      go_wp2
      go_ret2
      exact ⟨HEND.out, HB3.out⟩
   ·have hne : ((vs.length : Int) != p) = true := by rw [bne_iff_ne]; exact hbl
    have HEND : Hid (DoEnd t l (.returned (.tuple #[.string { data := #[] }, .int .i64 11]))) := .inr (.inr ⟨HZ.out, vs, HV.out, .inl ⟨by rw [HP.out]; exact hbl, rfl⟩⟩)
    clear hbl
    go_enter Tryd.func50, Tryd.ntmps50
    go_wp2_with fail
    refine GC.out.mono ?_
    rintro e w1 ⟨rfl, hb1⟩
    have HB1 := xh hb1; clear hb1
    go_wp2_with fail
    refine (GV.out w1).mono ?_
    rintro e w2 ⟨rfl, hb2⟩
    have HB2 : Hid (Below w.heap.size w w2) := HB1.out.trans (hb2.mono HB1.out.size)
    clear hb2
    go_wp2_with fail
    refine (GN.out w2).mono ?_
    rintro e w3 ⟨rfl, hb3⟩
    have HB3 : Hid (Below w.heap.size w w3) := HB2.out.trans (hb3.mono HB2.out.size)
    clear hb3
    go_wp2_with fail
    refine (GB.out w3 (HC.out.below HB3.out)).mono ?_
    rintro e w4 ⟨rfl, rfl⟩
    go_wp2
    go_ret2
    exact ⟨HEND.out, HB3.out⟩
  ·have HEND : Hid (DoEnd t l (.returned (.tuple #[.string { data := #[] }, .int .i64 2]))) := .inr (.inl ⟨hz, hv, rfl⟩)
   rw [yy230 hv] at GV
   clear hv hz
   go_enter Tryd.func50, Tryd.ntmps50
   go_wp2_with fail
   refine GC.out.mono ?_
   rintro e w1 ⟨rfl, hb1⟩
   have HB1 := xh hb1; clear hb1
   go_wp2_with fail
   refine (GV.out w1).mono ?_
   rintro e w2 ⟨rfl, hb2⟩
   have HB2 : Hid (Below w.heap.size w w2) := HB1.out.trans (hb2.mono HB1.out.size)
   clear hb2
   go_wp2
   go_ret2
   exact ⟨HEND.out, HB2.out⟩
 ·have HEND : Hid (DoEnd t l (.returned (.tuple #[.string { data := #[] }, .int .i64 (rCheck l : Int)]))) := .inl ⟨hz, rfl⟩
  obtain ⟨q, HQ⟩ : ∃ q, Hid (rCheck l = q) := ⟨_, xh rfl⟩
  rw [HQ.out] at GC HEND hz
  have hz' : ((q : Int) == 0) = false := xn (by omega)
  have hz2 : ((q : Int) != 0) = true := bne_iff_ne.2 (by omega)
  go_enter Tryd.func50, Tryd.ntmps50
  go_wp2_with fail
  refine GC.out.mono ?_
  rintro e w1 ⟨rfl, hb1⟩
  have HB1 := xh hb1; clear hb1
  go_wp2
  go_ret2
  exact ⟨HEND.out, HB1.out⟩
end Go.Proofs.YtjpjdkdbgjipnaaDoor
