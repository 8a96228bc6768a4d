/- ComposeUndo holds: an edit, and then what undoes it, as one, leaves every text of that length as it was: whatever the law is called with: it answers true and changes nothing. No condition. (Merged of 3 texts.) -/
import Derived.Test.YtoicgmfcbmjchaaKAp
import Derived.Test.YtoicgmfcbmjchaaKTm
import Derived.Test.YtoicgmfcbmjchaaKAl
import Derived.Test.YtoicgmfcbmjchaaKCom
import Derived.ChangeMaps5
/- What memory holds of what Undo and Diff answer. Conditions: no more than 2^30 bytes of text. -/
namespace Go.Proofs.Ytoicgmfcbmjchaa
open Go.RowKit Go.Deep

theorem uOut_fit {t : List Nat} {l : List CompV} (hf : Fine1 l) (htl : t.length ≤ 1073741824) (htt : tlen l ≤ 1073741824) : (∀ y ∈ uOut t l, y.Good) ∧ (uOut t l).length ≤ 303 ∧ Fine1 (uOut t l) ∧ tlen (uOut t l) ≤ 109521666048 := by
  by_cases h : dErr t l = 0
  · obtain ⟨hz, vs, hv, _⟩ := dErr_zero h
    have hok := ok_of hz
    rw [uOut, if_pos h, cps_of hv]
    have hg := undoRun_good hok.wh hf hv.may (by rw [hv.bytes]; exact htl) l.length (Nat.le_refl _)
    rw [List.take_length] at hg
    have h1 := undoRun_text vs (by rw [hv.bytes]; exact htl) l
    have h3 : l.length * 1073741824 ≤ 100 * 1073741824 := Nat.mul_le_mul_right _ hok.len
    have hn := norm_len (undoRun vs l).2
    rw [undoRun_len] at hn
    have h4 := tlen_norm (undoRun vs l).2
    have h5 := norm_good _ hg (by omega)
    exact ⟨h5, by have := hok.len; omega, fine_of h5 (by omega), by omega⟩
  · rw [uOut, if_neg h]
    exact ⟨by simp, by simp, fun y hy => absurd hy (by simp), by simp [tlen]⟩
theorem fOut_fit {a b : List Nat} (hal : a.length ≤ 1073741824) (hbl : b.length ≤ 1073741824) : (∀ y ∈ fOut a b, y.Good) ∧ (fOut a b).length ≤ 15 ∧ Fine1 (fOut a b) ∧ tlen (fOut a b) ≤ 1073741824 := by
  by_cases h1 : ∃ x, V a x
  · by_cases h2 : ∃ y, V b y
    · obtain ⟨x, hx⟩ := h1
      obtain ⟨y, hy⟩ := h2
      rw [fOut_yes hx hy]
      have hp := (preN_pre x y).1
      have hs := (sufN_suf x y).1
      have hxl := hx.length_le
      have hm : (midT x y).length ≤ b.length := by
        have := piece_len y (preN x y) (y.length - sufN x y)
        rw [hy.bytes] at this
        exact this
      have ht : tlen (ofParts (x.length : Int) (preN x y : Int) ((x.length - sufN x y : Nat) : Int) (midT x y)) = (midT x y).length := by simp [tlen, ofParts]
      have hg : ∀ z ∈ ofParts (x.length : Int) (preN x y : Int) ((x.length - sufN x y : Nat) : Int) (midT x y), z.Good := by
        intro z hz
        simp only [ofParts, List.mem_cons, List.not_mem_nil, or_false] at hz
        rcases hz with rfl | rfl | rfl | rfl
        · exact good_of _ _ _ (by omega) (by omega) (by simp)
        · exact good_of _ _ _ (by omega) (by omega) ⟨E_lt (midT_V hy.may).may, by omega⟩
        · exact good_of _ _ _ (by omega) (by omega) (by simp)
        · exact good_of _ _ _ (by omega) (by omega) (by simp)
      have hn := norm_len (ofParts (x.length : Int) (preN x y : Int) ((x.length - sufN x y : Nat) : Int) (midT x y))
      have h4 := tlen_norm (ofParts (x.length : Int) (preN x y : Int) ((x.length - sufN x y : Nat) : Int) (midT x y))
      have h5 := norm_good _ hg (by omega)
      rw [show (ofParts (x.length : Int) (preN x y : Int) ((x.length - sufN x y : Nat) : Int) (midT x y)).length = 4 by rfl] at hn
      exact ⟨h5, by omega, fine_of h5 (by omega), by omega⟩
    · rw [fOut_no (.inr h2)]
      exact ⟨by simp, by simp, fun y hy => absurd hy (by simp), by simp [tlen]⟩
  · rw [fOut_no (.inl h1)]
    exact ⟨by simp, by simp, fun y hy => absurd hy (by simp), by simp [tlen]⟩
end Go.Proofs.Ytoicgmfcbmjchaa

/- ComposeUndo, walked: an edit, and then what undoes it, as one, leaves every text of that length as it was. Condition: what memory may hold. -/
namespace Go.Proofs.Ytoicgmfcbmjchaa
open Go.RowKit Go.Deep

/-- What an edit and its undoing are as one. -/
theorem undo_two {s : List Nat} {l m : List CompV} (h : dErr s l = 0) (ht : rTwo l (uOut s l) = (m, 0)) (hm : rCheck m = 0) : dErr s m = 0 ∧ dTxt s m = s ∧ rBase m = rOut m := by
  obtain ⟨k1, k2, k3, k4, _, _⟩ := undo_back h
  obtain ⟨_, _, he, vs, hv, hvn, h1, h2⟩ := does_two h k3
  obtain ⟨m', t1, t2, t3, t4, t5⟩ := two_is k1 k2 he
  have hmm : m = m' := by rw [ht] at t1; exact (Prod.mk.inj t1).1
  subst hmm
  have hok := ok_of hm
  have hd := does_ok hok hv (by rw [t3]; exact hvn)
  rw [t5 vs hvn, ← h2, k4] at hd
  have hl1 := ed_length l vs k1.wh (by omega)
  have hl2 := ed_length (uOut s l) (ed l vs) k2.wh (by rw [hl1]; omega)
  have hvv : vs = ed (uOut s l) (ed l vs) := by
    rw [k4] at h2
    have hV : V s (ed (uOut s l) (ed l vs)) := ⟨ed_may _ _ k2.wh (ed_may l vs k1.wh hv.may), h2.symm⟩
    exact hv.uniq hV
  refine ⟨hd.1, hd.2, ?_⟩
  rw [hok.base, hok.out, t3, t4, ← hl2, ← hvv, hvn]

set_option maxHeartbeats 8000000 in
set_option maxRecDepth 100000 in
theorem composeUndo_any (s : List Nat) (A : Option Addr) (l : List CompV) (c : Nat) (hsb : ∀ x ∈ s, x < 256) (hsl : s.length ≤ maxLen) (hl : l.length ≤ maxLen) (hg : ∀ y ∈ l, y.Good) (w : World) (hA : CompsC w A c l) :
    Calls Try.prog 5 #[.string (bstr s), .slice A l.length c] w fun e w' => e = .returned (.bool true) ∧ Below w.heap.size w w' := by
  have hsz := bstr_size s
  unfold maxLen at hsl
  have GA := Lib.hid (fun w => comAwake_any w)
  have GW := Lib.hid (fun w h => alikeComps_c 1000 c hl hg w (A := A) h)
  have HA := Lib.hid hA
  clear hA hl
  obtain ⟨T, HT⟩ : ∃ x, Hid (compsWeight 1000 l = x) := ⟨_, rfl⟩
  rw [HT.out] at GW
  have HW0 := Lib.hid (Below.refl w.heap.size w)
  by_cases g0 : 500 < s.length
  · clear hg hsb
    go_enter Try.func5, Try.ntmps5
    go_wp2_with fail
    refine (GA.out _).mono ?_
    rintro e w1 ⟨rfl, hb⟩
    have HW1 : Hid (Below w.heap.size w w1) := HW0.out.trans (hb.mono HW0.out.size)
    replace HA := Lib.hid (HA.out.below hb)
    clear hb
    go_wp2
    go_ret
    exact ⟨rfl, HW1.out⟩
  have HSB := Lib.hid hsb
  clear hsb
  by_cases g1 : 1000 < T
  · clear hg
    go_enter Try.func5, Try.ntmps5
    go_wp2_with fail
    refine (GW.out _ HA.out).mono ?_
    rintro e w1 ⟨rfl, hb⟩
    have HW1 : Hid (Below w.heap.size w w1) := HW0.out.trans (hb.mono HW0.out.size)
    replace HA := Lib.hid (HA.out.below hb)
    clear hb
    go_wp2_with fail
    refine (GA.out _).mono ?_
    rintro e w2 ⟨rfl, hb⟩
    have HW2 : Hid (Below w.heap.size w w2) := HW1.out.trans (hb.mono HW1.out.size)
    replace HA := Lib.hid (HA.out.below hb)
    clear hb
    go_wp2
    go_ret
    exact ⟨rfl, HW2.out⟩
  have HE := Lib.hid (held_of hg (weight_spec 1000 (by omega) l (by rw [HT.out]; omega)) (by omega))
  clear hg
  have HSL : Hid (s.length ≤ 1073741824) := by show _ ≤ _; omega
  obtain ⟨X, HX⟩ : ∃ X, Hid (dTxt s l = X) := ⟨_, Lib.hid rfl⟩
  have hxs := dTxt_small s l
  rw [HX.out] at hxs
  have HXS := Lib.hid hxs
  clear hxs
  by_cases e1 : dErr s l = 0
  · have KD1 := Lib.hid (fun A c w h => kDo HX.out e1 HSB.out HSL.out HE.out A c w h)
    obtain ⟨U, HU⟩ : ∃ U, Hid (uOut s l = U) := ⟨_, Lib.hid rfl⟩
    have KU := Lib.hid (fun A c w h => kUndo HU.out e1 HSB.out HSL.out HE.out A c w h)
    obtain ⟨k1, k2, k3, k4, _, _⟩ := undo_back e1
    have hfit := uOut_fit (t := s) HE.out.fine HSL.out HE.out.text
    obtain ⟨_, _, he, _⟩ := does_two e1 k3
    rw [HU.out] at k2 k3 k4 hfit he
    rw [HX.out] at k3 k4
    have HHU : Hid (Held1 U) := ⟨hfit.1, by have := hfit.2.1; omega, by have := k2.tlen; omega⟩
    obtain ⟨M, t1, _⟩ := two_is k1 k2 he
    have KT := Lib.hid (fun A ca B cb w h1 h2 => kTwo t1 HE.out HHU.out A ca B cb w h1 h2)
    have KD2 := Lib.hid (fun A c w h => kDo k4 k3 HXS.out.1 (by have := HXS.out.2; omega) HHU.out A c w h)
    by_cases hm : rCheck M = 0
    · obtain ⟨m1, m2, m3⟩ := undo_two e1 (by rw [HU.out]; exact t1) hm
      have HM := Lib.hid hm
      have HM1 := Lib.hid m1
      have HM2 := Lib.hid m2
      have HM3 := Lib.hid m3
      obtain ⟨p, HP⟩ : ∃ p, Hid (rOut M = p) := ⟨_, Lib.hid rfl⟩
      rw [HP.out] at HM3
      clear e1 k1 k2 k3 k4 hfit he t1 hm m1 m2 m3
      go_enter Try.func5, Try.ntmps5
      go_wp2_with fail
      refine (GW.out _ HA.out).mono ?_
      rintro e w1 ⟨rfl, hb⟩
      have HW1 : Hid (Below w.heap.size w w1) := HW0.out.trans (hb.mono HW0.out.size)
      replace HA := Lib.hid (HA.out.below hb)
      clear hb
      go_wp2_with fail
      refine (KD1.out _ _ _ HA.out).mono ?_
      rintro e w2 ⟨rfl, hb⟩
      have HW2 : Hid (Below w.heap.size w w2) := HW1.out.trans (hb.mono HW1.out.size)
      replace HA := Lib.hid (HA.out.below hb)
      clear hb
      go_wp2_with fail
      refine (KU.out _ _ _ HA.out).mono ?_
      rintro e w3 ⟨⟨A1, c1, rfl, hk⟩, hb⟩
      have HW3 : Hid (Below w.heap.size w w3) := HW2.out.trans (hb.mono HW2.out.size)
      replace HA := Lib.hid (HA.out.below hb)
      have HUA := Lib.hid hk
      clear hk
      clear hb
      go_wp2_with fail
      refine (KT.out _ _ _ _ _ HA.out HUA.out).mono ?_
      rintro e w4 ⟨⟨⟨A2, c2, rfl, hk⟩, hh⟩, hb⟩
      have HW4 : Hid (Below w.heap.size w w4) := HW3.out.trans (hb.mono HW3.out.size)
      replace HA := Lib.hid (HA.out.below hb)
      replace HUA := Lib.hid (HUA.out.below hb)
      have HMA := Lib.hid hk
      have HHM := Lib.hid hh
      clear hk hh
      clear hb
      go_wp2_with fail
      refine (kCheck HM.out HHM.out _ _ _ HMA.out).mono ?_
      rintro e w5 ⟨rfl, hb⟩
      have HW5 : Hid (Below w.heap.size w w5) := HW4.out.trans (hb.mono HW4.out.size)
      replace HA := Lib.hid (HA.out.below hb)
      replace HUA := Lib.hid (HUA.out.below hb)
      replace HMA := Lib.hid (HMA.out.below hb)
      clear hb
      go_wp2_with fail
      refine (kDo HM2.out HM1.out HSB.out HSL.out HHM.out _ _ _ HMA.out).mono ?_
      rintro e w6 ⟨rfl, hb⟩
      have HW6 : Hid (Below w.heap.size w w6) := HW5.out.trans (hb.mono HW5.out.size)
      replace HA := Lib.hid (HA.out.below hb)
      replace HUA := Lib.hid (HUA.out.below hb)
      replace HMA := Lib.hid (HMA.out.below hb)
      clear hb
      go_wp2_with fail
      refine (KD2.out _ _ _ HUA.out).mono ?_
      rintro e w7 ⟨rfl, hb⟩
      have HW7 : Hid (Below w.heap.size w w7) := HW6.out.trans (hb.mono HW6.out.size)
      replace HA := Lib.hid (HA.out.below hb)
      replace HUA := Lib.hid (HUA.out.below hb)
      replace HMA := Lib.hid (HMA.out.below hb)
      clear hb
      go_wp2_with fail
      refine (kBase HM3.out HHM.out _ _ _ HMA.out).mono ?_
      rintro e w8 ⟨rfl, hb⟩
      have HW8 : Hid (Below w.heap.size w w8) := HW7.out.trans (hb.mono HW7.out.size)
      replace HA := Lib.hid (HA.out.below hb)
      replace HUA := Lib.hid (HUA.out.below hb)
      replace HMA := Lib.hid (HMA.out.below hb)
      clear hb
      go_wp2_with fail
      refine (kOut HP.out HHM.out _ _ _ HMA.out).mono ?_
      rintro e w9 ⟨rfl, hb⟩
      have HW9 : Hid (Below w.heap.size w w9) := HW8.out.trans (hb.mono HW8.out.size)
      replace HA := Lib.hid (HA.out.below hb)
      replace HUA := Lib.hid (HUA.out.below hb)
      replace HMA := Lib.hid (HMA.out.below hb)
      clear hb
      go_wp2_with fail
      refine (GA.out _).mono ?_
      rintro e w10 ⟨rfl, hb⟩
      have HW10 : Hid (Below w.heap.size w w10) := HW9.out.trans (hb.mono HW9.out.size)
      replace HA := Lib.hid (HA.out.below hb)
      replace HUA := Lib.hid (HUA.out.below hb)
      replace HMA := Lib.hid (HMA.out.below hb)
      clear hb
      go_wp2
      go_ret
      exact ⟨rfl, HW10.out⟩
    · obtain ⟨q, HQ⟩ : ∃ q, Hid (rCheck M = q) := ⟨_, Lib.hid rfl⟩
      rw [HQ.out] at hm
      have hq : ((q : Int) != 0) = true := bne_iff_ne.2 (by omega)
      clear e1 k1 k2 k3 k4 hfit he t1 hm
      go_enter Try.func5, Try.ntmps5
      go_wp2_with fail
      refine (GW.out _ HA.out).mono ?_
      rintro e w1 ⟨rfl, hb⟩
      have HW1 : Hid (Below w.heap.size w w1) := HW0.out.trans (hb.mono HW0.out.size)
      replace HA := Lib.hid (HA.out.below hb)
      clear hb
      go_wp2_with fail
      refine (KD1.out _ _ _ HA.out).mono ?_
      rintro e w2 ⟨rfl, hb⟩
      have HW2 : Hid (Below w.heap.size w w2) := HW1.out.trans (hb.mono HW1.out.size)
      replace HA := Lib.hid (HA.out.below hb)
      clear hb
      go_wp2_with fail
      refine (KU.out _ _ _ HA.out).mono ?_
      rintro e w3 ⟨⟨A1, c1, rfl, hk⟩, hb⟩
      have HW3 : Hid (Below w.heap.size w w3) := HW2.out.trans (hb.mono HW2.out.size)
      replace HA := Lib.hid (HA.out.below hb)
      have HUA := Lib.hid hk
      clear hk
      clear hb
      go_wp2_with fail
      refine (KT.out _ _ _ _ _ HA.out HUA.out).mono ?_
      rintro e w4 ⟨⟨⟨A2, c2, rfl, hk⟩, hh⟩, hb⟩
      have HW4 : Hid (Below w.heap.size w w4) := HW3.out.trans (hb.mono HW3.out.size)
      replace HA := Lib.hid (HA.out.below hb)
      replace HUA := Lib.hid (HUA.out.below hb)
      have HMA := Lib.hid hk
      have HHM := Lib.hid hh
      clear hk hh
      clear hb
      go_wp2_with fail
      refine (kCheck HQ.out HHM.out _ _ _ HMA.out).mono ?_
      rintro e w5 ⟨rfl, hb⟩
      have HW5 : Hid (Below w.heap.size w w5) := HW4.out.trans (hb.mono HW4.out.size)
      replace HA := Lib.hid (HA.out.below hb)
      replace HUA := Lib.hid (HUA.out.below hb)
      replace HMA := Lib.hid (HMA.out.below hb)
      clear hb
      go_wp2_with fail
      refine (GA.out _).mono ?_
      rintro e w6 ⟨rfl, hb⟩
      have HW6 : Hid (Below w.heap.size w w6) := HW5.out.trans (hb.mono HW5.out.size)
      replace HA := Lib.hid (HA.out.below hb)
      replace HUA := Lib.hid (HUA.out.below hb)
      replace HMA := Lib.hid (HMA.out.below hb)
      clear hb
      go_wp2
      go_ret
      exact ⟨rfl, HW6.out⟩
  · obtain ⟨q, HQ⟩ : ∃ q, Hid (dErr s l = q) := ⟨_, Lib.hid rfl⟩
    have KD1 := Lib.hid (fun A c w h => kDo HX.out HQ.out HSB.out HSL.out HE.out A c w h)
    rw [HQ.out] at e1
    have hq : ((q : Int) != 0) = true := bne_iff_ne.2 (by omega)
    clear e1
    go_enter Try.func5, Try.ntmps5
    go_wp2_with fail
    refine (GW.out _ HA.out).mono ?_
    rintro e w1 ⟨rfl, hb⟩
    have HW1 : Hid (Below w.heap.size w w1) := HW0.out.trans (hb.mono HW0.out.size)
    replace HA := Lib.hid (HA.out.below hb)
    clear hb
    go_wp2_with fail
    refine (KD1.out _ _ _ HA.out).mono ?_
    rintro e w2 ⟨rfl, hb⟩
    have HW2 : Hid (Below w.heap.size w w2) := HW1.out.trans (hb.mono HW1.out.size)
    replace HA := Lib.hid (HA.out.below hb)
    clear hb
    go_wp2_with fail
    refine (GA.out _).mono ?_
    rintro e w3 ⟨rfl, hb⟩
    have HW3 : Hid (Below w.heap.size w w3) := HW2.out.trans (hb.mono HW2.out.size)
    replace HA := Lib.hid (HA.out.below hb)
    clear hb
    go_wp2
    go_ret
    exact ⟨rfl, HW3.out⟩
end Go.Proofs.Ytoicgmfcbmjchaa

/- ComposeUndo holds: an edit, and then what undoes it, as one, leaves every text of that length as it was: whatever the law is called with: it answers true and changes nothing. No condition. -/
namespace Go.Proofs.Ytoicgmfcbmjchaa
open Go.ChangeShapes Go.WideShapes Go.ChangeAt Go.RowKit

set_option maxRecDepth 100000 in
theorem composeUndo_lifted (os : Os) (started : os.Started) (H : Type) (enc : TypeId × Value → H) :
    ReturnsInHanded {} Try.checked os 5 .any (Rows.composeUndoSpec.pre6 enc Try.prog Try.f5 Rows.composeUndoRow.domain false) (Rows.composeUndoSpec.post enc Try.prog Try.f5 false true false false) := by
  refine returnsInHanded_of_change (C := Try.checked) law_own started (by kernel_rfl) Try.func5
    (ChangeSpec.witness6 (enc := enc) (C := Try.checked) false ⟨#[], #[.string { data := #[] }, .slice none 0 0], []⟩ 8 (by kernel_rfl) (by kernel_rfl) (by kernel_rfl) (by kernel_rfl)) ?_
  intro W base args ds gs before hval0 hW _ _
  have hval : ∀ (j : Nat) t v, Try.f5.params[j]? = some t → args[j]? = some v → Value.okWide Try.prog W .any base t v := hval0
  have hW' := hW
  obtain ⟨p, q, hA0, hV, rfl, _, _⟩ := hW
  have hlt : ∀ x ∈ p ++ q, x.block < W.heap.size := fun x hx => hW'.lt x hx
  have hA : DataW.TrodAll enc Try.prog W 0 (fun _ => true) true Try.f5.params.toList args.toList ds p := hA0
  rw [Try.params5] at hA hval
  obtain ⟨v0, v1, d0, d1, p0, p1, rfl, rfl, rfl, h0, h1⟩ := trodAll_two hA
  obtain ⟨rfl, rfl⟩ := trodVars_none hV
  obtain ⟨s0, rfl, rfl, rfl, hsz0⟩ := Go.ChangeMaps.open_string Try.underlying9 (hval 0 9 v0 rfl rfl) h0
  obtain ⟨t0, hb0, rfl⟩ := bstr_any s0
  have hl0 : t0.length ≤ maxLen := by rw [bstr_size] at hsz0; exact hsz0
  obtain ⟨A1, l1, c1, rfl, hat1, hg1, hlc1, hc1⟩ := open_comps (hval 1 22 v1 rfl rfl) h1 (fun x hx => hlt x (by simp [hx]))
  have hl1 : l1.length ≤ maxLen := by omega
  clear hA0 hval0
  refine (composeUndo_any t0 A1 l1 c1 hb0 hl0 hl1 hg1 W ⟨hat1, hlc1⟩).mono fun e W' ⟨he, hb⟩ => ?_
  exact ⟨_, he, law_post law_laid (by kernel_rfl) (by kernel_rfl) Try.underlying4 rfl hW' rfl hb⟩

theorem composeUndo_holds : Rows.ComposeUndoSaid :=
  OpenClaim.holds_of_wide 5 Try.f5 rfl rfl rfl rfl rfl rfl rfl ⟨rfl, rfl, rfl, rfl, rfl⟩ rfl rfl rfl rfl rfl (by kernel_rfl) Try.func5 (by kernel_rfl)
    (of_decide_eq_true (by kernel_rfl)) (by unfold Func.isWrapper; first | (rw [if_pos (by decide +kernel)]; kernel_rfl) | (rw [if_neg (by decide +kernel)]; exact ⟨rfl, rfl⟩))
    (fun os started H enc _ => composeUndo_lifted os started H enc)
end Go.Proofs.Ytoicgmfcbmjchaa
