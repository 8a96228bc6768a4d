/- Behind a row of edits an edit is what it is behind their one: it answers true and changes nothing. No condition. (Merged of 2 texts.) -/
import Derived.Test.YtakdcfjlhpponaaKXk
import Derived.Test.YtakdcfjlhpponaaKCells
import Derived.ChangeMaps5
/- XformMany, walked: behind a row of edits an edit is what it is behind their one. Condition: what memory may hold. -/
namespace Go.Proofs.Ytakdcfjlhpponaa
open Go.RowKit Go.Deep

/-- A slice of two edits, just made. -/
theorem rows_two (t : TypeId) {w : World} {B C : Option Addr} {b c : List CompV} {cb cc : Nat} (hB : CompsC w B cb b) (hC : CompsC w C cc c) : RowsC (w.alloc (Obj.cells #[.slice B b.length cb, .slice C c.length cc] t)) (some ⟨w.heap.size, 0, none⟩) [(B, cb, b), (C, cc, c)] := by
  have hcs : ∀ i v, (#[Value.slice B b.length cb, Value.slice C c.length cc] : Array Value)[i]? = some v → (w.alloc (Obj.cells #[.slice B b.length cb, .slice C c.length cc] t)).cell? ⟨w.heap.size, 0 + i, none⟩ = some v := fun i v h => by rw [Nat.zero_add, cell_of_row _ _ _ _ t _ (heap_alloc_new w _), h]
  refine .inr ⟨w.heap.size, 0, rfl, by simp, fun j x hj => ?_⟩
  match j, hj with
  | 0, hj =>
    have e := Option.some.inj hj
    subst e
    exact ⟨hcs 0 _ rfl, ⟨CellsAt.alloc hB.1 _, hB.2⟩⟩
  | 1, hj =>
    have e := Option.some.inj hj
    subst e
    exact ⟨hcs 1 _ rfl, ⟨CellsAt.alloc hC.1 _, hC.2⟩⟩
  | j + 2, hj => simp at hj

set_option maxHeartbeats 8000000 in
set_option maxRecDepth 100000 in
theorem xformMany_any (s : List Nat) (A : Option Addr) (a : List CompV) (ca : Nat) (B : Option Addr) (b : List CompV) (cb : Nat) (C : Option Addr) (c : List CompV) (cc : Nat) (f : Bool) (hsb : ∀ x ∈ s, x < 256) (hsl : s.length ≤ maxLen) (hla : a.length ≤ maxLen) (hga : ∀ y ∈ a, y.Good) (hlb : b.length ≤ maxLen) (hgb : ∀ y ∈ b, y.Good) (hlc : c.length ≤ maxLen) (hgc : ∀ y ∈ c, y.Good) (w : World) (hA : CompsC w A ca a) (hB : CompsC w B cb b) (hC : CompsC w C cc c) :
    Calls Try.prog 7 #[.string (bstr s), .slice A a.length ca, .slice B b.length cb, .slice C c.length cc, .bool f] w fun e w' => e = .returned (.bool true) ∧ Below w.heap.size w w' := by
  have hsz := bstr_size s
  unfold maxLen at hsl
  have GA := Lib.hid (fun w => xfAwake_any w)
  have GWa := Lib.hid (fun w h => alikeComps_c 600 ca hla hga w (A := A) h)
  have GWb := Lib.hid (fun w h => alikeComps_c 600 cb hlb hgb w (A := B) h)
  have GWc := Lib.hid (fun w h => alikeComps_c 600 cc hlc hgc w (A := C) h)
  have HA := Lib.hid hA
  have HB := Lib.hid hB
  have HC := Lib.hid hC
  clear hA hB hC hla hlb hlc
  obtain ⟨Ta, HTa⟩ : ∃ x, Hid (compsWeight 600 a = x) := ⟨_, rfl⟩
  obtain ⟨Tb, HTb⟩ : ∃ x, Hid (compsWeight 600 b = x) := ⟨_, rfl⟩
  obtain ⟨Tc, HTc⟩ : ∃ x, Hid (compsWeight 600 c = x) := ⟨_, rfl⟩
  rw [HTa.out] at GWa
  rw [HTb.out] at GWb
  rw [HTc.out] at GWc
  have HW0 := Lib.hid (Below.refl w.heap.size w)
  by_cases g0 : 400 < s.length
  · clear hga hgb hgc hsb
    go_enter Try.func7, Try.ntmps7
    go_wp2_with fail
    refine (GA.out _).mono ?_
    rintro e w1 ⟨rfl, hb⟩
    have HW1 : Hid (Below w.heap.size w w1) := HW0.out.trans (hb.mono HW0.out.size)
    replace HA := Lib.hid (HA.out.below hb)
    replace HB := Lib.hid (HB.out.below hb)
    replace HC := Lib.hid (HC.out.below hb)
    clear hb
    go_wp2
    go_ret
    exact ⟨rfl, HW1.out⟩
  have HSB := Lib.hid hsb
  clear hsb
  by_cases g1 : 600 < Ta
  · clear hga hgb hgc
    go_enter Try.func7, Try.ntmps7
    go_wp2_with fail
    refine (GWa.out _ HA.out).mono ?_
    rintro e w1 ⟨rfl, hb⟩
    have HW1 : Hid (Below w.heap.size w w1) := HW0.out.trans (hb.mono HW0.out.size)
    replace HA := Lib.hid (HA.out.below hb)
    replace HB := Lib.hid (HB.out.below hb)
    replace HC := Lib.hid (HC.out.below hb)
    clear hb
    go_wp2_with fail
    refine (GA.out _).mono ?_
    rintro e w2 ⟨rfl, hb⟩
    have HW2 : Hid (Below w.heap.size w w2) := HW1.out.trans (hb.mono HW1.out.size)
    replace HA := Lib.hid (HA.out.below hb)
    replace HB := Lib.hid (HB.out.below hb)
    replace HC := Lib.hid (HC.out.below hb)
    clear hb
    go_wp2
    go_ret
    exact ⟨rfl, HW2.out⟩
  by_cases g2 : 600 < Tb
  · clear hga hgb hgc
    go_enter Try.func7, Try.ntmps7
    go_wp2_with fail
    refine (GWa.out _ HA.out).mono ?_
    rintro e w1 ⟨rfl, hb⟩
    have HW1 : Hid (Below w.heap.size w w1) := HW0.out.trans (hb.mono HW0.out.size)
    replace HA := Lib.hid (HA.out.below hb)
    replace HB := Lib.hid (HB.out.below hb)
    replace HC := Lib.hid (HC.out.below hb)
    clear hb
    go_wp2_with fail
    refine (GWb.out _ HB.out).mono ?_
    rintro e w2 ⟨rfl, hb⟩
    have HW2 : Hid (Below w.heap.size w w2) := HW1.out.trans (hb.mono HW1.out.size)
    replace HA := Lib.hid (HA.out.below hb)
    replace HB := Lib.hid (HB.out.below hb)
    replace HC := Lib.hid (HC.out.below hb)
    clear hb
    go_wp2_with fail
    refine (GA.out _).mono ?_
    rintro e w3 ⟨rfl, hb⟩
    have HW3 : Hid (Below w.heap.size w w3) := HW2.out.trans (hb.mono HW2.out.size)
    replace HA := Lib.hid (HA.out.below hb)
    replace HB := Lib.hid (HB.out.below hb)
    replace HC := Lib.hid (HC.out.below hb)
    clear hb
    go_wp2
    go_ret
    exact ⟨rfl, HW3.out⟩
  by_cases g3 : 600 < Tc
  · clear hga hgb hgc
    go_enter Try.func7, Try.ntmps7
    go_wp2_with fail
    refine (GWa.out _ HA.out).mono ?_
    rintro e w1 ⟨rfl, hb⟩
    have HW1 : Hid (Below w.heap.size w w1) := HW0.out.trans (hb.mono HW0.out.size)
    replace HA := Lib.hid (HA.out.below hb)
    replace HB := Lib.hid (HB.out.below hb)
    replace HC := Lib.hid (HC.out.below hb)
    clear hb
    go_wp2_with fail
    refine (GWb.out _ HB.out).mono ?_
    rintro e w2 ⟨rfl, hb⟩
    have HW2 : Hid (Below w.heap.size w w2) := HW1.out.trans (hb.mono HW1.out.size)
    replace HA := Lib.hid (HA.out.below hb)
    replace HB := Lib.hid (HB.out.below hb)
    replace HC := Lib.hid (HC.out.below hb)
    clear hb
    go_wp2_with fail
    refine (GWc.out _ HC.out).mono ?_
    rintro e w3 ⟨rfl, hb⟩
    have HW3 : Hid (Below w.heap.size w w3) := HW2.out.trans (hb.mono HW2.out.size)
    replace HA := Lib.hid (HA.out.below hb)
    replace HB := Lib.hid (HB.out.below hb)
    replace HC := Lib.hid (HC.out.below hb)
    clear hb
    go_wp2_with fail
    refine (GA.out _).mono ?_
    rintro e w4 ⟨rfl, hb⟩
    have HW4 : Hid (Below w.heap.size w w4) := HW3.out.trans (hb.mono HW3.out.size)
    replace HA := Lib.hid (HA.out.below hb)
    replace HB := Lib.hid (HB.out.below hb)
    replace HC := Lib.hid (HC.out.below hb)
    clear hb
    go_wp2
    go_ret
    exact ⟨rfl, HW4.out⟩
  have HEa := Lib.hid (held_of hga (weight_spec 600 (by omega) a (by rw [HTa.out]; omega)) (by omega))
  have HEb := Lib.hid (held_of hgb (weight_spec 600 (by omega) b (by rw [HTb.out]; omega)) (by omega))
  have HEc := Lib.hid (held_of hgc (weight_spec 600 (by omega) c (by rw [HTc.out]; omega)) (by omega))
  clear hga hgb hgc
  have HSL : Hid (s.length ≤ 1073741824) := by show _ ≤ _; omega
  obtain ⟨X, HX⟩ : ∃ X, Hid (dTxt s b = X) := ⟨_, Lib.hid rfl⟩
  have HXS := Lib.hid (dTxt_small s b)
  rw [HX.out] at HXS
  obtain ⟨Y, HY⟩ : ∃ Y, Hid (dTxt X c = Y) := ⟨_, Lib.hid rfl⟩
  have HYS := Lib.hid (dTxt_small X c)
  rw [HY.out] at HYS
  obtain ⟨E1, HE1⟩ : ∃ q, Hid (dErr s a = q) := ⟨_, Lib.hid rfl⟩
  obtain ⟨E2, HE2⟩ : ∃ q, Hid (dErr s b = q) := ⟨_, Lib.hid rfl⟩
  obtain ⟨E3, HE3⟩ : ∃ q, Hid (dErr X c = q) := ⟨_, Lib.hid rfl⟩
  have KD1 := Lib.hid (fun A cc w h => kDo (rfl : dTxt s a = dTxt s a) HE1.out HSB.out HSL.out HEa.out A cc w h)
  have KD2 := Lib.hid (fun A cc w h => kDo HX.out HE2.out HSB.out HSL.out HEb.out A cc w h)
  have KD3 := Lib.hid (fun A cc w h => kDo HY.out HE3.out HXS.out.1 (by have := HXS.out.2; omega) HEc.out A cc w h)
  generalize dTxt s a = X0 at KD1
  by_cases e1 : E1 = 0
  · by_cases e2 : E2 = 0
    · by_cases e3 : E3 = 0
      · subst e1 e2 e3
        have h2 := HE2.out
        have h3 := HE3.out
        rw [← HX.out] at h3
        obtain ⟨za, va, hva, hna⟩ := dErr_zero HE1.out
        have oka := ok_of za
        obtain ⟨okb, okc, hbc, vs, hv, hnb, hx, hy⟩ := does_two h2 h3
        obtain rfl := hv.uniq hva
        rw [HX.out] at hy hx
        rw [HY.out] at hy
        have hab : inS a = inS b := by have := oka.base; omega
        have hlb2 := ed_length b vs okb.wh (by omega)
        have hlc2 := ed_length c (ed b vs) okc.wh (by omega)
        have HVY : Hid (V Y (ed c (ed b vs))) := by show V _ _; rw [hy]; exact V.mk (ed_may c _ okc.wh (ed_may b vs okb.wh hv.may))
        obtain ⟨m, hm⟩ := over_is f oka okb hab
        have KM := Lib.hid (fun A ca B cb w h1 h2 => kOver hm.over HEa.out HEb.out A ca B cb w h1 h2)
        have KN := Lib.hid (fun w => refCount_yes HVY.out (by have := HYS.out.2; omega) w)
        have hrow : ∀ B cb C cc, rMany f (a, 0) (edits [(B, cb, b), (C, cc, c)]) = rOver f m c := fun B cb C cc => by
          show rMany f (a, 0) [b, c] = _
          rw [rMany_cons, show rManyStep f (a, 0) b = (m, 0) by rw [rManyStep, if_neg (by simp)]; exact hm.over, rMany_cons, rMany_nil, rManyStep, if_neg (by simp)]
        have hlit : ∀ B cb C cc, ∀ x ∈ [((B, cb, b) : EditR), (C, cc, c)], Held1 x.2.2 := fun B cb C cc x hx => by
          rcases List.mem_cons.1 hx with rfl | hx
          · exact HEb.out
          · rw [List.mem_singleton.1 hx]; exact HEc.out
        have mi := hm.ins
        by_cases cm : rCheck m = 0
        · obtain ⟨P, hP⟩ := over_is f (ok_of cm) okc (by omega)
          have KR := Lib.hid (fun A ca R cr B cb C cc w hA hR => kMany (L := [(B, cb, b), (C, cc, c)]) ((hrow B cb C cc).trans hP.over) HEa.out A ca R cr (by show 2 ≤ maxLen; unfold maxLen; omega) (hlit B cb C cc) w hA hR)
          have HPI : Hid ((ed c (ed b vs)).length = inS P) := by show _ = _; rw [hP.ins, hlc2]
          by_cases cp : rCheck P = 0
          · have hpb := (ok_of cp).base
            have dp := does_ok (ok_of cp) HVY.out HPI.out
            have HZV := Lib.hid (V.mk (ed_may P _ (ok_of cp).wh HVY.out.may))
            have HZL := Lib.hid (dTxt_small Y P)
            rw [dp.2] at HZL
            have HCP := Lib.hid cp
            have HDP := Lib.hid dp
            rw [← HPI.out] at hpb
            have HPB := Lib.hid hpb
            clear cp dp hpb h2 h3 za hva hna oka okb okc hbc hv hnb hx hy hab hlb2 hlc2 hm hrow hlit mi cm hP
            generalize (ed c (ed b vs)).length = n at KN HPB
            generalize ed P (ed c (ed b vs)) = zs at HDP HZV HZL
            have KV := Lib.hid (fun w => refValid_any (E zs) HZL.out.1 (by have := HZL.out.2; omega) w)
            rw [validB_yes HZV.out] at KV
            generalize E zs = Z at HDP KV
            go_enter Try.func7, Try.ntmps7
            go_wp2_with fail
            refine (GWa.out _ HA.out).mono ?_
            rintro e w1 ⟨rfl, hb⟩
            have HW1 : Hid (Below w.heap.size w w1) := HW0.out.trans (hb.mono HW0.out.size)
            replace HA := Lib.hid (HA.out.below hb)
            replace HB := Lib.hid (HB.out.below hb)
            replace HC := Lib.hid (HC.out.below hb)
            clear hb
            go_wp2_with fail
            refine (GWb.out _ HB.out).mono ?_
            rintro e w2 ⟨rfl, hb⟩
            have HW2 : Hid (Below w.heap.size w w2) := HW1.out.trans (hb.mono HW1.out.size)
            replace HA := Lib.hid (HA.out.below hb)
            replace HB := Lib.hid (HB.out.below hb)
            replace HC := Lib.hid (HC.out.below hb)
            clear hb
            go_wp2_with fail
            refine (GWc.out _ HC.out).mono ?_
            rintro e w3 ⟨rfl, hb⟩
            have HW3 : Hid (Below w.heap.size w w3) := HW2.out.trans (hb.mono HW2.out.size)
            replace HA := Lib.hid (HA.out.below hb)
            replace HB := Lib.hid (HB.out.below hb)
            replace HC := Lib.hid (HC.out.below hb)
            clear hb
            go_wp2_with fail
            refine (KD1.out _ _ _ HA.out).mono ?_
            rintro e w4 ⟨rfl, hb⟩
            have HW4 : Hid (Below w.heap.size w w4) := HW3.out.trans (hb.mono HW3.out.size)
            replace HA := Lib.hid (HA.out.below hb)
            replace HB := Lib.hid (HB.out.below hb)
            replace HC := Lib.hid (HC.out.below hb)
            clear hb
            go_wp2_with fail
            refine (KD2.out _ _ _ HB.out).mono ?_
            rintro e w5 ⟨rfl, hb⟩
            have HW5 : Hid (Below w.heap.size w w5) := HW4.out.trans (hb.mono HW4.out.size)
            replace HA := Lib.hid (HA.out.below hb)
            replace HB := Lib.hid (HB.out.below hb)
            replace HC := Lib.hid (HC.out.below hb)
            clear hb
            go_wp2_with fail
            refine (KD3.out _ _ _ HC.out).mono ?_
            rintro e w6 ⟨rfl, hb⟩
            have HW6 : Hid (Below w.heap.size w w6) := HW5.out.trans (hb.mono HW5.out.size)
            replace HA := Lib.hid (HA.out.below hb)
            replace HB := Lib.hid (HB.out.below hb)
            replace HC := Lib.hid (HC.out.below hb)
            clear hb
            go_wp2_with fail
            have HBL := Lib.hid ((Below.refl w6.heap.size w6).alloc (Nat.le_refl _) (Obj.cells #[.slice B b.length cb, .slice C c.length cc] 22))
            have HR := Lib.hid (rows_two 22 (cb := cb) (cc := cc) HB.out HC.out)
            refine (KR.out A ca _ 2 B cb C cc _ (HA.out.below HBL.out) HR.out).mono ?_
            rintro e w7 ⟨⟨⟨A1, c1, rfl, hk⟩, hh⟩, hb⟩
            have hb2 : Below w6.heap.size w6 w7 := HBL.out.trans (hb.mono HBL.out.size)
            have HW7 : Hid (Below w.heap.size w w7) := HW6.out.trans (hb2.mono HW6.out.size)
            replace HA := Lib.hid (HA.out.below hb2)
            replace HB := Lib.hid (HB.out.below hb2)
            replace HC := Lib.hid (HC.out.below hb2)
            have HPA := Lib.hid hk
            have HHP := Lib.hid hh
            clear hk hh
            clear hb hb2 HBL HR
            go_wp2_with fail
            refine (KM.out _ _ _ _ _ HA.out HB.out).mono ?_
            rintro e w8 ⟨⟨⟨A2, c2, rfl, hk⟩, hh⟩, hb⟩
            have HW8 : Hid (Below w.heap.size w w8) := HW7.out.trans (hb.mono HW7.out.size)
            replace HA := Lib.hid (HA.out.below hb)
            replace HB := Lib.hid (HB.out.below hb)
            replace HC := Lib.hid (HC.out.below hb)
            replace HPA := Lib.hid (HPA.out.below hb)
            have HMA := Lib.hid hk
            have HHM := Lib.hid hh
            clear hk hh
            clear hb
            go_wp2_with fail
            refine (kCheck HCP.out HHP.out _ _ _ HPA.out).mono ?_
            rintro e w9 ⟨rfl, hb⟩
            have HW9 : Hid (Below w.heap.size w w9) := HW8.out.trans (hb.mono HW8.out.size)
            replace HA := Lib.hid (HA.out.below hb)
            replace HB := Lib.hid (HB.out.below hb)
            replace HC := Lib.hid (HC.out.below hb)
            replace HPA := Lib.hid (HPA.out.below hb)
            replace HMA := Lib.hid (HMA.out.below hb)
            clear hb
            go_wp2_with fail
            refine (kDo HDP.out.2 HDP.out.1 HYS.out.1 (by have := HYS.out.2; omega) HHP.out _ _ _ HPA.out).mono ?_
            rintro e w10 ⟨rfl, hb⟩
            have HW10 : Hid (Below w.heap.size w w10) := HW9.out.trans (hb.mono HW9.out.size)
            replace HA := Lib.hid (HA.out.below hb)
            replace HB := Lib.hid (HB.out.below hb)
            replace HC := Lib.hid (HC.out.below hb)
            replace HPA := Lib.hid (HPA.out.below hb)
            replace HMA := Lib.hid (HMA.out.below hb)
            clear hb
            go_wp2_with fail
            refine (KV.out _).mono ?_
            rintro e w11 ⟨rfl, hb⟩
            have HW11 : Hid (Below w.heap.size w w11) := HW10.out.trans (hb.mono HW10.out.size)
            replace HA := Lib.hid (HA.out.below hb)
            replace HB := Lib.hid (HB.out.below hb)
            replace HC := Lib.hid (HC.out.below hb)
            replace HPA := Lib.hid (HPA.out.below hb)
            replace HMA := Lib.hid (HMA.out.below hb)
            clear hb
            go_wp2_with fail
            refine (kBase HPB.out HHP.out _ _ _ HPA.out).mono ?_
            rintro e w12 ⟨rfl, hb⟩
            have HW12 : Hid (Below w.heap.size w w12) := HW11.out.trans (hb.mono HW11.out.size)
            replace HA := Lib.hid (HA.out.below hb)
            replace HB := Lib.hid (HB.out.below hb)
            replace HC := Lib.hid (HC.out.below hb)
            replace HPA := Lib.hid (HPA.out.below hb)
            replace HMA := Lib.hid (HMA.out.below hb)
            clear hb
            go_wp2_with fail
            refine (KN.out _).mono ?_
            rintro e w13 ⟨rfl, hb⟩
            have HW13 : Hid (Below w.heap.size w w13) := HW12.out.trans (hb.mono HW12.out.size)
            replace HA := Lib.hid (HA.out.below hb)
            replace HB := Lib.hid (HB.out.below hb)
            replace HC := Lib.hid (HC.out.below hb)
            replace HPA := Lib.hid (HPA.out.below hb)
            replace HMA := Lib.hid (HMA.out.below hb)
            clear hb
            go_wp2_with fail
            refine (GA.out _).mono ?_
            rintro e w14 ⟨rfl, hb⟩
            have HW14 : Hid (Below w.heap.size w w14) := HW13.out.trans (hb.mono HW13.out.size)
            replace HA := Lib.hid (HA.out.below hb)
            replace HB := Lib.hid (HB.out.below hb)
            replace HC := Lib.hid (HC.out.below hb)
            replace HPA := Lib.hid (HPA.out.below hb)
            replace HMA := Lib.hid (HMA.out.below hb)
            clear hb
            go_wp2
            go_ret
            exact ⟨rfl, HW14.out⟩
          · obtain ⟨q, HQC⟩ : ∃ q, Hid (rCheck P = q) := ⟨_, Lib.hid rfl⟩
            rw [HQC.out] at cp
            have hq : ((q : Int) != 0) = true := bne_iff_ne.2 (by omega)
            clear cp h2 h3 za hva hna oka okb okc hbc hv hnb hx hy hab hlb2 hlc2 hm hrow hlit mi cm hP
            go_enter Try.func7, Try.ntmps7
            go_wp2_with fail
            refine (GWa.out _ HA.out).mono ?_
            rintro e w1 ⟨rfl, hb⟩
            have HW1 : Hid (Below w.heap.size w w1) := HW0.out.trans (hb.mono HW0.out.size)
            replace HA := Lib.hid (HA.out.below hb)
            replace HB := Lib.hid (HB.out.below hb)
            replace HC := Lib.hid (HC.out.below hb)
            clear hb
            go_wp2_with fail
            refine (GWb.out _ HB.out).mono ?_
            rintro e w2 ⟨rfl, hb⟩
            have HW2 : Hid (Below w.heap.size w w2) := HW1.out.trans (hb.mono HW1.out.size)
            replace HA := Lib.hid (HA.out.below hb)
            replace HB := Lib.hid (HB.out.below hb)
            replace HC := Lib.hid (HC.out.below hb)
            clear hb
            go_wp2_with fail
            refine (GWc.out _ HC.out).mono ?_
            rintro e w3 ⟨rfl, hb⟩
            have HW3 : Hid (Below w.heap.size w w3) := HW2.out.trans (hb.mono HW2.out.size)
            replace HA := Lib.hid (HA.out.below hb)
            replace HB := Lib.hid (HB.out.below hb)
            replace HC := Lib.hid (HC.out.below hb)
            clear hb
            go_wp2_with fail
            refine (KD1.out _ _ _ HA.out).mono ?_
            rintro e w4 ⟨rfl, hb⟩
            have HW4 : Hid (Below w.heap.size w w4) := HW3.out.trans (hb.mono HW3.out.size)
            replace HA := Lib.hid (HA.out.below hb)
            replace HB := Lib.hid (HB.out.below hb)
            replace HC := Lib.hid (HC.out.below hb)
            clear hb
            go_wp2_with fail
            refine (KD2.out _ _ _ HB.out).mono ?_
            rintro e w5 ⟨rfl, hb⟩
            have HW5 : Hid (Below w.heap.size w w5) := HW4.out.trans (hb.mono HW4.out.size)
            replace HA := Lib.hid (HA.out.below hb)
            replace HB := Lib.hid (HB.out.below hb)
            replace HC := Lib.hid (HC.out.below hb)
            clear hb
            go_wp2_with fail
            refine (KD3.out _ _ _ HC.out).mono ?_
            rintro e w6 ⟨rfl, hb⟩
            have HW6 : Hid (Below w.heap.size w w6) := HW5.out.trans (hb.mono HW5.out.size)
            replace HA := Lib.hid (HA.out.below hb)
            replace HB := Lib.hid (HB.out.below hb)
            replace HC := Lib.hid (HC.out.below hb)
            clear hb
            go_wp2_with fail
            have HBL := Lib.hid ((Below.refl w6.heap.size w6).alloc (Nat.le_refl _) (Obj.cells #[.slice B b.length cb, .slice C c.length cc] 22))
            have HR := Lib.hid (rows_two 22 (cb := cb) (cc := cc) HB.out HC.out)
            refine (KR.out A ca _ 2 B cb C cc _ (HA.out.below HBL.out) HR.out).mono ?_
            rintro e w7 ⟨⟨⟨A1, c1, rfl, hk⟩, hh⟩, hb⟩
            have hb2 : Below w6.heap.size w6 w7 := HBL.out.trans (hb.mono HBL.out.size)
            have HW7 : Hid (Below w.heap.size w w7) := HW6.out.trans (hb2.mono HW6.out.size)
            replace HA := Lib.hid (HA.out.below hb2)
            replace HB := Lib.hid (HB.out.below hb2)
            replace HC := Lib.hid (HC.out.below hb2)
            have HPA := Lib.hid hk
            have HHP := Lib.hid hh
            clear hk hh
            clear hb hb2 HBL HR
            go_wp2_with fail
            refine (KM.out _ _ _ _ _ HA.out HB.out).mono ?_
            rintro e w8 ⟨⟨⟨A2, c2, rfl, hk⟩, hh⟩, hb⟩
            have HW8 : Hid (Below w.heap.size w w8) := HW7.out.trans (hb.mono HW7.out.size)
            replace HA := Lib.hid (HA.out.below hb)
            replace HB := Lib.hid (HB.out.below hb)
            replace HC := Lib.hid (HC.out.below hb)
            replace HPA := Lib.hid (HPA.out.below hb)
            have HMA := Lib.hid hk
            have HHM := Lib.hid hh
            clear hk hh
            clear hb
            go_wp2_with fail
            refine (kCheck HQC.out HHP.out _ _ _ HPA.out).mono ?_
            rintro e w9 ⟨rfl, hb⟩
            have HW9 : Hid (Below w.heap.size w w9) := HW8.out.trans (hb.mono HW8.out.size)
            replace HA := Lib.hid (HA.out.below hb)
            replace HB := Lib.hid (HB.out.below hb)
            replace HC := Lib.hid (HC.out.below hb)
            replace HPA := Lib.hid (HPA.out.below hb)
            replace HMA := Lib.hid (HMA.out.below hb)
            clear hb
            go_wp2_with fail
            refine (GA.out _).mono ?_
            rintro e w10 ⟨rfl, hb⟩
            have HW10 : Hid (Below w.heap.size w w10) := HW9.out.trans (hb.mono HW9.out.size)
            replace HA := Lib.hid (HA.out.below hb)
            replace HB := Lib.hid (HB.out.below hb)
            replace HC := Lib.hid (HC.out.below hb)
            replace HPA := Lib.hid (HPA.out.below hb)
            replace HMA := Lib.hid (HMA.out.below hb)
            clear hb
            go_wp2
            go_ret
            exact ⟨rfl, HW10.out⟩
        · have hno : ∃ l, rOver f m c = (l, rCheck m) := ⟨[], by unfold rOver; rw [if_pos cm]⟩
          obtain ⟨l0, hl0⟩ := hno
          have KR := Lib.hid (fun A ca R cr B cb C cc w hA hR => kMany (L := [(B, cb, b), (C, cc, c)]) ((hrow B cb C cc).trans hl0) HEa.out A ca R cr (by show 2 ≤ maxLen; unfold maxLen; omega) (hlit B cb C cc) w hA hR)
          obtain ⟨q, HQC⟩ : ∃ q, Hid (rCheck m = q) := ⟨_, Lib.hid rfl⟩
          rw [HQC.out] at cm KR
          have hq : ((q : Int) != 0) = true := bne_iff_ne.2 (by omega)
          have hq2 : ((q : Int) == 0) = false := beq_eq_false_iff_ne.2 (by omega)
          clear cm h2 h3 za hva hna oka okb okc hbc hv hnb hx hy hab hlb2 hlc2 hm hrow hlit mi hl0
          go_enter Try.func7, Try.ntmps7
          go_wp2_with fail
          refine (GWa.out _ HA.out).mono ?_
          rintro e w1 ⟨rfl, hb⟩
          have HW1 : Hid (Below w.heap.size w w1) := HW0.out.trans (hb.mono HW0.out.size)
          replace HA := Lib.hid (HA.out.below hb)
          replace HB := Lib.hid (HB.out.below hb)
          replace HC := Lib.hid (HC.out.below hb)
          clear hb
          go_wp2_with fail
          refine (GWb.out _ HB.out).mono ?_
          rintro e w2 ⟨rfl, hb⟩
          have HW2 : Hid (Below w.heap.size w w2) := HW1.out.trans (hb.mono HW1.out.size)
          replace HA := Lib.hid (HA.out.below hb)
          replace HB := Lib.hid (HB.out.below hb)
          replace HC := Lib.hid (HC.out.below hb)
          clear hb
          go_wp2_with fail
          refine (GWc.out _ HC.out).mono ?_
          rintro e w3 ⟨rfl, hb⟩
          have HW3 : Hid (Below w.heap.size w w3) := HW2.out.trans (hb.mono HW2.out.size)
          replace HA := Lib.hid (HA.out.below hb)
          replace HB := Lib.hid (HB.out.below hb)
          replace HC := Lib.hid (HC.out.below hb)
          clear hb
          go_wp2_with fail
          refine (KD1.out _ _ _ HA.out).mono ?_
          rintro e w4 ⟨rfl, hb⟩
          have HW4 : Hid (Below w.heap.size w w4) := HW3.out.trans (hb.mono HW3.out.size)
          replace HA := Lib.hid (HA.out.below hb)
          replace HB := Lib.hid (HB.out.below hb)
          replace HC := Lib.hid (HC.out.below hb)
          clear hb
          go_wp2_with fail
          refine (KD2.out _ _ _ HB.out).mono ?_
          rintro e w5 ⟨rfl, hb⟩
          have HW5 : Hid (Below w.heap.size w w5) := HW4.out.trans (hb.mono HW4.out.size)
          replace HA := Lib.hid (HA.out.below hb)
          replace HB := Lib.hid (HB.out.below hb)
          replace HC := Lib.hid (HC.out.below hb)
          clear hb
          go_wp2_with fail
          refine (KD3.out _ _ _ HC.out).mono ?_
          rintro e w6 ⟨rfl, hb⟩
          have HW6 : Hid (Below w.heap.size w w6) := HW5.out.trans (hb.mono HW5.out.size)
          replace HA := Lib.hid (HA.out.below hb)
          replace HB := Lib.hid (HB.out.below hb)
          replace HC := Lib.hid (HC.out.below hb)
          clear hb
          go_wp2_with fail
          have HBL := Lib.hid ((Below.refl w6.heap.size w6).alloc (Nat.le_refl _) (Obj.cells #[.slice B b.length cb, .slice C c.length cc] 22))
          have HR := Lib.hid (rows_two 22 (cb := cb) (cc := cc) HB.out HC.out)
          refine (KR.out A ca _ 2 B cb C cc _ (HA.out.below HBL.out) HR.out).mono ?_
          rintro e w7 ⟨⟨⟨A1, c1, rfl, hk⟩, hh⟩, hb⟩
          have hb2 : Below w6.heap.size w6 w7 := HBL.out.trans (hb.mono HBL.out.size)
          have HW7 : Hid (Below w.heap.size w w7) := HW6.out.trans (hb2.mono HW6.out.size)
          replace HA := Lib.hid (HA.out.below hb2)
          replace HB := Lib.hid (HB.out.below hb2)
          replace HC := Lib.hid (HC.out.below hb2)
          have HPA := Lib.hid hk
          have HHP := Lib.hid hh
          clear hk hh
          clear hb hb2 HBL HR
          go_wp2_with fail
          refine (KM.out _ _ _ _ _ HA.out HB.out).mono ?_
          rintro e w8 ⟨⟨⟨A2, c2, rfl, hk⟩, hh⟩, hb⟩
          have HW8 : Hid (Below w.heap.size w w8) := HW7.out.trans (hb.mono HW7.out.size)
          replace HA := Lib.hid (HA.out.below hb)
          replace HB := Lib.hid (HB.out.below hb)
          replace HC := Lib.hid (HC.out.below hb)
          replace HPA := Lib.hid (HPA.out.below hb)
          have HMA := Lib.hid hk
          have HHM := Lib.hid hh
          clear hk hh
          clear hb
          go_wp2_with fail
          refine (kCheck HQC.out HHM.out _ _ _ HMA.out).mono ?_
          rintro e w9 ⟨rfl, hb⟩
          have HW9 : Hid (Below w.heap.size w w9) := HW8.out.trans (hb.mono HW8.out.size)
          replace HA := Lib.hid (HA.out.below hb)
          replace HB := Lib.hid (HB.out.below hb)
          replace HC := Lib.hid (HC.out.below hb)
          replace HPA := Lib.hid (HPA.out.below hb)
          replace HMA := Lib.hid (HMA.out.below hb)
          clear hb
          go_wp2_with fail
          refine (GA.out _).mono ?_
          rintro e w10 ⟨rfl, hb⟩
          have HW10 : Hid (Below w.heap.size w w10) := HW9.out.trans (hb.mono HW9.out.size)
          replace HA := Lib.hid (HA.out.below hb)
          replace HB := Lib.hid (HB.out.below hb)
          replace HC := Lib.hid (HC.out.below hb)
          replace HPA := Lib.hid (HPA.out.below hb)
          replace HMA := Lib.hid (HMA.out.below hb)
          clear hb
          go_wp2
          go_ret
          exact ⟨rfl, HW10.out⟩
      · have hq : ((E3 : Int) != 0) = true := bne_iff_ne.2 (by omega)
        clear e3
        subst e1 e2
        go_enter Try.func7, Try.ntmps7
        go_wp2_with fail
        refine (GWa.out _ HA.out).mono ?_
        rintro e w1 ⟨rfl, hb⟩
        have HW1 : Hid (Below w.heap.size w w1) := HW0.out.trans (hb.mono HW0.out.size)
        replace HA := Lib.hid (HA.out.below hb)
        replace HB := Lib.hid (HB.out.below hb)
        replace HC := Lib.hid (HC.out.below hb)
        clear hb
        go_wp2_with fail
        refine (GWb.out _ HB.out).mono ?_
        rintro e w2 ⟨rfl, hb⟩
        have HW2 : Hid (Below w.heap.size w w2) := HW1.out.trans (hb.mono HW1.out.size)
        replace HA := Lib.hid (HA.out.below hb)
        replace HB := Lib.hid (HB.out.below hb)
        replace HC := Lib.hid (HC.out.below hb)
        clear hb
        go_wp2_with fail
        refine (GWc.out _ HC.out).mono ?_
        rintro e w3 ⟨rfl, hb⟩
        have HW3 : Hid (Below w.heap.size w w3) := HW2.out.trans (hb.mono HW2.out.size)
        replace HA := Lib.hid (HA.out.below hb)
        replace HB := Lib.hid (HB.out.below hb)
        replace HC := Lib.hid (HC.out.below hb)
        clear hb
        go_wp2_with fail
        refine (KD1.out _ _ _ HA.out).mono ?_
        rintro e w4 ⟨rfl, hb⟩
        have HW4 : Hid (Below w.heap.size w w4) := HW3.out.trans (hb.mono HW3.out.size)
        replace HA := Lib.hid (HA.out.below hb)
        replace HB := Lib.hid (HB.out.below hb)
        replace HC := Lib.hid (HC.out.below hb)
        clear hb
        go_wp2_with fail
        refine (KD2.out _ _ _ HB.out).mono ?_
        rintro e w5 ⟨rfl, hb⟩
        have HW5 : Hid (Below w.heap.size w w5) := HW4.out.trans (hb.mono HW4.out.size)
        replace HA := Lib.hid (HA.out.below hb)
        replace HB := Lib.hid (HB.out.below hb)
        replace HC := Lib.hid (HC.out.below hb)
        clear hb
        go_wp2_with fail
        refine (KD3.out _ _ _ HC.out).mono ?_
        rintro e w6 ⟨rfl, hb⟩
        have HW6 : Hid (Below w.heap.size w w6) := HW5.out.trans (hb.mono HW5.out.size)
        replace HA := Lib.hid (HA.out.below hb)
        replace HB := Lib.hid (HB.out.below hb)
        replace HC := Lib.hid (HC.out.below hb)
        clear hb
        go_wp2_with fail
        refine (GA.out _).mono ?_
        rintro e w7 ⟨rfl, hb⟩
        have HW7 : Hid (Below w.heap.size w w7) := HW6.out.trans (hb.mono HW6.out.size)
        replace HA := Lib.hid (HA.out.below hb)
        replace HB := Lib.hid (HB.out.below hb)
        replace HC := Lib.hid (HC.out.below hb)
        clear hb
        go_wp2
        go_ret
        exact ⟨rfl, HW7.out⟩
    · have hq : ((E2 : Int) != 0) = true := bne_iff_ne.2 (by omega)
      clear e2
      subst e1
      go_enter Try.func7, Try.ntmps7
      go_wp2_with fail
      refine (GWa.out _ HA.out).mono ?_
      rintro e w1 ⟨rfl, hb⟩
      have HW1 : Hid (Below w.heap.size w w1) := HW0.out.trans (hb.mono HW0.out.size)
      replace HA := Lib.hid (HA.out.below hb)
      replace HB := Lib.hid (HB.out.below hb)
      replace HC := Lib.hid (HC.out.below hb)
      clear hb
      go_wp2_with fail
      refine (GWb.out _ HB.out).mono ?_
      rintro e w2 ⟨rfl, hb⟩
      have HW2 : Hid (Below w.heap.size w w2) := HW1.out.trans (hb.mono HW1.out.size)
      replace HA := Lib.hid (HA.out.below hb)
      replace HB := Lib.hid (HB.out.below hb)
      replace HC := Lib.hid (HC.out.below hb)
      clear hb
      go_wp2_with fail
      refine (GWc.out _ HC.out).mono ?_
      rintro e w3 ⟨rfl, hb⟩
      have HW3 : Hid (Below w.heap.size w w3) := HW2.out.trans (hb.mono HW2.out.size)
      replace HA := Lib.hid (HA.out.below hb)
      replace HB := Lib.hid (HB.out.below hb)
      replace HC := Lib.hid (HC.out.below hb)
      clear hb
      go_wp2_with fail
      refine (KD1.out _ _ _ HA.out).mono ?_
      rintro e w4 ⟨rfl, hb⟩
      have HW4 : Hid (Below w.heap.size w w4) := HW3.out.trans (hb.mono HW3.out.size)
      replace HA := Lib.hid (HA.out.below hb)
      replace HB := Lib.hid (HB.out.below hb)
      replace HC := Lib.hid (HC.out.below hb)
      clear hb
      go_wp2_with fail
      refine (KD2.out _ _ _ HB.out).mono ?_
      rintro e w5 ⟨rfl, hb⟩
      have HW5 : Hid (Below w.heap.size w w5) := HW4.out.trans (hb.mono HW4.out.size)
      replace HA := Lib.hid (HA.out.below hb)
      replace HB := Lib.hid (HB.out.below hb)
      replace HC := Lib.hid (HC.out.below hb)
      clear hb
      go_wp2_with fail
      refine (KD3.out _ _ _ HC.out).mono ?_
      rintro e w6 ⟨rfl, hb⟩
      have HW6 : Hid (Below w.heap.size w w6) := HW5.out.trans (hb.mono HW5.out.size)
      replace HA := Lib.hid (HA.out.below hb)
      replace HB := Lib.hid (HB.out.below hb)
      replace HC := Lib.hid (HC.out.below hb)
      clear hb
      go_wp2_with fail
      refine (GA.out _).mono ?_
      rintro e w7 ⟨rfl, hb⟩
      have HW7 : Hid (Below w.heap.size w w7) := HW6.out.trans (hb.mono HW6.out.size)
      replace HA := Lib.hid (HA.out.below hb)
      replace HB := Lib.hid (HB.out.below hb)
      replace HC := Lib.hid (HC.out.below hb)
      clear hb
      go_wp2
      go_ret
      exact ⟨rfl, HW7.out⟩
  · have hq : ((E1 : Int) != 0) = true := bne_iff_ne.2 (by omega)
    clear e1
    go_enter Try.func7, Try.ntmps7
    go_wp2_with fail
    refine (GWa.out _ HA.out).mono ?_
    rintro e w1 ⟨rfl, hb⟩
    have HW1 : Hid (Below w.heap.size w w1) := HW0.out.trans (hb.mono HW0.out.size)
    replace HA := Lib.hid (HA.out.below hb)
    replace HB := Lib.hid (HB.out.below hb)
    replace HC := Lib.hid (HC.out.below hb)
    clear hb
    go_wp2_with fail
    refine (GWb.out _ HB.out).mono ?_
    rintro e w2 ⟨rfl, hb⟩
    have HW2 : Hid (Below w.heap.size w w2) := HW1.out.trans (hb.mono HW1.out.size)
    replace HA := Lib.hid (HA.out.below hb)
    replace HB := Lib.hid (HB.out.below hb)
    replace HC := Lib.hid (HC.out.below hb)
    clear hb
    go_wp2_with fail
    refine (GWc.out _ HC.out).mono ?_
    rintro e w3 ⟨rfl, hb⟩
    have HW3 : Hid (Below w.heap.size w w3) := HW2.out.trans (hb.mono HW2.out.size)
    replace HA := Lib.hid (HA.out.below hb)
    replace HB := Lib.hid (HB.out.below hb)
    replace HC := Lib.hid (HC.out.below hb)
    clear hb
    go_wp2_with fail
    refine (KD1.out _ _ _ HA.out).mono ?_
    rintro e w4 ⟨rfl, hb⟩
    have HW4 : Hid (Below w.heap.size w w4) := HW3.out.trans (hb.mono HW3.out.size)
    replace HA := Lib.hid (HA.out.below hb)
    replace HB := Lib.hid (HB.out.below hb)
    replace HC := Lib.hid (HC.out.below hb)
    clear hb
    go_wp2_with fail
    refine (KD2.out _ _ _ HB.out).mono ?_
    rintro e w5 ⟨rfl, hb⟩
    have HW5 : Hid (Below w.heap.size w w5) := HW4.out.trans (hb.mono HW4.out.size)
    replace HA := Lib.hid (HA.out.below hb)
    replace HB := Lib.hid (HB.out.below hb)
    replace HC := Lib.hid (HC.out.below hb)
    clear hb
    go_wp2_with fail
    refine (KD3.out _ _ _ HC.out).mono ?_
    rintro e w6 ⟨rfl, hb⟩
    have HW6 : Hid (Below w.heap.size w w6) := HW5.out.trans (hb.mono HW5.out.size)
    replace HA := Lib.hid (HA.out.below hb)
    replace HB := Lib.hid (HB.out.below hb)
    replace HC := Lib.hid (HC.out.below hb)
    clear hb
    go_wp2_with fail
    refine (GA.out _).mono ?_
    rintro e w7 ⟨rfl, hb⟩
    have HW7 : Hid (Below w.heap.size w w7) := HW6.out.trans (hb.mono HW6.out.size)
    replace HA := Lib.hid (HA.out.below hb)
    replace HB := Lib.hid (HB.out.below hb)
    replace HC := Lib.hid (HC.out.below hb)
    clear hb
    go_wp2
    go_ret
    exact ⟨rfl, HW7.out⟩
end Go.Proofs.Ytakdcfjlhpponaa

/- Behind a row of edits an edit is what it is behind their one: it answers true and changes nothing. No condition. -/
namespace Go.Proofs.Ytakdcfjlhpponaa
open Go.ChangeShapes Go.WideShapes Go.ChangeAt Go.RowKit

theorem trodAll_five {H : Type} {enc : TypeId × Value → H} {P : Program} {w : World} {base : Nat} {spare : Nat → Bool} {held : Bool} {t t' t'' t3 t4 : TypeId} {args : Array Value} {ds : List (DataW H)} {ps : List MemPlace} (h : DataW.TrodAll enc P w base spare held [t, t', t'', t3, t4] args.toList ds ps) :
    ∃ v v' v'' v3 v4 d d' d'' d3 d4 p p' p'' p3 p4, args = #[v, v', v'', v3, v4] ∧ ds = [d, d', d'', d3, d4] ∧ ps = p ++ p' ++ p'' ++ p3 ++ p4 ∧ DataW.Trod enc P w base spare held t v d p ∧ DataW.Trod enc P w base spare held t' v' d' p' ∧ DataW.Trod enc P w base spare held t'' v'' d'' p'' ∧ DataW.Trod enc P w base spare held t3 v3 d3 p3 ∧ DataW.Trod enc P w base spare held t4 v4 d4 p4 := by
  obtain ⟨v, vs, d, ds', p, q, hargs, rfl, rfl, hd, hrest⟩ := trodAll_cons h
  obtain ⟨v', vs', d', ds'', p', q', rfl, rfl, rfl, hd', hrest'⟩ := trodAll_cons hrest
  obtain ⟨v'', vs'', d'', ds''', p'', q'', rfl, rfl, rfl, hd'', hrest''⟩ := trodAll_cons hrest'
  obtain ⟨v3, vs3, d3, ds3, p3, q3, rfl, rfl, rfl, hd3, hrest3⟩ := trodAll_cons hrest''
  obtain ⟨v4, vs4, d4, ds4, p4, q4, rfl, rfl, rfl, hd4, hrest4⟩ := trodAll_cons hrest3
  obtain ⟨rfl, rfl, rfl⟩ := trodAll_nil hrest4
  exact ⟨v, v', v'', v3, v4, d, d', d'', d3, d4, p, p', p'', p3, p4, by cases args; simp_all, rfl, by simp, hd, hd', hd'', hd3, hd4⟩

set_option maxRecDepth 100000 in
theorem xformMany_lifted (os : Os) (started : os.Started) (H : Type) (enc : TypeId × Value → H) :
    ReturnsInHanded {} Try.checked os 7 .any (Rows.xformManySpec.pre6 enc Try.prog Try.f7 Rows.xformManyRow.domain false) (Rows.xformManySpec.post enc Try.prog Try.f7 false true false false) := by
  refine returnsInHanded_of_change (C := Try.checked) law_own started (by kernel_rfl) Try.func7
    (ChangeSpec.witness6 (enc := enc) (C := Try.checked) false ⟨#[], #[.string { data := #[] }, .slice none 0 0, .slice none 0 0, .slice none 0 0, .bool false], []⟩ 8 (by kernel_rfl) (by kernel_rfl) (by kernel_rfl) (by kernel_rfl)) ?_
  intro W base args ds gs before hval0 hW _ _
  have hval : ∀ (j : Nat) t v, Try.f7.params[j]? = some t → args[j]? = some v → Value.okWide Try.prog W .any base t v := hval0
  have hW' := hW
  obtain ⟨p, q, hA0, hV, rfl, _, _⟩ := hW
  have hlt : ∀ x ∈ p ++ q, x.block < W.heap.size := fun x hx => hW'.lt x hx
  have hA : DataW.TrodAll enc Try.prog W 0 (fun _ => true) true Try.f7.params.toList args.toList ds p := hA0
  rw [Try.params7] at hA hval
  obtain ⟨v0, v1, v2, v3, v4, d0, d1, d2, d3, d4, p0, p1, p2, p3, p4, rfl, rfl, rfl, h0, h1, h2, h3, h4⟩ := trodAll_five hA
  obtain ⟨rfl, rfl⟩ := trodVars_none hV
  obtain ⟨s0, rfl, rfl, rfl, hsz0⟩ := Go.ChangeMaps.open_string Try.underlying9 (hval 0 9 v0 rfl rfl) h0
  obtain ⟨t0, hb0, rfl⟩ := bstr_any s0
  have hl0 : t0.length ≤ maxLen := by rw [bstr_size] at hsz0; exact hsz0
  obtain ⟨A1, l1, c1, rfl, hat1, hg1, hlc1, hc1⟩ := open_comps (hval 1 22 v1 rfl rfl) h1 (fun x hx => hlt x (by simp [hx]))
  have hl1 : l1.length ≤ maxLen := by omega
  obtain ⟨A2, l2, c2, rfl, hat2, hg2, hlc2, hc2⟩ := open_comps (hval 2 22 v2 rfl rfl) h2 (fun x hx => hlt x (by simp [hx]))
  have hl2 : l2.length ≤ maxLen := by omega
  obtain ⟨A3, l3, c3, rfl, hat3, hg3, hlc3, hc3⟩ := open_comps (hval 3 22 v3 rfl rfl) h3 (fun x hx => hlt x (by simp [hx]))
  have hl3 : l3.length ≤ maxLen := by omega
  obtain ⟨f4, rfl, rfl, rfl⟩ := open_bool Try.underlying4 (hval 4 4 v4 rfl rfl) h4
  clear hA0 hval0
  refine (xformMany_any t0 A1 l1 c1 A2 l2 c2 A3 l3 c3 f4 hb0 hl0 hl1 hg1 hl2 hg2 hl3 hg3 W ⟨hat1, hlc1⟩ ⟨hat2, hlc2⟩ ⟨hat3, hlc3⟩).mono fun e W' ⟨he, hb⟩ => ?_
  exact ⟨_, he, law_post law_laid (by kernel_rfl) (by kernel_rfl) Try.underlying4 rfl hW' rfl hb⟩

theorem xformMany_holds : Rows.XformManySaid :=
  OpenClaim.holds_of_wide 7 Try.f7 rfl rfl rfl rfl rfl rfl rfl ⟨rfl, rfl, rfl, rfl, rfl⟩ rfl rfl rfl rfl rfl (by kernel_rfl) Try.func7 (by kernel_rfl)
    (of_decide_eq_true (by kernel_rfl)) (by unfold Func.isWrapper; first | (rw [if_pos (by decide +kernel)]; kernel_rfl) | (rw [if_neg (by decide +kernel)]; exact ⟨rfl, rfl⟩))
    (fun os started H enc _ => xformMany_lifted os started H enc)
end Go.Proofs.Ytakdcfjlhpponaa
