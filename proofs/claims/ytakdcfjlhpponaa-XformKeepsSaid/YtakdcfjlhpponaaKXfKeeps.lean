/- XformKeeps: behind another edit each character that either put in stands there once, those that neither deleted keep their order, and those that one deleted are gone: it answers true and changes nothing. No condition. (Merged of 2 texts.) -/
import Derived.Test.YtakdcfjlhpponaaKXk
import Derived.Test.YtakdcfjlhpponaaKNm
import Derived.Test.YtakdcfjlhpponaaKGn
import Derived.ChangeMaps5
/- XformKeeps, walked: behind another edit each character that either put in stands there once, those that neither deleted keep their order, and those that one deleted are gone. Condition: what memory may hold. -/
namespace Go.Proofs.Ytakdcfjlhpponaa
open Go.RowKit Go.Deep

theorem msk_lab : ∀ (l : List CompV) (nx : Nat), msk (lab l nx) = msk l
  | [], _ => rfl
  | c :: l, nx => by
    rw [lab_cons]
    by_cases h : c.kind = 2
    · rw [if_pos h, msk_two (show (CompV.mk c.kind c.n (E (List.range' nx (cps c.text).length))).kind = 2 from h), msk_two h, msk_lab l]
    · rw [if_neg h, msk, msk, msk_lab l]
/-- All that the law leans on: both edits with characters of their own, one behind the other. -/
structure KeepsAll (f : Bool) (a b X Y P : List CompV) (N : Nat) (zs : List Nat) : Prop where
  okX : Ok X
  okY : Ok Y
  over : rOver f X Y = (P, 0)
  inY : inS Y = N
  inP : inS P = outS Y
  does : rCheck P = 0 → ed P (ed Y (List.range' 1000 N)) = zs
  keeps : Keeps2 3000 9000 ⟨0, 3000, 9000⟩ zs (3000 + insN a) (9000 + insN b) (kb (msk a) (msk b))
theorem keeps_all (f : Bool) {a b : List CompV} (ha : Ok a) (hb : Ok b) {N : Nat} (hN : N ≤ 200) (ea : inS a = N) (eb : inS b = N) : ∃ P zs, KeepsAll f a b (lab a 3000) (lab b 9000) P N zs := by
  have h1 := insN_out a ha.wh
  have h2 := ha.out1
  have h3 := insN_out b hb.wh
  have h4 := hb.out1
  have okX := lab_ok ha (nx := 3000) (by omega) (by omega)
  have okY := lab_ok hb (nx := 9000) (by omega) (by omega)
  obtain ⟨_, lX, iX, sX, _, _⟩ := lab_all a 3000 0 ha.nrm.ch (by omega) (by omega)
  obtain ⟨_, lY, iY, sY, _, _⟩ := lab_all b 9000 0 hb.nrm.ch (by omega) (by omega)
  obtain ⟨P, hP⟩ := over_is f okX okY (by rw [sX, sY, ea, eb])
  obtain ⟨o, ho, _, he⟩ := hP.raw
  have hk := keeps_two (T1 := 3000) (T2 := 9000) (by omega) ho 1000 N ⟨0, 3000, 9000⟩ okX.wh okY.wh (by rw [sX, ea]) (by rw [sY, eb]) lX lY (by show 0 < 1000; omega) (by omega) (by show 3000 ≤ 3000; omega) (by show 3000 + insN _ ≤ 9000; rw [iX]; omega) (by show 9000 ≤ 9000; omega)
  rw [iX, iY, msk_lab, msk_lab] at hk
  exact ⟨P, _, okX, okY, hP.over, by rw [sY, eb], hP.ins, fun _ => he _, hk⟩

set_option maxHeartbeats 8000000 in
set_option maxRecDepth 100000 in
theorem xformKeeps_any (n : Int) (A : Option Addr) (a : List CompV) (ca : Nat) (B : Option Addr) (b : List CompV) (cb : Nat) (f : Bool) (hn : -9223372036854775808 ≤ n ∧ n ≤ 9223372036854775807) (hla : a.length ≤ maxLen) (hga : ∀ y ∈ a, y.Good) (hlb : b.length ≤ maxLen) (hgb : ∀ y ∈ b, y.Good) (w : World) (hA : CompsC w A ca a) (hB : CompsC w B cb b) :
    Calls Try.prog 5 #[.int .i64 n, .slice A a.length ca, .slice B b.length cb, .bool f] w fun e w' => e = .returned (.bool true) ∧ Below w.heap.size w w' := by
  have GA := Lib.hid (fun w => xfAwake_any w)
  have GWa := Lib.hid (fun w h => alikeComps_c 1000 ca hla hga w (A := A) h)
  have GWb := Lib.hid (fun w h => alikeComps_c 1000 cb hlb hgb w (A := B) h)
  have HA := Lib.hid hA
  have HB := Lib.hid hB
  clear hA hB hla hlb
  obtain ⟨Ta, HTa⟩ : ∃ x, Hid (compsWeight 1000 a = x) := ⟨_, rfl⟩
  obtain ⟨Tb, HTb⟩ : ∃ x, Hid (compsWeight 1000 b = x) := ⟨_, rfl⟩
  rw [HTa.out] at GWa
  rw [HTb.out] at GWb
  have HW0 := Lib.hid (Below.refl w.heap.size w)
  by_cases g1 : n < 0
  · clear hga hgb
    go_enter Try.func5, Try.ntmps5
    go_wp2_with fail
    refine (GA.out _).mono ?_
    rintro e w1 ⟨rfl, hb⟩
    have HW1 : Hid (Below w.heap.size w w1) := HW0.out.trans (hb.mono HW0.out.size)
    replace HA := Lib.hid (HA.out.below hb)
    replace HB := Lib.hid (HB.out.below hb)
    clear hb
    go_wp2
    go_ret
    exact ⟨rfl, HW1.out⟩
  by_cases g2 : 200 < n
  · clear hga hgb
    go_enter Try.func5, Try.ntmps5
    go_wp2_with fail
    refine (GA.out _).mono ?_
    rintro e w1 ⟨rfl, hb⟩
    have HW1 : Hid (Below w.heap.size w w1) := HW0.out.trans (hb.mono HW0.out.size)
    replace HA := Lib.hid (HA.out.below hb)
    replace HB := Lib.hid (HB.out.below hb)
    clear hb
    go_wp2
    go_ret
    exact ⟨rfl, HW1.out⟩
  obtain ⟨N, rfl⟩ : ∃ N : Nat, n = (N : Int) := ⟨n.toNat, by omega⟩
  have hN : N ≤ 200 := by omega
  clear hn g1 g2
  by_cases g1 : 1000 < Ta
  · clear hga hgb
    go_enter Try.func5, Try.ntmps5
    go_wp2_with fail
    refine (GWa.out _ HA.out).mono ?_
    rintro e w1 ⟨rfl, hb⟩
    have HW1 : Hid (Below w.heap.size w w1) := HW0.out.trans (hb.mono HW0.out.size)
    replace HA := Lib.hid (HA.out.below hb)
    replace HB := Lib.hid (HB.out.below hb)
    clear hb
    go_wp2_with fail
    refine (GA.out _).mono ?_
    rintro e w2 ⟨rfl, hb⟩
    have HW2 : Hid (Below w.heap.size w w2) := HW1.out.trans (hb.mono HW1.out.size)
    replace HA := Lib.hid (HA.out.below hb)
    replace HB := Lib.hid (HB.out.below hb)
    clear hb
    go_wp2
    go_ret
    exact ⟨rfl, HW2.out⟩
  by_cases g2 : 1000 < Tb
  · clear hga hgb
    go_enter Try.func5, Try.ntmps5
    go_wp2_with fail
    refine (GWa.out _ HA.out).mono ?_
    rintro e w1 ⟨rfl, hb⟩
    have HW1 : Hid (Below w.heap.size w w1) := HW0.out.trans (hb.mono HW0.out.size)
    replace HA := Lib.hid (HA.out.below hb)
    replace HB := Lib.hid (HB.out.below hb)
    clear hb
    go_wp2_with fail
    refine (GWb.out _ HB.out).mono ?_
    rintro e w2 ⟨rfl, hb⟩
    have HW2 : Hid (Below w.heap.size w w2) := HW1.out.trans (hb.mono HW1.out.size)
    replace HA := Lib.hid (HA.out.below hb)
    replace HB := Lib.hid (HB.out.below hb)
    clear hb
    go_wp2_with fail
    refine (GA.out _).mono ?_
    rintro e w3 ⟨rfl, hb⟩
    have HW3 : Hid (Below w.heap.size w w3) := HW2.out.trans (hb.mono HW2.out.size)
    replace HA := Lib.hid (HA.out.below hb)
    replace HB := Lib.hid (HB.out.below hb)
    clear hb
    go_wp2
    go_ret
    exact ⟨rfl, HW3.out⟩
  have HEa := Lib.hid (held_of hga (weight_spec 1000 (by omega) a (by rw [HTa.out]; omega)) (by omega))
  have HEb := Lib.hid (held_of hgb (weight_spec 1000 (by omega) b (by rw [HTb.out]; omega)) (by omega))
  clear hga hgb
  obtain ⟨qa, HQA⟩ : ∃ q, Hid (rCheck a = q) := ⟨_, Lib.hid rfl⟩
  obtain ⟨qb, HQB⟩ : ∃ q, Hid (rCheck b = q) := ⟨_, Lib.hid rfl⟩
  obtain ⟨na, HNA⟩ : ∃ q, Hid (rBase a = q) := ⟨_, Lib.hid rfl⟩
  obtain ⟨nb, HNB⟩ : ∃ q, Hid (rBase b = q) := ⟨_, Lib.hid rfl⟩
  by_cases z1 : qa = 0
  · by_cases z2 : qb = 0
    · by_cases z3 : na = (N : Int)
      · by_cases z4 : nb = (N : Int)
        · subst z1 z2 z3 z4
          have oka := ok_of HQA.out
          have okb := ok_of HQB.out
          have ha2 : inS a = N := by have := oka.base; have := HNA.out; omega
          have hb2 : inS b = N := by have := okb.base; have := HNB.out; omega
          have GNa := Lib.hid (fun A c w h => xfNamed_any 3000 (by omega) A c a oka HEa.out w h)
          have GNb := Lib.hid (fun A c w h => xfNamed_any 9000 (by omega) A c b okb HEb.out w h)
          have GBO := Lib.hid (fun w h1 h2 => xfGone_any N hN A ca a B cb b oka okb ha2 hb2 w h1 h2)
          obtain ⟨P, zs, hall⟩ := keeps_all f oka okb hN ha2 hb2
          have HIB : Hid (insN a ≤ 2000 ∧ insN b ≤ 2000) := by
            have h1 := insN_out a oka.wh
            have h2 := oka.out1
            have h3 := insN_out b okb.wh
            have h4 := okb.out1
            show _ ∧ _
            omega
          clear oka okb ha2 hb2
          obtain ⟨X, HX⟩ : ∃ x, Hid (lab a 3000 = x) := ⟨_, Lib.hid rfl⟩
          obtain ⟨Y, HY⟩ : ∃ x, Hid (lab b 9000 = x) := ⟨_, Lib.hid rfl⟩
          rw [HX.out, HY.out] at hall
          rw [HX.out] at GNa
          rw [HY.out] at GNb
          have HXH := Lib.hid (ok_held hall.okX)
          have HYH := Lib.hid (ok_held hall.okY)
          obtain ⟨ia, HIA⟩ : ∃ x, Hid (insN a = x) := ⟨_, Lib.hid rfl⟩
          obtain ⟨ib, HIBB⟩ : ∃ x, Hid (insN b = x) := ⟨_, Lib.hid rfl⟩
          obtain ⟨kbn, HKB⟩ : ∃ x, Hid (kb (msk a) (msk b) = x) := ⟨_, Lib.hid rfl⟩
          have hkeeps := hall.keeps
          rw [HIA.out, HIBB.out, HKB.out] at hkeeps
          rw [HIA.out, HIBB.out] at HIB
          rw [HIA.out] at GNa
          rw [HIBB.out] at GNb
          rw [HKB.out] at GBO
          have hvs : V (E (List.range' 1000 N)) (List.range' 1000 N) := V.mk (may_range (by omega) (by omega))
          have hd1 := does_ok hall.okY hvs (by rw [List.length_range', hall.inY])
          have hsm : (E (List.range' 1000 N)).length ≤ 1200 := by
            have := E_length_le4 (List.range' 1000 N)
            rw [List.length_range'] at this
            omega
          have KD1 := Lib.hid (fun A c w h => kDo hd1.2 hd1.1 hvs.lt (by omega) HYH.out A c w h)
          have KO := Lib.hid (fun A ca B cb w h1 h2 => kOver hall.over HXH.out HYH.out A ca B cb w h1 h2)
          have hvy : V (E (ed Y (List.range' 1000 N))) (ed Y (List.range' 1000 N)) := V.mk (ed_may Y _ hall.okY.wh hvs.may)
          have hly := ed_length Y (List.range' 1000 N) hall.okY.wh (by rw [List.length_range', hall.inY]; exact Nat.le_refl _)
          have hts := dTxt_small (E (List.range' 1000 N)) Y
          rw [hd1.2] at hts
          have HVY := Lib.hid hvy
          have HTS := Lib.hid hts
          have HINP : Hid ((ed Y (List.range' 1000 N)).length = inS P) := by show _ = _; rw [hly, hall.inP]
          have HZS := Lib.hid hall.does
          have HKEEPS := Lib.hid hkeeps
          clear hkeeps hall hd1 hsm hvy hly hts
          obtain ⟨S, HS⟩ : ∃ S, Hid (bstr (E (List.range' 1000 N)) = S) := ⟨_, Lib.hid rfl⟩
          rw [HS.out] at KD1
          obtain ⟨ts, HTSS⟩ : ∃ S, Hid (ed Y (List.range' 1000 N) = S) := ⟨_, Lib.hid rfl⟩
          rw [HTSS.out] at KD1 HVY HTS HINP HZS
          clear hvs
          by_cases cp : rCheck P = 0
          · have okp := ok_of cp
            have HCP := Lib.hid cp
            have hd2 := does_ok okp HVY.out HINP.out
            rw [HZS.out cp] at hd2
            have KD2 := Lib.hid (fun hh A c w h => kDo hd2.2 hd2.1 HTS.out.1 (by have := HTS.out.2; omega) (hh : Held1 P) A c w h)
            have hmz : ∀ v ∈ zs, May v := by rw [← HZS.out cp]; exact ed_may P _ okp.wh HVY.out.may
            have hvz : V (E zs) zs := V.mk hmz
            have hlz : zs.length ≤ 2000 := by rw [← HZS.out cp, ed_length P _ okp.wh (by rw [HINP.out]; exact Nat.le_refl _)]; exact okp.out1
            have hlE : (E zs).length ≤ 8000 := by have := E_length_le4 zs; omega
            have GP : Hid (∀ w, Calls Try.prog 21 #[.string (bstr (E zs))] w fun e w' => (∃ A c, e = .returned (.tuple #[.slice A zs.length c, .bool true]) ∧ IntsAt w' A (nz zs)) ∧ Below w.heap.size w w') := fun w => by
              refine (refPoints_any (E zs) hvz.lt (by omega) w).mono ?_
              rintro e w' ⟨⟨vs, hv, A, c, rfl, hi⟩ | ⟨hn, _⟩, hb⟩
              · obtain rfl := hv.uniq hvz
                rw [nz_length]
                exact ⟨⟨A, c, rfl, hi⟩, hb⟩
              · exact absurd ⟨_, hvz⟩ hn
            have HMZ := Lib.hid hmz
            clear cp okp hd2 hmz hvz hlE
            obtain ⟨Z, HZ⟩ : ∃ S, Hid (bstr (E zs) = S) := ⟨_, Lib.hid rfl⟩
            rw [HZ.out] at GP KD2
            go_enter Try.func5, Try.ntmps5
            go_wp2_with fail
            refine (GWa.out _ HA.out).mono ?_
            rintro e w1 ⟨rfl, hb⟩
            have HW1 : Hid (Below w.heap.size w w1) := HW0.out.trans (hb.mono HW0.out.size)
            replace HA := Lib.hid (HA.out.below hb)
            replace HB := Lib.hid (HB.out.below hb)
            clear hb
            go_wp2_with fail
            refine (GWb.out _ HB.out).mono ?_
            rintro e w2 ⟨rfl, hb⟩
            have HW2 : Hid (Below w.heap.size w w2) := HW1.out.trans (hb.mono HW1.out.size)
            replace HA := Lib.hid (HA.out.below hb)
            replace HB := Lib.hid (HB.out.below hb)
            clear hb
            go_wp2_with fail
            refine (kCheck HQA.out HEa.out _ _ _ HA.out).mono ?_
            rintro e w3 ⟨rfl, hb⟩
            have HW3 : Hid (Below w.heap.size w w3) := HW2.out.trans (hb.mono HW2.out.size)
            replace HA := Lib.hid (HA.out.below hb)
            replace HB := Lib.hid (HB.out.below hb)
            clear hb
            go_wp2_with fail
            refine (kCheck HQB.out HEb.out _ _ _ HB.out).mono ?_
            rintro e w4 ⟨rfl, hb⟩
            have HW4 : Hid (Below w.heap.size w w4) := HW3.out.trans (hb.mono HW3.out.size)
            replace HA := Lib.hid (HA.out.below hb)
            replace HB := Lib.hid (HB.out.below hb)
            clear hb
            go_wp2_with fail
            refine (kBase HNA.out HEa.out _ _ _ HA.out).mono ?_
            rintro e w5 ⟨rfl, hb⟩
            have HW5 : Hid (Below w.heap.size w w5) := HW4.out.trans (hb.mono HW4.out.size)
            replace HA := Lib.hid (HA.out.below hb)
            replace HB := Lib.hid (HB.out.below hb)
            clear hb
            go_wp2_with fail
            refine (kBase HNB.out HEb.out _ _ _ HB.out).mono ?_
            rintro e w6 ⟨rfl, hb⟩
            have HW6 : Hid (Below w.heap.size w w6) := HW5.out.trans (hb.mono HW5.out.size)
            replace HA := Lib.hid (HA.out.below hb)
            replace HB := Lib.hid (HB.out.below hb)
            clear hb
            go_wp2
            go_loopw [9, 10] (fun p i wr => ∃ k : Nat, k ≤ N ∧ i = .int .i64 k ∧ wr.ownsRow w6.heap.size 3 1 p (List.range' 1000 k).length (is64 (nz (List.range' 1000 k))) ∧ Below w6.heap.size w6 wr) (fun _ i _ => N - (intOf i).toNat)
            case atStart => exact ⟨0, Nat.zero_le _, rfl, by simpa [is64, nz] using World.ownsRow_nil _ _ _ _, Below.refl _ _⟩
            case round =>
              obtain ⟨k, hk, rfl, ho, hb⟩ := hrel
              have HO := Lib.hid ho
              have HBB := Lib.hid hb
              clear ho hb
              by_cases hlt : k < N
              · have hsz := HBB.out.size
                go_wp2_with (at_builtin
                             refine wpList_append_int rfl (.tmp 74) (.tmp 77) rfl w6.heap.size _ (List.range' 1000 k) rfl (HO.out.alloc _) wr.heap.size (1000 + k) rfl (by rw [cell_of_row _ _ _ _ _ _ (heap_alloc_new wr _)]; rfl) (by rw [List.length_range']; omega) (by simp; omega) ?_
                             intro v' w8 hown8 hgr8
                             have HO8 : Hid (w8.ownsRow w6.heap.size 3 1 v' (List.range' 1000 (k + 1)).length (is64 (nz (List.range' 1000 (k + 1))))) := by rw [List.range'_1_concat]; exact hown8
                             have HB8 : Hid (Below w6.heap.size w6 w8) := (HBB.out.alloc hsz _).grown hgr8 (by simp; omega) (fun k hk => (HO.out.lt k hk).1)
                             clear hown8 hgr8)
                go_wp2
                go_roundw
                case rel => exact ⟨k + 1, by omega, by go_num, HO8.out, HB8.out⟩
                case measure => simp [intOf]; omega
              · have hke : k = N := by omega
                subst hke
                obtain ⟨w7, hw7⟩ : ∃ x, x = wr := ⟨wr, rfl⟩
                subst hw7
                obtain ⟨A9, c9, rfl⟩ := own_slice HO.out
                have HI1 : Hid (IntsAt w7 A9 (nz (List.range' 1000 k))) := IntsAt.of_own HO.out (by rw [nz_length])
                have HW7 : Hid (Below w.heap.size w w7) := HW6.out.trans (HBB.out.mono HW6.out.size)
                replace HA := Lib.hid (HA.out.below HBB.out)
                replace HB := Lib.hid (HB.out.below HBB.out)
                have GT := Lib.hid (fun c w h => text_range (A := A9) (n := 1000) (k := k) c (by omega) (may_range (by omega) (by omega)) w h)
                rw [List.length_range']
                rw [HS.out] at GT
                clear HBB HO
                go_wp2_with fail
                refine (GT.out _ _ HI1.out).mono ?_
                rintro e w8 ⟨rfl, hb⟩
                have HW8 : Hid (Below w.heap.size w w8) := HW7.out.trans (hb.mono HW7.out.size)
                replace HA := Lib.hid (HA.out.below hb)
                replace HB := Lib.hid (HB.out.below hb)
                clear hb
                go_wp2_with fail
                refine (GNa.out _ _ _ HA.out).mono ?_
                rintro e w9 ⟨⟨A1, c1, rfl, hk⟩, hb⟩
                have HW9 : Hid (Below w.heap.size w w9) := HW8.out.trans (hb.mono HW8.out.size)
                replace HA := Lib.hid (HA.out.below hb)
                replace HB := Lib.hid (HB.out.below hb)
                have HXA := Lib.hid hk
                clear hk
                clear hb
                go_wp2_with fail
                refine (GNb.out _ _ _ HB.out).mono ?_
                rintro e w10 ⟨⟨A2, c2, rfl, hk⟩, hb⟩
                have HW10 : Hid (Below w.heap.size w w10) := HW9.out.trans (hb.mono HW9.out.size)
                replace HA := Lib.hid (HA.out.below hb)
                replace HB := Lib.hid (HB.out.below hb)
                replace HXA := Lib.hid (HXA.out.below hb)
                have HYA := Lib.hid hk
                clear hk
                clear hb
                go_wp2_with fail
                refine (KD1.out _ _ _ HYA.out).mono ?_
                rintro e w11 ⟨rfl, hb⟩
                have HW11 : Hid (Below w.heap.size w w11) := HW10.out.trans (hb.mono HW10.out.size)
                replace HA := Lib.hid (HA.out.below hb)
                replace HB := Lib.hid (HB.out.below hb)
                replace HXA := Lib.hid (HXA.out.below hb)
                replace HYA := Lib.hid (HYA.out.below hb)
                clear hb
                go_wp2_with fail
                refine (KO.out _ _ _ _ _ HXA.out HYA.out).mono ?_
                rintro e w12 ⟨⟨⟨A3, c3, rfl, hk⟩, hh⟩, hb⟩
                have HW12 : Hid (Below w.heap.size w w12) := HW11.out.trans (hb.mono HW11.out.size)
                replace HA := Lib.hid (HA.out.below hb)
                replace HB := Lib.hid (HB.out.below hb)
                replace HXA := Lib.hid (HXA.out.below hb)
                replace HYA := Lib.hid (HYA.out.below hb)
                have HPA := Lib.hid hk
                have HPH := Lib.hid hh
                clear hk hh
                clear hb
                go_wp2_with fail
                refine (kCheck HCP.out HPH.out _ _ _ HPA.out).mono ?_
                rintro e w13 ⟨rfl, hb⟩
                have HW13 : Hid (Below w.heap.size w w13) := HW12.out.trans (hb.mono HW12.out.size)
                replace HA := Lib.hid (HA.out.below hb)
                replace HB := Lib.hid (HB.out.below hb)
                replace HXA := Lib.hid (HXA.out.below hb)
                replace HYA := Lib.hid (HYA.out.below hb)
                replace HPA := Lib.hid (HPA.out.below hb)
                clear hb
                go_wp2_with fail
                refine (KD2.out HPH.out _ _ _ HPA.out).mono ?_
                rintro e w14 ⟨rfl, hb⟩
                have HW14 : Hid (Below w.heap.size w w14) := HW13.out.trans (hb.mono HW13.out.size)
                replace HA := Lib.hid (HA.out.below hb)
                replace HB := Lib.hid (HB.out.below hb)
                replace HXA := Lib.hid (HXA.out.below hb)
                replace HYA := Lib.hid (HYA.out.below hb)
                replace HPA := Lib.hid (HPA.out.below hb)
                clear hb
                go_wp2_with fail
                refine (GP.out _).mono ?_
                rintro e w15 ⟨⟨A4, c4, rfl, hk⟩, hb⟩
                have HW15 : Hid (Below w.heap.size w w15) := HW14.out.trans (hb.mono HW14.out.size)
                replace HA := Lib.hid (HA.out.below hb)
                replace HB := Lib.hid (HB.out.below hb)
                replace HXA := Lib.hid (HXA.out.below hb)
                replace HYA := Lib.hid (HYA.out.below hb)
                replace HPA := Lib.hid (HPA.out.below hb)
                have HIZ := Lib.hid hk
                clear hk
                clear hb
                go_wp2
                go_loopw [8, 25, 26, 27, 28, 29] (fun rs la iv kv kt jv wr => ∃ j : Nat, j ≤ zs.length ∧ jv = .int .i64 j ∧ rs = .bool false ∧ la = .int .i64 (((zs.take j).foldl (snStep 3000 9000) ⟨0, 3000, 9000⟩).last : Int) ∧ iv = .int .i64 (((zs.take j).foldl (snStep 3000 9000) ⟨0, 3000, 9000⟩).i : Int) ∧ kv = .int .i64 (((zs.take j).foldl (snStep 3000 9000) ⟨0, 3000, 9000⟩).k : Int) ∧ kt = .int .i64 (((zs.take j).filter (fun v => decide (v < 3000))).length : Int) ∧ w15 = wr) (fun _ _ _ _ _ jv _ => zs.length - (intOf jv).toNat)
                case atStart => exact ⟨0, Nat.zero_le _, rfl, rfl, by rw [List.take_zero]; rfl, by rw [List.take_zero]; rfl, by rw [List.take_zero]; rfl, by rw [List.take_zero]; rfl, rfl⟩
                case round =>
                  obtain ⟨j, hj, rfl, rfl, rfl, rfl, rfl, rfl, rfl⟩ := hrel
                  by_cases hlt3 : j < zs.length
                  · have hi8 := HIZ.out
                    obtain ⟨b8, o8, rfl, _⟩ := hi8.form (by rw [nz_length]; omega)
                    have z0 := hi8.cell (j := j) (by rw [nz_length]; exact hlt3)
                    have hnzi : (nz zs)[j]'(by rw [nz_length]; exact hlt3) = (zs[j] : Int) := by
                      have h1 := nz_get zs j
                      rw [List.getElem?_eq_getElem (by rw [nz_length]; exact hlt3), List.getElem?_eq_getElem hlt3] at h1
                      exact Option.some.inj h1
                    rw [hnzi] at z0
                    obtain ⟨q1, q2, q3⟩ := HKEEPS.out.ok.at_ (List.getElem?_eq_getElem hlt3)
                    have hmay := (HMZ.out _ (List.getElem_mem hlt3)).le
                    have hst : (zs.take (j + 1)).foldl (snStep 3000 9000) ⟨0, 3000, 9000⟩ = snStep 3000 9000 ((zs.take j).foldl (snStep 3000 9000) ⟨0, 3000, 9000⟩) zs[j] := by
                      rw [List.take_succ_eq_append_getElem hlt3, List.foldl_append]; rfl
                    have hft : ((zs.take (j + 1)).filter (fun v => decide (v < 3000))).length = ((zs.take j).filter (fun v => decide (v < 3000))).length + if zs[j] < 3000 then 1 else 0 := by
                      rw [List.take_succ_eq_append_getElem hlt3, List.filter_append, List.length_append]
                      congr 1
                      by_cases h : zs[j] < 3000
                      · rw [if_pos h, List.filter_cons_of_pos (by simpa using h)]; rfl
                      · rw [if_neg h, List.filter_cons_of_neg (by simpa using h)]; rfl
                    have hfl : ((zs.take j).filter (fun v => decide (v < 3000))).length ≤ 2000 := by
                      have h1 := List.length_filter_le (fun v => decide (v < 3000)) (zs.take j)
                      rw [List.length_take] at h1
                      omega
                    have HST := Lib.hid hst
                    have HFT := Lib.hid hft
                    generalize ((zs.take j).filter (fun v => decide (v < 3000))).length = kt at HFT hfl ⊢
                    obtain ⟨s, HSS⟩ : ∃ x, Hid ((zs.take j).foldl (snStep 3000 9000) ⟨0, 3000, 9000⟩ = x) := ⟨_, Lib.hid rfl⟩
                    rw [HSS.out] at q1 q2 q3 HST ⊢
                    obtain ⟨sl, si, sk⟩ := s
                    simp only at q1 q2 q3 ⊢
                    generalize zs[j] = v at z0 q1 q2 q3 hmay HST HFT
                    clear hi8 hnzi hst hft
                    by_cases g9 : 9000 ≤ v
                    · have e1 := q1 g9
                      subst e1
                      have HS2 : Hid ((zs.take (j + 1)).foldl (snStep 3000 9000) ⟨0, 3000, 9000⟩ = ⟨sl, si, v + 1⟩) := by show _ = _; rw [HST.out, snStep, if_pos g9]
                      have HF2 : Hid (((zs.take (j + 1)).filter (fun v => decide (v < 3000))).length = kt) := by show _ = _; rw [HFT.out, if_neg (by omega)]; rfl
                      clear q1 q2 q3
                      go_wp2
                      go_roundw
                      case rel => exact ⟨j + 1, by omega, by go_num, rfl, by rw [HS2.out], by rw [HS2.out], by rw [HS2.out]; rfl, by rw [HF2.out], trivial⟩
                      case measure => simp [intOf]; omega
                    · by_cases g3 : 3000 ≤ v
                      · have e1 := q2 g3 (by omega)
                        subst e1
                        have HS2 : Hid ((zs.take (j + 1)).foldl (snStep 3000 9000) ⟨0, 3000, 9000⟩ = ⟨sl, v + 1, sk⟩) := by show _ = _; rw [HST.out, snStep, if_neg (by omega), if_pos (by omega)]
                        have HF2 : Hid (((zs.take (j + 1)).filter (fun v => decide (v < 3000))).length = kt) := by show _ = _; rw [HFT.out, if_neg (by omega)]; rfl
                        clear q1 q2 q3
                        go_wp2
                        go_roundw
                        case rel => exact ⟨j + 1, by omega, by go_num, rfl, by rw [HS2.out], by rw [HS2.out]; rfl, by rw [HS2.out], by rw [HF2.out], trivial⟩
                        case measure => simp [intOf]; omega
                      · have e1 := q3 (by omega)
                        have HS2 : Hid ((zs.take (j + 1)).foldl (snStep 3000 9000) ⟨0, 3000, 9000⟩ = ⟨v, si, sk⟩) := by show _ = _; rw [HST.out, snStep, if_neg (by omega), if_neg (by omega)]
                        have HF2 : Hid (((zs.take (j + 1)).filter (fun v => decide (v < 3000))).length = kt + 1) := by show _ = _; rw [HFT.out, if_pos (by omega)]
                        clear q1 q2 q3
                        go_wp2
                        go_roundw
                        case rel => exact ⟨j + 1, by omega, by go_num, rfl, by rw [HS2.out], by rw [HS2.out], by rw [HS2.out], by rw [HF2.out]; rfl, trivial⟩
                        case measure => simp [intOf]; omega
                  · have hje : zs.take j = zs := List.take_of_length_le (by omega)
                    rw [hje, HKEEPS.out.i, HKEEPS.out.k, HKEEPS.out.kept]
                    obtain ⟨la, HLA⟩ : ∃ x, Hid ((zs.foldl (snStep 3000 9000) ⟨0, 3000, 9000⟩).last = x) := ⟨_, Lib.hid rfl⟩
                    rw [HLA.out]
                    clear hje
                    go_wp2_with fail
                    refine (GBO.out _ HA.out HB.out).mono ?_
                    rintro e w16 ⟨rfl, hb⟩
                    have HW16 : Hid (Below w.heap.size w w16) := HW15.out.trans (hb.mono HW15.out.size)
                    replace HA := Lib.hid (HA.out.below hb)
                    replace HB := Lib.hid (HB.out.below hb)
                    clear hb
                    go_wp2_with fail
                    refine (GA.out _).mono ?_
                    rintro e w17 ⟨rfl, hb⟩
                    have HW17 : Hid (Below w.heap.size w w17) := HW16.out.trans (hb.mono HW16.out.size)
                    replace HA := Lib.hid (HA.out.below hb)
                    replace HB := Lib.hid (HB.out.below hb)
                    clear hb
                    go_wp2
                    go_ret
                    exact ⟨rfl, HW17.out⟩
          · obtain ⟨q, HQC⟩ : ∃ q, Hid (rCheck P = q) := ⟨_, Lib.hid rfl⟩
            rw [HQC.out] at cp
            have hq : ((q : Int) != 0) = true := bne_iff_ne.2 (by omega)
            clear cp
            go_enter Try.func5, Try.ntmps5
            go_wp2_with fail
            refine (GWa.out _ HA.out).mono ?_
            rintro e w1 ⟨rfl, hb⟩
            have HW1 : Hid (Below w.heap.size w w1) := HW0.out.trans (hb.mono HW0.out.size)
            replace HA := Lib.hid (HA.out.below hb)
            replace HB := Lib.hid (HB.out.below hb)
            clear hb
            go_wp2_with fail
            refine (GWb.out _ HB.out).mono ?_
            rintro e w2 ⟨rfl, hb⟩
            have HW2 : Hid (Below w.heap.size w w2) := HW1.out.trans (hb.mono HW1.out.size)
            replace HA := Lib.hid (HA.out.below hb)
            replace HB := Lib.hid (HB.out.below hb)
            clear hb
            go_wp2_with fail
            refine (kCheck HQA.out HEa.out _ _ _ HA.out).mono ?_
            rintro e w3 ⟨rfl, hb⟩
            have HW3 : Hid (Below w.heap.size w w3) := HW2.out.trans (hb.mono HW2.out.size)
            replace HA := Lib.hid (HA.out.below hb)
            replace HB := Lib.hid (HB.out.below hb)
            clear hb
            go_wp2_with fail
            refine (kCheck HQB.out HEb.out _ _ _ HB.out).mono ?_
            rintro e w4 ⟨rfl, hb⟩
            have HW4 : Hid (Below w.heap.size w w4) := HW3.out.trans (hb.mono HW3.out.size)
            replace HA := Lib.hid (HA.out.below hb)
            replace HB := Lib.hid (HB.out.below hb)
            clear hb
            go_wp2_with fail
            refine (kBase HNA.out HEa.out _ _ _ HA.out).mono ?_
            rintro e w5 ⟨rfl, hb⟩
            have HW5 : Hid (Below w.heap.size w w5) := HW4.out.trans (hb.mono HW4.out.size)
            replace HA := Lib.hid (HA.out.below hb)
            replace HB := Lib.hid (HB.out.below hb)
            clear hb
            go_wp2_with fail
            refine (kBase HNB.out HEb.out _ _ _ HB.out).mono ?_
            rintro e w6 ⟨rfl, hb⟩
            have HW6 : Hid (Below w.heap.size w w6) := HW5.out.trans (hb.mono HW5.out.size)
            replace HA := Lib.hid (HA.out.below hb)
            replace HB := Lib.hid (HB.out.below hb)
            clear hb
            go_wp2
            go_loopw [9, 10] (fun p i wr => ∃ k : Nat, k ≤ N ∧ i = .int .i64 k ∧ wr.ownsRow w6.heap.size 3 1 p (List.range' 1000 k).length (is64 (nz (List.range' 1000 k))) ∧ Below w6.heap.size w6 wr) (fun _ i _ => N - (intOf i).toNat)
            case atStart => exact ⟨0, Nat.zero_le _, rfl, by simpa [is64, nz] using World.ownsRow_nil _ _ _ _, Below.refl _ _⟩
            case round =>
              obtain ⟨k, hk, rfl, ho, hb⟩ := hrel
              have HO := Lib.hid ho
              have HBB := Lib.hid hb
              clear ho hb
              by_cases hlt : k < N
              · have hsz := HBB.out.size
                go_wp2_with (at_builtin
                             refine wpList_append_int rfl (.tmp 74) (.tmp 77) rfl w6.heap.size _ (List.range' 1000 k) rfl (HO.out.alloc _) wr.heap.size (1000 + k) rfl (by rw [cell_of_row _ _ _ _ _ _ (heap_alloc_new wr _)]; rfl) (by rw [List.length_range']; omega) (by simp; omega) ?_
                             intro v' w8 hown8 hgr8
                             have HO8 : Hid (w8.ownsRow w6.heap.size 3 1 v' (List.range' 1000 (k + 1)).length (is64 (nz (List.range' 1000 (k + 1))))) := by rw [List.range'_1_concat]; exact hown8
                             have HB8 : Hid (Below w6.heap.size w6 w8) := (HBB.out.alloc hsz _).grown hgr8 (by simp; omega) (fun k hk => (HO.out.lt k hk).1)
                             clear hown8 hgr8)
                go_wp2
                go_roundw
                case rel => exact ⟨k + 1, by omega, by go_num, HO8.out, HB8.out⟩
                case measure => simp [intOf]; omega
              · have hke : k = N := by omega
                subst hke
                obtain ⟨w7, hw7⟩ : ∃ x, x = wr := ⟨wr, rfl⟩
                subst hw7
                obtain ⟨A9, c9, rfl⟩ := own_slice HO.out
                have HI1 : Hid (IntsAt w7 A9 (nz (List.range' 1000 k))) := IntsAt.of_own HO.out (by rw [nz_length])
                have HW7 : Hid (Below w.heap.size w w7) := HW6.out.trans (HBB.out.mono HW6.out.size)
                replace HA := Lib.hid (HA.out.below HBB.out)
                replace HB := Lib.hid (HB.out.below HBB.out)
                have GT := Lib.hid (fun c w h => text_range (A := A9) (n := 1000) (k := k) c (by omega) (may_range (by omega) (by omega)) w h)
                rw [List.length_range']
                rw [HS.out] at GT
                clear HBB HO
                go_wp2_with fail
                refine (GT.out _ _ HI1.out).mono ?_
                rintro e w8 ⟨rfl, hb⟩
                have HW8 : Hid (Below w.heap.size w w8) := HW7.out.trans (hb.mono HW7.out.size)
                replace HA := Lib.hid (HA.out.below hb)
                replace HB := Lib.hid (HB.out.below hb)
                clear hb
                go_wp2_with fail
                refine (GNa.out _ _ _ HA.out).mono ?_
                rintro e w9 ⟨⟨A1, c1, rfl, hk⟩, hb⟩
                have HW9 : Hid (Below w.heap.size w w9) := HW8.out.trans (hb.mono HW8.out.size)
                replace HA := Lib.hid (HA.out.below hb)
                replace HB := Lib.hid (HB.out.below hb)
                have HXA := Lib.hid hk
                clear hk
                clear hb
                go_wp2_with fail
                refine (GNb.out _ _ _ HB.out).mono ?_
                rintro e w10 ⟨⟨A2, c2, rfl, hk⟩, hb⟩
                have HW10 : Hid (Below w.heap.size w w10) := HW9.out.trans (hb.mono HW9.out.size)
                replace HA := Lib.hid (HA.out.below hb)
                replace HB := Lib.hid (HB.out.below hb)
                replace HXA := Lib.hid (HXA.out.below hb)
                have HYA := Lib.hid hk
                clear hk
                clear hb
                go_wp2_with fail
                refine (KD1.out _ _ _ HYA.out).mono ?_
                rintro e w11 ⟨rfl, hb⟩
                have HW11 : Hid (Below w.heap.size w w11) := HW10.out.trans (hb.mono HW10.out.size)
                replace HA := Lib.hid (HA.out.below hb)
                replace HB := Lib.hid (HB.out.below hb)
                replace HXA := Lib.hid (HXA.out.below hb)
                replace HYA := Lib.hid (HYA.out.below hb)
                clear hb
                go_wp2_with fail
                refine (KO.out _ _ _ _ _ HXA.out HYA.out).mono ?_
                rintro e w12 ⟨⟨⟨A3, c3, rfl, hk⟩, hh⟩, hb⟩
                have HW12 : Hid (Below w.heap.size w w12) := HW11.out.trans (hb.mono HW11.out.size)
                replace HA := Lib.hid (HA.out.below hb)
                replace HB := Lib.hid (HB.out.below hb)
                replace HXA := Lib.hid (HXA.out.below hb)
                replace HYA := Lib.hid (HYA.out.below hb)
                have HPA := Lib.hid hk
                have HPH := Lib.hid hh
                clear hk hh
                clear hb
                go_wp2_with fail
                refine (kCheck HQC.out HPH.out _ _ _ HPA.out).mono ?_
                rintro e w13 ⟨rfl, hb⟩
                have HW13 : Hid (Below w.heap.size w w13) := HW12.out.trans (hb.mono HW12.out.size)
                replace HA := Lib.hid (HA.out.below hb)
                replace HB := Lib.hid (HB.out.below hb)
                replace HXA := Lib.hid (HXA.out.below hb)
                replace HYA := Lib.hid (HYA.out.below hb)
                replace HPA := Lib.hid (HPA.out.below hb)
                clear hb
                go_wp2_with fail
                refine (GA.out _).mono ?_
                rintro e w14 ⟨rfl, hb⟩
                have HW14 : Hid (Below w.heap.size w w14) := HW13.out.trans (hb.mono HW13.out.size)
                replace HA := Lib.hid (HA.out.below hb)
                replace HB := Lib.hid (HB.out.below hb)
                replace HXA := Lib.hid (HXA.out.below hb)
                replace HYA := Lib.hid (HYA.out.below hb)
                replace HPA := Lib.hid (HPA.out.below hb)
                clear hb
                go_wp2
                go_ret
                exact ⟨rfl, HW14.out⟩
        · have hq : (nb != (N : Int)) = true := bne_iff_ne.2 z4
          subst z1 z2 z3
          clear z4
          go_enter Try.func5, Try.ntmps5
          go_wp2_with fail
          refine (GWa.out _ HA.out).mono ?_
          rintro e w1 ⟨rfl, hb⟩
          have HW1 : Hid (Below w.heap.size w w1) := HW0.out.trans (hb.mono HW0.out.size)
          replace HA := Lib.hid (HA.out.below hb)
          replace HB := Lib.hid (HB.out.below hb)
          clear hb
          go_wp2_with fail
          refine (GWb.out _ HB.out).mono ?_
          rintro e w2 ⟨rfl, hb⟩
          have HW2 : Hid (Below w.heap.size w w2) := HW1.out.trans (hb.mono HW1.out.size)
          replace HA := Lib.hid (HA.out.below hb)
          replace HB := Lib.hid (HB.out.below hb)
          clear hb
          go_wp2_with fail
          refine (kCheck HQA.out HEa.out _ _ _ HA.out).mono ?_
          rintro e w3 ⟨rfl, hb⟩
          have HW3 : Hid (Below w.heap.size w w3) := HW2.out.trans (hb.mono HW2.out.size)
          replace HA := Lib.hid (HA.out.below hb)
          replace HB := Lib.hid (HB.out.below hb)
          clear hb
          go_wp2_with fail
          refine (kCheck HQB.out HEb.out _ _ _ HB.out).mono ?_
          rintro e w4 ⟨rfl, hb⟩
          have HW4 : Hid (Below w.heap.size w w4) := HW3.out.trans (hb.mono HW3.out.size)
          replace HA := Lib.hid (HA.out.below hb)
          replace HB := Lib.hid (HB.out.below hb)
          clear hb
          go_wp2_with fail
          refine (kBase HNA.out HEa.out _ _ _ HA.out).mono ?_
          rintro e w5 ⟨rfl, hb⟩
          have HW5 : Hid (Below w.heap.size w w5) := HW4.out.trans (hb.mono HW4.out.size)
          replace HA := Lib.hid (HA.out.below hb)
          replace HB := Lib.hid (HB.out.below hb)
          clear hb
          go_wp2_with fail
          refine (kBase HNB.out HEb.out _ _ _ HB.out).mono ?_
          rintro e w6 ⟨rfl, hb⟩
          have HW6 : Hid (Below w.heap.size w w6) := HW5.out.trans (hb.mono HW5.out.size)
          replace HA := Lib.hid (HA.out.below hb)
          replace HB := Lib.hid (HB.out.below hb)
          clear hb
          go_wp2_with fail
          refine (GA.out _).mono ?_
          rintro e w7 ⟨rfl, hb⟩
          have HW7 : Hid (Below w.heap.size w w7) := HW6.out.trans (hb.mono HW6.out.size)
          replace HA := Lib.hid (HA.out.below hb)
          replace HB := Lib.hid (HB.out.below hb)
          clear hb
          go_wp2
          go_ret
          exact ⟨rfl, HW7.out⟩
      · have hq : (na != (N : Int)) = true := bne_iff_ne.2 z3
        subst z1 z2
        clear z3
        go_enter Try.func5, Try.ntmps5
        go_wp2_with fail
        refine (GWa.out _ HA.out).mono ?_
        rintro e w1 ⟨rfl, hb⟩
        have HW1 : Hid (Below w.heap.size w w1) := HW0.out.trans (hb.mono HW0.out.size)
        replace HA := Lib.hid (HA.out.below hb)
        replace HB := Lib.hid (HB.out.below hb)
        clear hb
        go_wp2_with fail
        refine (GWb.out _ HB.out).mono ?_
        rintro e w2 ⟨rfl, hb⟩
        have HW2 : Hid (Below w.heap.size w w2) := HW1.out.trans (hb.mono HW1.out.size)
        replace HA := Lib.hid (HA.out.below hb)
        replace HB := Lib.hid (HB.out.below hb)
        clear hb
        go_wp2_with fail
        refine (kCheck HQA.out HEa.out _ _ _ HA.out).mono ?_
        rintro e w3 ⟨rfl, hb⟩
        have HW3 : Hid (Below w.heap.size w w3) := HW2.out.trans (hb.mono HW2.out.size)
        replace HA := Lib.hid (HA.out.below hb)
        replace HB := Lib.hid (HB.out.below hb)
        clear hb
        go_wp2_with fail
        refine (kCheck HQB.out HEb.out _ _ _ HB.out).mono ?_
        rintro e w4 ⟨rfl, hb⟩
        have HW4 : Hid (Below w.heap.size w w4) := HW3.out.trans (hb.mono HW3.out.size)
        replace HA := Lib.hid (HA.out.below hb)
        replace HB := Lib.hid (HB.out.below hb)
        clear hb
        go_wp2_with fail
        refine (kBase HNA.out HEa.out _ _ _ HA.out).mono ?_
        rintro e w5 ⟨rfl, hb⟩
        have HW5 : Hid (Below w.heap.size w w5) := HW4.out.trans (hb.mono HW4.out.size)
        replace HA := Lib.hid (HA.out.below hb)
        replace HB := Lib.hid (HB.out.below hb)
        clear hb
        go_wp2_with fail
        refine (GA.out _).mono ?_
        rintro e w6 ⟨rfl, hb⟩
        have HW6 : Hid (Below w.heap.size w w6) := HW5.out.trans (hb.mono HW5.out.size)
        replace HA := Lib.hid (HA.out.below hb)
        replace HB := Lib.hid (HB.out.below hb)
        clear hb
        go_wp2
        go_ret
        exact ⟨rfl, HW6.out⟩
    · have hq : ((qb : Int) != 0) = true := bne_iff_ne.2 (by omega)
      subst z1
      clear z2
      go_enter Try.func5, Try.ntmps5
      go_wp2_with fail
      refine (GWa.out _ HA.out).mono ?_
      rintro e w1 ⟨rfl, hb⟩
      have HW1 : Hid (Below w.heap.size w w1) := HW0.out.trans (hb.mono HW0.out.size)
      replace HA := Lib.hid (HA.out.below hb)
      replace HB := Lib.hid (HB.out.below hb)
      clear hb
      go_wp2_with fail
      refine (GWb.out _ HB.out).mono ?_
      rintro e w2 ⟨rfl, hb⟩
      have HW2 : Hid (Below w.heap.size w w2) := HW1.out.trans (hb.mono HW1.out.size)
      replace HA := Lib.hid (HA.out.below hb)
      replace HB := Lib.hid (HB.out.below hb)
      clear hb
      go_wp2_with fail
      refine (kCheck HQA.out HEa.out _ _ _ HA.out).mono ?_
      rintro e w3 ⟨rfl, hb⟩
      have HW3 : Hid (Below w.heap.size w w3) := HW2.out.trans (hb.mono HW2.out.size)
      replace HA := Lib.hid (HA.out.below hb)
      replace HB := Lib.hid (HB.out.below hb)
      clear hb
      go_wp2_with fail
      refine (kCheck HQB.out HEb.out _ _ _ HB.out).mono ?_
      rintro e w4 ⟨rfl, hb⟩
      have HW4 : Hid (Below w.heap.size w w4) := HW3.out.trans (hb.mono HW3.out.size)
      replace HA := Lib.hid (HA.out.below hb)
      replace HB := Lib.hid (HB.out.below hb)
      clear hb
      go_wp2_with fail
      refine (GA.out _).mono ?_
      rintro e w5 ⟨rfl, hb⟩
      have HW5 : Hid (Below w.heap.size w w5) := HW4.out.trans (hb.mono HW4.out.size)
      replace HA := Lib.hid (HA.out.below hb)
      replace HB := Lib.hid (HB.out.below hb)
      clear hb
      go_wp2
      go_ret
      exact ⟨rfl, HW5.out⟩
  · have hq : ((qa : Int) != 0) = true := bne_iff_ne.2 (by omega)
    clear z1
    go_enter Try.func5, Try.ntmps5
    go_wp2_with fail
    refine (GWa.out _ HA.out).mono ?_
    rintro e w1 ⟨rfl, hb⟩
    have HW1 : Hid (Below w.heap.size w w1) := HW0.out.trans (hb.mono HW0.out.size)
    replace HA := Lib.hid (HA.out.below hb)
    replace HB := Lib.hid (HB.out.below hb)
    clear hb
    go_wp2_with fail
    refine (GWb.out _ HB.out).mono ?_
    rintro e w2 ⟨rfl, hb⟩
    have HW2 : Hid (Below w.heap.size w w2) := HW1.out.trans (hb.mono HW1.out.size)
    replace HA := Lib.hid (HA.out.below hb)
    replace HB := Lib.hid (HB.out.below hb)
    clear hb
    go_wp2_with fail
    refine (kCheck HQA.out HEa.out _ _ _ HA.out).mono ?_
    rintro e w3 ⟨rfl, hb⟩
    have HW3 : Hid (Below w.heap.size w w3) := HW2.out.trans (hb.mono HW2.out.size)
    replace HA := Lib.hid (HA.out.below hb)
    replace HB := Lib.hid (HB.out.below hb)
    clear hb
    go_wp2_with fail
    refine (GA.out _).mono ?_
    rintro e w4 ⟨rfl, hb⟩
    have HW4 : Hid (Below w.heap.size w w4) := HW3.out.trans (hb.mono HW3.out.size)
    replace HA := Lib.hid (HA.out.below hb)
    replace HB := Lib.hid (HB.out.below hb)
    clear hb
    go_wp2
    go_ret
    exact ⟨rfl, HW4.out⟩
end Go.Proofs.Ytakdcfjlhpponaa

/- XformKeeps: behind another edit each character that either put in stands there once, those that neither deleted keep their order, and those that one deleted are gone: it answers true and changes nothing. No condition. -/
namespace Go.Proofs.Ytakdcfjlhpponaa
open Go.ChangeShapes Go.WideShapes Go.ChangeAt Go.RowKit

set_option maxRecDepth 100000 in
theorem xformKeeps_lifted (os : Os) (started : os.Started) (H : Type) (enc : TypeId × Value → H) :
    ReturnsInHanded {} Try.checked os 5 .any (Rows.xformKeepsSpec.pre6 enc Try.prog Try.f5 Rows.xformKeepsRow.domain false) (Rows.xformKeepsSpec.post enc Try.prog Try.f5 false true false false) := by
  refine returnsInHanded_of_change (C := Try.checked) law_own started (by kernel_rfl) Try.func5
    (ChangeSpec.witness6 (enc := enc) (C := Try.checked) false ⟨#[], #[.int .i64 0, .slice none 0 0, .slice none 0 0, .bool false], []⟩ 8 (by kernel_rfl) (by kernel_rfl) (by kernel_rfl) (by kernel_rfl)) ?_
  intro W base args ds gs before hval0 hW _ _
  have hval : ∀ (j : Nat) t v, Try.f5.params[j]? = some t → args[j]? = some v → Value.okWide Try.prog W .any base t v := hval0
  have hW' := hW
  obtain ⟨p, q, hA0, hV, rfl, _, _⟩ := hW
  have hlt : ∀ x ∈ p ++ q, x.block < W.heap.size := fun x hx => hW'.lt x hx
  have hA : DataW.TrodAll enc Try.prog W 0 (fun _ => true) true Try.f5.params.toList args.toList ds p := hA0
  rw [Try.params5] at hA hval
  obtain ⟨v0, v1, v2, v3, d0, d1, d2, d3, p0, p1, p2, p3, rfl, rfl, rfl, h0, h1, h2, h3⟩ := trodAll_four hA
  obtain ⟨rfl, rfl⟩ := trodVars_none hV
  obtain ⟨n0, rfl, rfl, rfl, hw0⟩ := open_int Try.underlying3 (hval 0 3 v0 rfl rfl) h0
  have hn0 : -9223372036854775808 ≤ n0 ∧ n0 ≤ 9223372036854775807 := by simpa [Lit.wf, IntKind.min, IntKind.max, IntKind.signed, IntKind.bits] using hw0
  obtain ⟨A1, l1, c1, rfl, hat1, hg1, hlc1, hc1⟩ := open_comps (hval 1 22 v1 rfl rfl) h1 (fun x hx => hlt x (by simp [hx]))
  have hl1 : l1.length ≤ maxLen := by omega
  obtain ⟨A2, l2, c2, rfl, hat2, hg2, hlc2, hc2⟩ := open_comps (hval 2 22 v2 rfl rfl) h2 (fun x hx => hlt x (by simp [hx]))
  have hl2 : l2.length ≤ maxLen := by omega
  obtain ⟨f3, rfl, rfl, rfl⟩ := open_bool Try.underlying4 (hval 3 4 v3 rfl rfl) h3
  clear hA0 hval0
  refine (xformKeeps_any n0 A1 l1 c1 A2 l2 c2 f3 hn0 hl1 hg1 hl2 hg2 W ⟨hat1, hlc1⟩ ⟨hat2, hlc2⟩).mono fun e W' ⟨he, hb⟩ => ?_
  exact ⟨_, he, law_post law_laid (by kernel_rfl) (by kernel_rfl) Try.underlying4 rfl hW' rfl hb⟩

theorem xformKeeps_holds : Rows.XformKeepsSaid :=
  OpenClaim.holds_of_wide 5 Try.f5 rfl rfl rfl rfl rfl rfl rfl ⟨rfl, rfl, rfl, rfl, rfl⟩ rfl rfl rfl rfl rfl (by kernel_rfl) Try.func5 (by kernel_rfl)
    (of_decide_eq_true (by kernel_rfl)) (by unfold Func.isWrapper; first | (rw [if_pos (by decide +kernel)]; kernel_rfl) | (rw [if_neg (by decide +kernel)]; exact ⟨rfl, rfl⟩))
    (fun os started H enc _ => xformKeeps_lifted os started H enc)
end Go.Proofs.Ytakdcfjlhpponaa
