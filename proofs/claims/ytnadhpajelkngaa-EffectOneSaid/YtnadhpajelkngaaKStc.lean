/- Two sorted stretches of more than one element merged. Conditions: both stretches lie within the row; each of the first one stands, where they are equal, ahead of each of the second one. -/
import Derived.Test.YtnadhpajelkngaaKSta
/- Two sorted stretches of more than one element merged. Conditions: both stretches lie within the row; each of the first one stands, where they are equal, ahead of each of the second one. -/
namespace Go.Proofs.Ytnadhpajelkngaa
open Go.RowKit Go.Lib Go.Sort
variable {P : Program} {α : Type} [Inhabited α] {enc : α → List Value} {k : Nat} {w0 : World} {blk off : Nat} {d0 : Array α}

set_option maxHeartbeats 8000000 in
set_option maxRecDepth 1000000 in
theorem stbMerge_most (L : LaysS P k) (R : RowK enc k w0 blk off d0) {lt : α → α → Bool} {C : α → α → Prop} {cn : α → α → Int} (O : Ord lt C cn) (g : Nat) (cb : Array Value) (cap : Nat)
    (eg : ∀ args w, (callFunc g args).run P w = .ok (.enter g args) w) (hcmp : CmpLays P g cb enc k cn blk off d0.size w0) (hsz : d0.size < 1099511627776)
    (a m b : Nat) (d : Array α) (w : World) (ih : ∀ M, M < b - a → MergeAt P enc k w0 blk off d0 lt C g cb cap M) (h1 : m ≠ a + 1) (h2 : b ≠ m + 1) (ham : a < m) (hmb : m < b) (hb : b ≤ d.size) (hd : d0.size = d.size) (S : SWK enc k w0 blk off d w) (hl : SortedIn lt a m d) (hr : SortedIn lt m b d) (hC : ∀ x y, a ≤ x → x < m → m ≤ y → y < b → C d[x]! d[y]!) :
    MergeOf P enc k w0 blk off lt g cb cap a m b d w := by
  unfold MergeOf
  have mixed := L.mixed; have t3 := L.t3; have a3 := L.a3; have z3 := L.z3; have v3 := L.v3; have t4 := L.t4; have a4 := L.a4; have z4 := L.z4; have v4 := L.v4; have t32 := L.t32; have a32 := L.a32; have z32 := L.z32; have v32 := L.v32; have t85 := L.t85; have a85 := L.a85; have z85 := L.z85; have v85 := L.v85; have t92 := L.t92; have a92 := L.a92; have z92 := L.z92; have v92 := L.v92; have aE := L.aE; have zE := L.zE
  have FG := L.fMerge
  have S0 : Hid (SWK enc k w0 blk off d w) := S
  have RR : Hid (RowK enc k w0 blk off d0) := R
  have HC : Hid (CmpLays P g cb enc k cn blk off d0.size w0) := hcmp
  have HL : Hid (SortedIn lt a m d) := hl
  have HR : Hid (SortedIn lt m b d) := hr
  have HX : Hid (∀ x y, a ≤ x → x < m → m ≤ y → y < b → C d[x]! d[y]!) := hC
  have HO : Hid (Ord lt C cn) := O
  have hszd : d.size < 1099511627776 := by omega
  have e75 : ∀ args w, (callFunc 75 args).run P w = .ok (.enter 75 args) w := enters_of L.fRot (by kernel_rfl) rfl
  have e69 : ∀ args w, (callFunc 69 args).run P w = .ok (.enter 69 args) w := enters_of L.fMerge (by kernel_rfl) rfl
  have GR := Lib.hid (fun (x y z : Nat) (dk : Array α) (wr : World) (hS : SWK enc k w0 blk off dk wr) (hdk : dk.size = d.size) (h1 : x < y) (h2 : y < z) (h3 : z ≤ d.size) => by
    have := stbRot_any L R g cb cap x y z dk wr hS (by omega) h1 h2 (by omega) (by omega)
    rwa [hdk] at this)
  have GM := Lib.hid (fun (x y z : Nat) (dk : Array α) (wr : World) (hS : SWK enc k w0 blk off dk wr) (hdk : dk.size = d.size) (h0 : z - x < b - a) (h1 : x < y) (h2 : y < z) (h3 : z ≤ d.size) (s1 : SortedIn lt x y dk) (s2 : SortedIn lt y z dk) (h4 : ∀ p q, x ≤ p → p < y → y ≤ q → q < z → C dk[p]! dk[q]!) => by
    have := ih (z - x) (by omega) x y z dk wr (Nat.le_refl _) h1 h2 (by omega) (by omega) hS s1 s2 h4
    unfold MergeOf at this
    rwa [hdk] at this)
  clear ih
  clear S R hcmp hl hr hC O
  clear hsz
  go_enter FG, Try.ntmps69
  have h1z : ((m : Int) - (a : Int) == 1) = false := beq_eq_false_iff_ne.2 (by omega)
  have h2z : ((b : Int) - (m : Int) == 1) = false := beq_eq_false_iff_ne.2 (by omega)
  have hk3 : a + 1 < m ∧ m + 1 < b := by omega
  clear h1 h2
  obtain ⟨sm, hsm⟩ : ∃ x, a + b = x := ⟨_, rfl⟩
  obtain ⟨mid, hmid⟩ : ∃ x, sm / 2 = x := ⟨_, rfl⟩
  have esm : (a : Int) + (b : Int) = (sm : Int) := by omega
  have wsm : IntKind.u64.wrap (sm : Int) = (sm : Int) := by rw [IntKind.wrap_u64]; omega
  have dsm : (sm : Int) / 2 = (mid : Int) := by omega
  have d2sm : (sm : Int) >>> 1 = (mid : Int) := by rw [Int.shiftRight_eq_div_pow]; omega
  have wsh : IntKind.i64.wrap (mid : Int) = (mid : Int) := by rw [IntKind.wrap_i64]; omega
  have wuh : IntKind.u64.wrap (mid : Int) = (mid : Int) := by rw [IntKind.wrap_u64]; omega
  have Hmid : Hid ((a + b) / 2 = mid) := by show _ = _; rw [hsm]; exact hmid
  have b1mid : a ≤ mid := by omega
  have b2mid : mid < b ∨ a = b := by omega
  clear hsm hmid
  obtain ⟨nn, hnn⟩ : ∃ x, mid + m = x := ⟨_, rfl⟩
  have enn : (mid : Int) + (m : Int) = (nn : Int) := by omega
  obtain ⟨pp, hpp⟩ : ∃ x, nn - 1 = x := ⟨_, rfl⟩
  have epp : (nn : Int) - 1 = (pp : Int) := by omega
  obtain ⟨s0, hs0⟩ : ∃ x, (if mid < m then nn - b else a) = x := ⟨_, rfl⟩
  obtain ⟨r0, hr0⟩ : ∃ x, (if mid < m then mid else m) = x := ⟨_, rfl⟩
  have k0 : a ≤ s0 ∧ s0 ≤ r0 ∧ r0 ≤ m ∧ r0 ≤ mid ∧ m ≤ nn - r0 ∧ nn ≤ s0 + b ∧ (s0 = a ∨ nn = s0 + b) ∧ (r0 = m ∨ nn = r0 + m) ∧ a < mid ∧ mid < b ∧ nn = mid + m := by
    have := Hmid.out
    by_cases c : mid < m
    · rw [if_pos c] at hs0 hr0; omega
    · rw [if_neg c] at hs0 hr0; omega
  have K0 : Hid (a ≤ s0 ∧ s0 ≤ r0 ∧ r0 ≤ m ∧ r0 ≤ mid ∧ m ≤ nn - r0 ∧ nn ≤ s0 + b ∧ (s0 = a ∨ nn = s0 + b) ∧ (r0 = m ∨ nn = r0 + m) ∧ a < mid ∧ mid < b ∧ nn = mid + m ∧ pp = nn - 1) := by
    show _
    exact ⟨k0.1, k0.2.1, k0.2.2.1, k0.2.2.2.1, k0.2.2.2.2.1, k0.2.2.2.2.2.1, k0.2.2.2.2.2.2.1, k0.2.2.2.2.2.2.2.1, k0.2.2.2.2.2.2.2.2.1, k0.2.2.2.2.2.2.2.2.2.1, k0.2.2.2.2.2.2.2.2.2.2, hpp.symm⟩
  clear k0
  by_cases hm : mid < m
  · have hmz : (mid : Int) < (m : Int) := by omega
    have es0 : (nn : Int) - (b : Int) = (s0 : Int) := by rw [if_pos hm] at hs0; omega
    have HE : Hid (s0 = s0 ∧ mid = r0) := ⟨rfl, by rw [if_pos hm] at hr0; exact hr0⟩
    clear hs0 hr0 hnn hpp
    go_wp2
    go_loopg [20, 21] (r0 - s0) (fun kx s20 s21 wr => ∃ s r : Nat, s20 = .int .i64 s ∧ s21 = .int .i64 r ∧ s0 ≤ s ∧ s ≤ r ∧ r ≤ r0 ∧ r - s ≤ kx ∧ Hid (SWK enc k w0 blk off d wr) ∧ Hid (∀ x y, a ≤ x → x < s → nn - s ≤ y → y < b → lt d[y]! d[x]! = false) ∧ Hid (∀ x y, r ≤ x → x < m → m ≤ y → y < nn - r → lt d[x]! d[y]! = false))
    case atStart => exact ⟨s0, r0, rfl, by rw [HE.out.2], Nat.le_refl _, K0.out.2.1, Nat.le_refl _, Nat.le_refl _, S0, (fun x y h1 h2 h3 h4 => by have := K0.out; omega), (fun x y h1 h2 h3 h4 => by have := K0.out; omega)⟩
    case round =>
      clear S0
      obtain ⟨s, r, rfl, rfl, hs, hsr, hrr, hkx, S1, HA, HB⟩ := hrel
      by_cases hlt : s < r
      · have hltz : (s : Int) < (r : Int) := by omega
        have hr1 : r < 1099511627776 := by have := K0.out; omega
        obtain ⟨sm, hsm⟩ : ∃ x, s + r = x := ⟨_, rfl⟩
        obtain ⟨h, hh⟩ : ∃ x, sm / 2 = x := ⟨_, rfl⟩
        have esm : (s : Int) + (r : Int) = (sm : Int) := by omega
        have wsm : IntKind.u64.wrap (sm : Int) = (sm : Int) := by rw [IntKind.wrap_u64]; omega
        have dsm : (sm : Int) / 2 = (h : Int) := by omega
        have d2sm : (sm : Int) >>> 1 = (h : Int) := by rw [Int.shiftRight_eq_div_pow]; omega
        have wsh : IntKind.i64.wrap (h : Int) = (h : Int) := by rw [IntKind.wrap_i64]; omega
        have wuh : IntKind.u64.wrap (h : Int) = (h : Int) := by rw [IntKind.wrap_u64]; omega
        have Hh : Hid ((s + r) / 2 = h) := by show _ = _; rw [hsm]; exact hh
        have b1h : s ≤ h := by omega
        have b2h : h < r ∨ s = r := by omega
        clear hsm hh
        obtain ⟨q, hq⟩ : ∃ q, pp - h = q := ⟨_, rfl⟩
        have eq1 : (pp : Int) - (h : Int) = (q : Int) := by have := K0.out; omega
        have hbd : h < d.size := by have := K0.out; omega
        have had : q < d.size := by have := K0.out; omega
        have hk : a ≤ h ∧ h < m ∧ m ≤ q ∧ q < b ∧ nn - (h + 1) = q ∧ nn - h = q + 1 := by have := K0.out; omega
        have HK : Hid (a ≤ h ∧ h < m ∧ m ≤ q ∧ q < b ∧ nn - (h + 1) = q ∧ nn - h = q + 1) := hk
        clear hk hq
        have eha : ((h : Int)).toNat = h := by omega
        have ehp : (0 : Int) ≤ (h : Int) := by omega
        have ehb : (h : Int) < (d.size : Int) := by omega
        have ehw : IntKind.i64.wrap ((h : Int)) = (h : Int) := by rw [IntKind.wrap_i64]; omega
        have eqa : ((q : Int)).toNat = q := by omega
        have eqp : (0 : Int) ≤ (q : Int) := by omega
        have eqb : (q : Int) < (d.size : Int) := by omega
        have eqw : IntKind.i64.wrap ((q : Int)) = (q : Int) := by rw [IntKind.wrap_i64]; omega
        obtain ⟨xi, hxi⟩ : ∃ x, d[q]! = x := ⟨_, rfl⟩
        obtain ⟨xj, hxj⟩ : ∃ x, d[h]! = x := ⟨_, rfl⟩
        have li : ∀ n' os', Sem.run P (loadCellsFrom ⟨blk, off + q * k, none⟩ 0 k #[]) (grow (wr.drewN n') os') = .ok (enc xi).toArray (grow (wr.drewN n') os') := fun n' os' => by rw [← hxi]; exact S1.out.ld RR.out (by omega) P q (by omega) n' os'
        have lj : ∀ n' os', Sem.run P (loadCellsFrom ⟨blk, off + h * k, none⟩ 0 k #[]) (grow (wr.drewN n') os') = .ok (enc xj).toArray (grow (wr.drewN n') os') := fun n' os' => by rw [← hxj]; exact S1.out.ld RR.out (by omega) P h (by omega) n' os'
        have hcg : ∀ n' os', Calls P g (#[.agg (enc xi).toArray, .agg (enc xj).toArray] ++ cb) (grow (wr.drewN n') os') fun e w' => e = .returned (.int .i64 (cn xi xj)) ∧ ∃ q os'', w' = grow ((grow (wr.drewN n') os').drewN q) os'' := fun n' os' => S1.out.cmp HC.out (by omega) xi xj n' os'
        have SG : Hid (∀ n' os', SWK enc k w0 blk off d (grow (wr.drewN n') os')) := fun n' os' => S1.out.grown n' os'
        have HXI : Hid (d[q]! = xi ∧ d[h]! = xj) := ⟨hxi, hxj⟩
        clear hxi hxj S1
        by_cases hv : cn xi xj < 0
        · have HV : Hid (cn xi xj < 0) := hv
          have hvd : decide (cn xi xj < 0) = true := decide_eq_true hv
          have hvn : (!decide (cn xi xj < 0)) = false := by rw [hvd]; rfl
          go_wp2_with fail
          go_quiet_grown (first | (go_at_fn g; refine Calls.grown_of (hcg _ _)))
          go_wp2
          go_roundg (h - s)
          case measure => omega
          case rel => exact ⟨s, h, rfl, rfl, hs, by omega, by omega, Nat.le_refl _, SG.out _ _, HA.out, by
            show ∀ x y, h ≤ x → x < m → m ≤ y → y < nn - h → lt d[x]! d[y]! = false
            rw [HK.out.2.2.2.2.2]
            exact both_high HO.out.swo HL.out HR.out HK.out.1 HK.out.2.2.2.1 (HO.out.yes _ _ (HX.out h q HK.out.1 HK.out.2.1 HK.out.2.2.1 HK.out.2.2.2.1) (by rw [HXI.out.1, HXI.out.2]; have := HV.out; omega))⟩
        · have HV : Hid (¬ cn xi xj < 0) := hv
          have hvd : decide (cn xi xj < 0) = false := decide_eq_false hv
          have hvn : (!decide (cn xi xj < 0)) = true := by rw [hvd]; rfl
          go_wp2_with fail
          go_quiet_grown (first | (go_at_fn g; refine Calls.grown_of (hcg _ _)))
          go_wp2
          go_roundg (r - (h + 1))
          case measure => omega
          case rel => exact ⟨h + 1, r, by first | rfl | simp, rfl, by omega, by omega, hrr, Nat.le_refl _, SG.out _ _, by
            show ∀ x y, a ≤ x → x < h + 1 → nn - (h + 1) ≤ y → y < b → lt d[y]! d[x]! = false
            rw [HK.out.2.2.2.2.1]
            exact both_low HO.out.swo HL.out HR.out HK.out.2.1 HK.out.2.2.1 (HO.out.no _ _ (HX.out h q HK.out.1 HK.out.2.1 HK.out.2.2.1 HK.out.2.2.2.1) (by rw [HXI.out.1, HXI.out.2]; have := HV.out; omega)), HB.out⟩
      · have hltz : ¬ (s : Int) < (r : Int) := by omega
        obtain rfl : s = r := by omega
        obtain ⟨f, hf⟩ : ∃ x, nn - s = x := ⟨_, rfl⟩
        have hkf : (nn : Int) - (s : Int) = (f : Int) ∧ a ≤ s ∧ s ≤ m ∧ m ≤ f ∧ f ≤ b ∧ s + (f - m) = mid ∧ s ≤ mid ∧ mid ≤ f ∧ a < mid ∧ mid < b := by have := K0.out; omega
        have ef := hkf.1
        have HF : Hid (a ≤ s ∧ s ≤ m ∧ m ≤ f ∧ f ≤ b ∧ s + (f - m) = mid ∧ s ≤ mid ∧ mid ≤ f ∧ a < mid ∧ mid < b ∧ nn = s + f ∧ s ≤ r0 ∧ s0 ≤ s) := Lib.hid (by have := hkf.2; have := K0.out; omega)
        rw [hf] at HA HB
        have HH := Lib.hid (fun (d1 : Array α) (h : RotRes d s m f d1) => by
          have := rot_halves (lt := lt) h HF.out.1 HF.out.2.1 HF.out.2.2.1 HF.out.2.2.2.1 C HL.out HR.out HX.out HA.out HB.out
          rwa [HF.out.2.2.2.2.1] at this)
        have hkg := hkf.2
        clear hkf hf HA HB hrr hkx hsr hltz hlt
        by_cases c1 : s < m
        · by_cases c2 : m < f
          · have c4 : s < mid := by have := HF.out; omega
            have c5 : mid < f := by have := HF.out; omega
            by_cases c3 : a < s
            · by_cases c6 : f < b
              · skip
                have zc1 : (s : Int) < (m : Int) := by omega
                have yc1 : decide ((s : Int) < (m : Int)) = true := decide_eq_true zc1
                have zc2 : (m : Int) < (f : Int) := by omega
                have yc2 : decide ((m : Int) < (f : Int)) = true := decide_eq_true zc2
                have zc3 : (a : Int) < (s : Int) := by omega
                have yc3 : decide ((a : Int) < (s : Int)) = true := decide_eq_true zc3
                have zc4 : (s : Int) < (mid : Int) := by omega
                have yc4 : decide ((s : Int) < (mid : Int)) = true := decide_eq_true zc4
                have zc5 : (mid : Int) < (f : Int) := by omega
                have yc5 : decide ((mid : Int) < (f : Int)) = true := decide_eq_true zc5
                have zc6 : (f : Int) < (b : Int) := by omega
                have yc6 : decide ((f : Int) < (b : Int)) = true := decide_eq_true zc6
                clear hkg
                have G1 := GR.out s m f d wr S1.out rfl c1 c2 (by have := HF.out; omega)
                go_wp2_with fail
                refine G1.mono ?_
                rintro e w1 ⟨rfl, d1, S2, HR2, HP2⟩
                have HZ1 := Lib.hid (show d1.size = d.size from HR2.1)
                have HS2 : Hid (SWK enc k w0 blk off d1 w1) := S2
                have HP3 : Hid (PermIn a b d d1) := permIn_mono d d1 s f a b HF.out.1 HF.out.2.2.2.1 hb HP2
                have HQ := Lib.hid (HH.out d1 HR2)
                clear S2 HR2 HP2 S1
                have G2 := GM.out a s mid d1 w1 HS2.out HZ1.out (by have := HF.out; omega) c3 c4 (by have := HF.out; omega) HQ.out.1.1 HQ.out.1.2.1 HQ.out.1.2.2
                go_wp2_with fail
                refine G2.mono ?_
                rintro e w2 ⟨rfl, d2, S3, HP4, HS4⟩
                have HZ2 := Lib.hid (show d2.size = d.size from HP4.1.trans HZ1.out)
                have HS3 : Hid (SWK enc k w0 blk off d2 w2) := S3
                have HPP : Hid (PermIn a mid d1 d2 ∧ SortedIn lt a mid d2) := ⟨HP4, HS4⟩
                have HSR : Hid (SortedIn lt mid f d2 ∧ SortedIn lt f b d2 ∧ ∀ x y, mid ≤ x → x < f → f ≤ y → y < b → C d2[x]! d2[y]!) :=
                  ⟨sorted_congr HQ.out.2.1.1 fun t h1 h2 => HP4.2.1 t (Or.inr h1), sorted_congr HQ.out.2.1.2.1 fun t h1 h2 => HP4.2.1 t (Or.inr (by have := HF.out; omega)), fun x y h1 h2 h3 h4 => by
                    rw [HP4.2.1 x (Or.inr h1), HP4.2.1 y (Or.inr (by have := HF.out; omega))]
                    exact HQ.out.2.1.2.2 x y h1 h2 h3 h4⟩
                clear S3 HP4 HS4
                have G3 := GM.out mid f b d2 w2 HS3.out HZ2.out (by have := HF.out; omega) c5 c6 hb HSR.out.1 HSR.out.2.1 HSR.out.2.2
                go_wp2_with fail
                refine G3.mono ?_
                rintro e w3 ⟨rfl, d3, S4, HP5, HS5⟩
                go_wp2
                (try simp only [Exit.inBlock, Exit.then])
                refine bodyPost_end (v := .tuple #[]) ?_ ?_ ?_
                case refine_1 => exact results_none rfl _ _ _
                case refine_2 => rfl
                obtain ⟨g1, g2⟩ := halves_glued (by have := HF.out; omega) (by have := HF.out; omega) (Nat.le_trans hb (Nat.le_of_eq HZ1.out.symm)) HQ.out.2.2 HPP.out.1 HPP.out.2 HP5 HS5
                exact ⟨rfl, d3, S4, permIn_trans _ _ _ a b HP3.out g1, g2⟩
              · skip
                have zc1 : (s : Int) < (m : Int) := by omega
                have yc1 : decide ((s : Int) < (m : Int)) = true := decide_eq_true zc1
                have zc2 : (m : Int) < (f : Int) := by omega
                have yc2 : decide ((m : Int) < (f : Int)) = true := decide_eq_true zc2
                have zc3 : (a : Int) < (s : Int) := by omega
                have yc3 : decide ((a : Int) < (s : Int)) = true := decide_eq_true zc3
                have zc4 : (s : Int) < (mid : Int) := by omega
                have yc4 : decide ((s : Int) < (mid : Int)) = true := decide_eq_true zc4
                have zc5 : (mid : Int) < (f : Int) := by omega
                have yc5 : decide ((mid : Int) < (f : Int)) = true := decide_eq_true zc5
                have zc6 : ¬ (f : Int) < (b : Int) := by omega
                have yc6 : decide ((f : Int) < (b : Int)) = false := decide_eq_false zc6
                have C6 : Hid (f = b) := Lib.hid (by have := HF.out; omega)
                clear c6
                clear hkg
                have G1 := GR.out s m f d wr S1.out rfl c1 c2 (by have := HF.out; omega)
                go_wp2_with fail
                refine G1.mono ?_
                rintro e w1 ⟨rfl, d1, S2, HR2, HP2⟩
                have HZ1 := Lib.hid (show d1.size = d.size from HR2.1)
                have HS2 : Hid (SWK enc k w0 blk off d1 w1) := S2
                have HP3 : Hid (PermIn a b d d1) := permIn_mono d d1 s f a b HF.out.1 HF.out.2.2.2.1 hb HP2
                have HQ := Lib.hid (HH.out d1 HR2)
                clear S2 HR2 HP2 S1
                have G2 := GM.out a s mid d1 w1 HS2.out HZ1.out (by have := HF.out; omega) c3 c4 (by have := HF.out; omega) HQ.out.1.1 HQ.out.1.2.1 HQ.out.1.2.2
                go_wp2_with fail
                refine G2.mono ?_
                rintro e w2 ⟨rfl, d2, S3, HP4, HS4⟩
                have HZ2 := Lib.hid (show d2.size = d.size from HP4.1.trans HZ1.out)
                have HS3 : Hid (SWK enc k w0 blk off d2 w2) := S3
                have HPP : Hid (PermIn a mid d1 d2 ∧ SortedIn lt a mid d2) := ⟨HP4, HS4⟩
                have HSR : Hid (SortedIn lt mid f d2 ∧ SortedIn lt f b d2 ∧ ∀ x y, mid ≤ x → x < f → f ≤ y → y < b → C d2[x]! d2[y]!) :=
                  ⟨sorted_congr HQ.out.2.1.1 fun t h1 h2 => HP4.2.1 t (Or.inr h1), sorted_congr HQ.out.2.1.2.1 fun t h1 h2 => HP4.2.1 t (Or.inr (by have := HF.out; omega)), fun x y h1 h2 h3 h4 => by
                    rw [HP4.2.1 x (Or.inr h1), HP4.2.1 y (Or.inr (by have := HF.out; omega))]
                    exact HQ.out.2.1.2.2 x y h1 h2 h3 h4⟩
                clear S3 HP4 HS4
                have S4 := HS3.out
                have HP5 : PermIn mid b d2 d2 := permIn_refl d2 mid b
                have HS5 : SortedIn lt mid b d2 := by rw [← C6.out]; exact HSR.out.1
                go_wp2
                (try simp only [Exit.inBlock, Exit.then])
                refine bodyPost_end (v := .tuple #[]) ?_ ?_ ?_
                case refine_1 => exact results_none rfl _ _ _
                case refine_2 => rfl
                obtain ⟨g1, g2⟩ := halves_glued (by have := HF.out; omega) (by have := HF.out; omega) (Nat.le_trans hb (Nat.le_of_eq HZ1.out.symm)) HQ.out.2.2 HPP.out.1 HPP.out.2 HP5 HS5
                exact ⟨rfl, d2, S4, permIn_trans _ _ _ a b HP3.out g1, g2⟩
            · by_cases c6 : f < b
              · skip
                exfalso
                have := HF.out
                have := K0.out
                have := Hmid.out
                omega
              · skip
                have zc1 : (s : Int) < (m : Int) := by omega
                have yc1 : decide ((s : Int) < (m : Int)) = true := decide_eq_true zc1
                have zc2 : (m : Int) < (f : Int) := by omega
                have yc2 : decide ((m : Int) < (f : Int)) = true := decide_eq_true zc2
                have zc3 : ¬ (a : Int) < (s : Int) := by omega
                have yc3 : decide ((a : Int) < (s : Int)) = false := decide_eq_false zc3
                have zc4 : (s : Int) < (mid : Int) := by omega
                have yc4 : decide ((s : Int) < (mid : Int)) = true := decide_eq_true zc4
                have zc5 : (mid : Int) < (f : Int) := by omega
                have yc5 : decide ((mid : Int) < (f : Int)) = true := decide_eq_true zc5
                have zc6 : ¬ (f : Int) < (b : Int) := by omega
                have yc6 : decide ((f : Int) < (b : Int)) = false := decide_eq_false zc6
                have C3 : Hid (s = a) := Lib.hid (by have := HF.out; omega)
                have C6 : Hid (f = b) := Lib.hid (by have := HF.out; omega)
                clear c3
                clear c6
                clear hkg
                have G1 := GR.out s m f d wr S1.out rfl c1 c2 (by have := HF.out; omega)
                go_wp2_with fail
                refine G1.mono ?_
                rintro e w1 ⟨rfl, d1, S2, HR2, HP2⟩
                have HZ1 := Lib.hid (show d1.size = d.size from HR2.1)
                have HS2 : Hid (SWK enc k w0 blk off d1 w1) := S2
                have HP3 : Hid (PermIn a b d d1) := permIn_mono d d1 s f a b HF.out.1 HF.out.2.2.2.1 hb HP2
                have HQ := Lib.hid (HH.out d1 HR2)
                clear S2 HR2 HP2 S1
                have S3 := HS2.out
                have HP4 : PermIn a mid d1 d1 := permIn_refl d1 a mid
                have HS4 : SortedIn lt a mid d1 := by
                  have := HQ.out.1.2.1
                  rwa [C3.out] at this
                have HZ2 := Lib.hid (show d1.size = d.size from HZ1.out)
                have HS3 : Hid (SWK enc k w0 blk off d1 w1) := S3
                have HPP : Hid (PermIn a mid d1 d1 ∧ SortedIn lt a mid d1) := ⟨HP4, HS4⟩
                have HSR : Hid (SortedIn lt mid f d1 ∧ SortedIn lt f b d1 ∧ ∀ x y, mid ≤ x → x < f → f ≤ y → y < b → C d1[x]! d1[y]!) :=
                  ⟨sorted_congr HQ.out.2.1.1 fun t h1 h2 => HP4.2.1 t (Or.inr h1), sorted_congr HQ.out.2.1.2.1 fun t h1 h2 => HP4.2.1 t (Or.inr (by have := HF.out; omega)), fun x y h1 h2 h3 h4 => by
                    rw [HP4.2.1 x (Or.inr h1), HP4.2.1 y (Or.inr (by have := HF.out; omega))]
                    exact HQ.out.2.1.2.2 x y h1 h2 h3 h4⟩
                clear S3 HP4 HS4
                have S4 := HS3.out
                have HP5 : PermIn mid b d1 d1 := permIn_refl d1 mid b
                have HS5 : SortedIn lt mid b d1 := by rw [← C6.out]; exact HSR.out.1
                go_wp2
                (try simp only [Exit.inBlock, Exit.then])
                refine bodyPost_end (v := .tuple #[]) ?_ ?_ ?_
                case refine_1 => exact results_none rfl _ _ _
                case refine_2 => rfl
                obtain ⟨g1, g2⟩ := halves_glued (by have := HF.out; omega) (by have := HF.out; omega) (Nat.le_trans hb (Nat.le_of_eq HZ1.out.symm)) HQ.out.2.2 HPP.out.1 HPP.out.2 HP5 HS5
                exact ⟨rfl, d1, S4, permIn_trans _ _ _ a b HP3.out g1, g2⟩
          · have c3 : a < s := by have := HF.out; omega
            have c4 : ¬ s < mid := by have := HF.out; omega
            have c5 : mid < f := by have := HF.out; omega
            have c6 : f < b := by have := HF.out; omega
            have zc1 : (s : Int) < (m : Int) := by omega
            have yc1 : decide ((s : Int) < (m : Int)) = true := decide_eq_true zc1
            have zc2 : ¬ (m : Int) < (f : Int) := by omega
            have yc2 : decide ((m : Int) < (f : Int)) = false := decide_eq_false zc2
            have zc3 : (a : Int) < (s : Int) := by omega
            have yc3 : decide ((a : Int) < (s : Int)) = true := decide_eq_true zc3
            have zc4 : ¬ (s : Int) < (mid : Int) := by omega
            have yc4 : decide ((s : Int) < (mid : Int)) = false := decide_eq_false zc4
            have zc5 : (mid : Int) < (f : Int) := by omega
            have yc5 : decide ((mid : Int) < (f : Int)) = true := decide_eq_true zc5
            have zc6 : (f : Int) < (b : Int) := by omega
            have yc6 : decide ((f : Int) < (b : Int)) = true := decide_eq_true zc6
            have C2 : Hid (f = m) := Lib.hid (by have := HF.out; omega)
            have C4 : Hid (s = mid) := Lib.hid (by have := HF.out; omega)
            clear c2
            clear c4
            clear hkg
            have S2 := S1.out
            have HP2 : PermIn s f d d := permIn_refl d s f
            have HR2 : RotRes d s m f d := by rw [C2.out]; exact rot_none d s m
            have HZ1 := Lib.hid (show d.size = d.size from rfl)
            have HS2 : Hid (SWK enc k w0 blk off d wr) := S2
            have HP3 : Hid (PermIn a b d d) := permIn_mono d d s f a b HF.out.1 HF.out.2.2.2.1 hb HP2
            have HQ := Lib.hid (HH.out d HR2)
            clear S2 HR2 HP2 S1
            have S3 := HS2.out
            have HP4 : PermIn a mid d d := permIn_refl d a mid
            have HS4 : SortedIn lt a mid d := by rw [← C4.out]; exact HQ.out.1.1
            have HZ2 := Lib.hid (show d.size = d.size from HZ1.out)
            have HS3 : Hid (SWK enc k w0 blk off d wr) := S3
            have HPP : Hid (PermIn a mid d d ∧ SortedIn lt a mid d) := ⟨HP4, HS4⟩
            have HSR : Hid (SortedIn lt mid f d ∧ SortedIn lt f b d ∧ ∀ x y, mid ≤ x → x < f → f ≤ y → y < b → C d[x]! d[y]!) :=
              ⟨sorted_congr HQ.out.2.1.1 fun t h1 h2 => HP4.2.1 t (Or.inr h1), sorted_congr HQ.out.2.1.2.1 fun t h1 h2 => HP4.2.1 t (Or.inr (by have := HF.out; omega)), fun x y h1 h2 h3 h4 => by
                rw [HP4.2.1 x (Or.inr h1), HP4.2.1 y (Or.inr (by have := HF.out; omega))]
                exact HQ.out.2.1.2.2 x y h1 h2 h3 h4⟩
            clear S3 HP4 HS4
            have G3 := GM.out mid f b d wr HS3.out HZ2.out (by have := HF.out; omega) c5 c6 hb HSR.out.1 HSR.out.2.1 HSR.out.2.2
            go_wp2_with fail
            refine G3.mono ?_
            rintro e w3 ⟨rfl, d3, S4, HP5, HS5⟩
            go_wp2
            (try simp only [Exit.inBlock, Exit.then])
            refine bodyPost_end (v := .tuple #[]) ?_ ?_ ?_
            case refine_1 => exact results_none rfl _ _ _
            case refine_2 => rfl
            obtain ⟨g1, g2⟩ := halves_glued (by have := HF.out; omega) (by have := HF.out; omega) hb HQ.out.2.2 HPP.out.1 HPP.out.2 HP5 HS5
            exact ⟨rfl, d3, S4, permIn_trans _ _ _ a b HP3.out g1, g2⟩
        · have c3 : a < s := by have := HF.out; omega
          have c5 : ¬ mid < f := by have := HF.out; omega
          by_cases c4 : s < mid
          · skip
            exfalso
            have := HF.out
            have := K0.out
            have := Hmid.out
            omega
          · skip
            exfalso
            have := HF.out
            have := K0.out
            have := Hmid.out
            omega
  · have hmz : ¬ (mid : Int) < (m : Int) := by omega
    have HE : Hid (a = s0 ∧ m = r0) := ⟨by rw [if_neg hm] at hs0; exact hs0, by rw [if_neg hm] at hr0; exact hr0⟩
    clear hs0 hr0 hnn hpp
    go_wp2
    go_loopg [20, 21] (r0 - s0) (fun kx s20 s21 wr => ∃ s r : Nat, s20 = .int .i64 s ∧ s21 = .int .i64 r ∧ s0 ≤ s ∧ s ≤ r ∧ r ≤ r0 ∧ r - s ≤ kx ∧ Hid (SWK enc k w0 blk off d wr) ∧ Hid (∀ x y, a ≤ x → x < s → nn - s ≤ y → y < b → lt d[y]! d[x]! = false) ∧ Hid (∀ x y, r ≤ x → x < m → m ≤ y → y < nn - r → lt d[x]! d[y]! = false))
    case atStart => exact ⟨s0, r0, by rw [HE.out.1], by rw [HE.out.2], Nat.le_refl _, K0.out.2.1, Nat.le_refl _, Nat.le_refl _, S0, (fun x y h1 h2 h3 h4 => by have := K0.out; omega), (fun x y h1 h2 h3 h4 => by have := K0.out; omega)⟩
    case round =>
      clear S0
      obtain ⟨s, r, rfl, rfl, hs, hsr, hrr, hkx, S1, HA, HB⟩ := hrel
      by_cases hlt : s < r
      · have hltz : (s : Int) < (r : Int) := by omega
        have hr1 : r < 1099511627776 := by have := K0.out; omega
        obtain ⟨sm, hsm⟩ : ∃ x, s + r = x := ⟨_, rfl⟩
        obtain ⟨h, hh⟩ : ∃ x, sm / 2 = x := ⟨_, rfl⟩
        have esm : (s : Int) + (r : Int) = (sm : Int) := by omega
        have wsm : IntKind.u64.wrap (sm : Int) = (sm : Int) := by rw [IntKind.wrap_u64]; omega
        have dsm : (sm : Int) / 2 = (h : Int) := by omega
        have d2sm : (sm : Int) >>> 1 = (h : Int) := by rw [Int.shiftRight_eq_div_pow]; omega
        have wsh : IntKind.i64.wrap (h : Int) = (h : Int) := by rw [IntKind.wrap_i64]; omega
        have wuh : IntKind.u64.wrap (h : Int) = (h : Int) := by rw [IntKind.wrap_u64]; omega
        have Hh : Hid ((s + r) / 2 = h) := by show _ = _; rw [hsm]; exact hh
        have b1h : s ≤ h := by omega
        have b2h : h < r ∨ s = r := by omega
        clear hsm hh
        obtain ⟨q, hq⟩ : ∃ q, pp - h = q := ⟨_, rfl⟩
        have eq1 : (pp : Int) - (h : Int) = (q : Int) := by have := K0.out; omega
        have hbd : h < d.size := by have := K0.out; omega
        have had : q < d.size := by have := K0.out; omega
        have hk : a ≤ h ∧ h < m ∧ m ≤ q ∧ q < b ∧ nn - (h + 1) = q ∧ nn - h = q + 1 := by have := K0.out; omega
        have HK : Hid (a ≤ h ∧ h < m ∧ m ≤ q ∧ q < b ∧ nn - (h + 1) = q ∧ nn - h = q + 1) := hk
        clear hk hq
        have eha : ((h : Int)).toNat = h := by omega
        have ehp : (0 : Int) ≤ (h : Int) := by omega
        have ehb : (h : Int) < (d.size : Int) := by omega
        have ehw : IntKind.i64.wrap ((h : Int)) = (h : Int) := by rw [IntKind.wrap_i64]; omega
        have eqa : ((q : Int)).toNat = q := by omega
        have eqp : (0 : Int) ≤ (q : Int) := by omega
        have eqb : (q : Int) < (d.size : Int) := by omega
        have eqw : IntKind.i64.wrap ((q : Int)) = (q : Int) := by rw [IntKind.wrap_i64]; omega
        obtain ⟨xi, hxi⟩ : ∃ x, d[q]! = x := ⟨_, rfl⟩
        obtain ⟨xj, hxj⟩ : ∃ x, d[h]! = x := ⟨_, rfl⟩
        have li : ∀ n' os', Sem.run P (loadCellsFrom ⟨blk, off + q * k, none⟩ 0 k #[]) (grow (wr.drewN n') os') = .ok (enc xi).toArray (grow (wr.drewN n') os') := fun n' os' => by rw [← hxi]; exact S1.out.ld RR.out (by omega) P q (by omega) n' os'
        have lj : ∀ n' os', Sem.run P (loadCellsFrom ⟨blk, off + h * k, none⟩ 0 k #[]) (grow (wr.drewN n') os') = .ok (enc xj).toArray (grow (wr.drewN n') os') := fun n' os' => by rw [← hxj]; exact S1.out.ld RR.out (by omega) P h (by omega) n' os'
        have hcg : ∀ n' os', Calls P g (#[.agg (enc xi).toArray, .agg (enc xj).toArray] ++ cb) (grow (wr.drewN n') os') fun e w' => e = .returned (.int .i64 (cn xi xj)) ∧ ∃ q os'', w' = grow ((grow (wr.drewN n') os').drewN q) os'' := fun n' os' => S1.out.cmp HC.out (by omega) xi xj n' os'
        have SG : Hid (∀ n' os', SWK enc k w0 blk off d (grow (wr.drewN n') os')) := fun n' os' => S1.out.grown n' os'
        have HXI : Hid (d[q]! = xi ∧ d[h]! = xj) := ⟨hxi, hxj⟩
        clear hxi hxj S1
        by_cases hv : cn xi xj < 0
        · have HV : Hid (cn xi xj < 0) := hv
          have hvd : decide (cn xi xj < 0) = true := decide_eq_true hv
          have hvn : (!decide (cn xi xj < 0)) = false := by rw [hvd]; rfl
          go_wp2_with fail
          go_quiet_grown (first | (go_at_fn g; refine Calls.grown_of (hcg _ _)))
          go_wp2
          go_roundg (h - s)
          case measure => omega
          case rel => exact ⟨s, h, rfl, rfl, hs, by omega, by omega, Nat.le_refl _, SG.out _ _, HA.out, by
            show ∀ x y, h ≤ x → x < m → m ≤ y → y < nn - h → lt d[x]! d[y]! = false
            rw [HK.out.2.2.2.2.2]
            exact both_high HO.out.swo HL.out HR.out HK.out.1 HK.out.2.2.2.1 (HO.out.yes _ _ (HX.out h q HK.out.1 HK.out.2.1 HK.out.2.2.1 HK.out.2.2.2.1) (by rw [HXI.out.1, HXI.out.2]; have := HV.out; omega))⟩
        · have HV : Hid (¬ cn xi xj < 0) := hv
          have hvd : decide (cn xi xj < 0) = false := decide_eq_false hv
          have hvn : (!decide (cn xi xj < 0)) = true := by rw [hvd]; rfl
          go_wp2_with fail
          go_quiet_grown (first | (go_at_fn g; refine Calls.grown_of (hcg _ _)))
          go_wp2
          go_roundg (r - (h + 1))
          case measure => omega
          case rel => exact ⟨h + 1, r, by first | rfl | simp, rfl, by omega, by omega, hrr, Nat.le_refl _, SG.out _ _, by
            show ∀ x y, a ≤ x → x < h + 1 → nn - (h + 1) ≤ y → y < b → lt d[y]! d[x]! = false
            rw [HK.out.2.2.2.2.1]
            exact both_low HO.out.swo HL.out HR.out HK.out.2.1 HK.out.2.2.1 (HO.out.no _ _ (HX.out h q HK.out.1 HK.out.2.1 HK.out.2.2.1 HK.out.2.2.2.1) (by rw [HXI.out.1, HXI.out.2]; have := HV.out; omega)), HB.out⟩
      · have hltz : ¬ (s : Int) < (r : Int) := by omega
        obtain rfl : s = r := by omega
        obtain ⟨f, hf⟩ : ∃ x, nn - s = x := ⟨_, rfl⟩
        have hkf : (nn : Int) - (s : Int) = (f : Int) ∧ a ≤ s ∧ s ≤ m ∧ m ≤ f ∧ f ≤ b ∧ s + (f - m) = mid ∧ s ≤ mid ∧ mid ≤ f ∧ a < mid ∧ mid < b := by have := K0.out; omega
        have ef := hkf.1
        have HF : Hid (a ≤ s ∧ s ≤ m ∧ m ≤ f ∧ f ≤ b ∧ s + (f - m) = mid ∧ s ≤ mid ∧ mid ≤ f ∧ a < mid ∧ mid < b ∧ nn = s + f ∧ s ≤ r0 ∧ s0 ≤ s) := Lib.hid (by have := hkf.2; have := K0.out; omega)
        rw [hf] at HA HB
        have HH := Lib.hid (fun (d1 : Array α) (h : RotRes d s m f d1) => by
          have := rot_halves (lt := lt) h HF.out.1 HF.out.2.1 HF.out.2.2.1 HF.out.2.2.2.1 C HL.out HR.out HX.out HA.out HB.out
          rwa [HF.out.2.2.2.2.1] at this)
        have hkg := hkf.2
        clear hkf hf HA HB hrr hkx hsr hltz hlt
        by_cases c1 : s < m
        · by_cases c2 : m < f
          · have c4 : s < mid := by have := HF.out; omega
            have c5 : mid < f := by have := HF.out; omega
            by_cases c3 : a < s
            · by_cases c6 : f < b
              · skip
                have zc1 : (s : Int) < (m : Int) := by omega
                have yc1 : decide ((s : Int) < (m : Int)) = true := decide_eq_true zc1
                have zc2 : (m : Int) < (f : Int) := by omega
                have yc2 : decide ((m : Int) < (f : Int)) = true := decide_eq_true zc2
                have zc3 : (a : Int) < (s : Int) := by omega
                have yc3 : decide ((a : Int) < (s : Int)) = true := decide_eq_true zc3
                have zc4 : (s : Int) < (mid : Int) := by omega
                have yc4 : decide ((s : Int) < (mid : Int)) = true := decide_eq_true zc4
                have zc5 : (mid : Int) < (f : Int) := by omega
                have yc5 : decide ((mid : Int) < (f : Int)) = true := decide_eq_true zc5
                have zc6 : (f : Int) < (b : Int) := by omega
                have yc6 : decide ((f : Int) < (b : Int)) = true := decide_eq_true zc6
                clear hkg
                have G1 := GR.out s m f d wr S1.out rfl c1 c2 (by have := HF.out; omega)
                go_wp2_with fail
                refine G1.mono ?_
                rintro e w1 ⟨rfl, d1, S2, HR2, HP2⟩
                have HZ1 := Lib.hid (show d1.size = d.size from HR2.1)
                have HS2 : Hid (SWK enc k w0 blk off d1 w1) := S2
                have HP3 : Hid (PermIn a b d d1) := permIn_mono d d1 s f a b HF.out.1 HF.out.2.2.2.1 hb HP2
                have HQ := Lib.hid (HH.out d1 HR2)
                clear S2 HR2 HP2 S1
                have G2 := GM.out a s mid d1 w1 HS2.out HZ1.out (by have := HF.out; omega) c3 c4 (by have := HF.out; omega) HQ.out.1.1 HQ.out.1.2.1 HQ.out.1.2.2
                go_wp2_with fail
                refine G2.mono ?_
                rintro e w2 ⟨rfl, d2, S3, HP4, HS4⟩
                have HZ2 := Lib.hid (show d2.size = d.size from HP4.1.trans HZ1.out)
                have HS3 : Hid (SWK enc k w0 blk off d2 w2) := S3
                have HPP : Hid (PermIn a mid d1 d2 ∧ SortedIn lt a mid d2) := ⟨HP4, HS4⟩
                have HSR : Hid (SortedIn lt mid f d2 ∧ SortedIn lt f b d2 ∧ ∀ x y, mid ≤ x → x < f → f ≤ y → y < b → C d2[x]! d2[y]!) :=
                  ⟨sorted_congr HQ.out.2.1.1 fun t h1 h2 => HP4.2.1 t (Or.inr h1), sorted_congr HQ.out.2.1.2.1 fun t h1 h2 => HP4.2.1 t (Or.inr (by have := HF.out; omega)), fun x y h1 h2 h3 h4 => by
                    rw [HP4.2.1 x (Or.inr h1), HP4.2.1 y (Or.inr (by have := HF.out; omega))]
                    exact HQ.out.2.1.2.2 x y h1 h2 h3 h4⟩
                clear S3 HP4 HS4
                have G3 := GM.out mid f b d2 w2 HS3.out HZ2.out (by have := HF.out; omega) c5 c6 hb HSR.out.1 HSR.out.2.1 HSR.out.2.2
                go_wp2_with fail
                refine G3.mono ?_
                rintro e w3 ⟨rfl, d3, S4, HP5, HS5⟩
                go_wp2
                (try simp only [Exit.inBlock, Exit.then])
                refine bodyPost_end (v := .tuple #[]) ?_ ?_ ?_
                case refine_1 => exact results_none rfl _ _ _
                case refine_2 => rfl
                obtain ⟨g1, g2⟩ := halves_glued (by have := HF.out; omega) (by have := HF.out; omega) (Nat.le_trans hb (Nat.le_of_eq HZ1.out.symm)) HQ.out.2.2 HPP.out.1 HPP.out.2 HP5 HS5
                exact ⟨rfl, d3, S4, permIn_trans _ _ _ a b HP3.out g1, g2⟩
              · skip
                exfalso
                have := HF.out
                have := K0.out
                have := Hmid.out
                omega
            · by_cases c6 : f < b
              · skip
                have zc1 : (s : Int) < (m : Int) := by omega
                have yc1 : decide ((s : Int) < (m : Int)) = true := decide_eq_true zc1
                have zc2 : (m : Int) < (f : Int) := by omega
                have yc2 : decide ((m : Int) < (f : Int)) = true := decide_eq_true zc2
                have zc3 : ¬ (a : Int) < (s : Int) := by omega
                have yc3 : decide ((a : Int) < (s : Int)) = false := decide_eq_false zc3
                have zc4 : (s : Int) < (mid : Int) := by omega
                have yc4 : decide ((s : Int) < (mid : Int)) = true := decide_eq_true zc4
                have zc5 : (mid : Int) < (f : Int) := by omega
                have yc5 : decide ((mid : Int) < (f : Int)) = true := decide_eq_true zc5
                have zc6 : (f : Int) < (b : Int) := by omega
                have yc6 : decide ((f : Int) < (b : Int)) = true := decide_eq_true zc6
                have C3 : Hid (s = a) := Lib.hid (by have := HF.out; omega)
                clear c3
                clear hkg
                have G1 := GR.out s m f d wr S1.out rfl c1 c2 (by have := HF.out; omega)
                go_wp2_with fail
                refine G1.mono ?_
                rintro e w1 ⟨rfl, d1, S2, HR2, HP2⟩
                have HZ1 := Lib.hid (show d1.size = d.size from HR2.1)
                have HS2 : Hid (SWK enc k w0 blk off d1 w1) := S2
                have HP3 : Hid (PermIn a b d d1) := permIn_mono d d1 s f a b HF.out.1 HF.out.2.2.2.1 hb HP2
                have HQ := Lib.hid (HH.out d1 HR2)
                clear S2 HR2 HP2 S1
                have S3 := HS2.out
                have HP4 : PermIn a mid d1 d1 := permIn_refl d1 a mid
                have HS4 : SortedIn lt a mid d1 := by
                  have := HQ.out.1.2.1
                  rwa [C3.out] at this
                have HZ2 := Lib.hid (show d1.size = d.size from HZ1.out)
                have HS3 : Hid (SWK enc k w0 blk off d1 w1) := S3
                have HPP : Hid (PermIn a mid d1 d1 ∧ SortedIn lt a mid d1) := ⟨HP4, HS4⟩
                have HSR : Hid (SortedIn lt mid f d1 ∧ SortedIn lt f b d1 ∧ ∀ x y, mid ≤ x → x < f → f ≤ y → y < b → C d1[x]! d1[y]!) :=
                  ⟨sorted_congr HQ.out.2.1.1 fun t h1 h2 => HP4.2.1 t (Or.inr h1), sorted_congr HQ.out.2.1.2.1 fun t h1 h2 => HP4.2.1 t (Or.inr (by have := HF.out; omega)), fun x y h1 h2 h3 h4 => by
                    rw [HP4.2.1 x (Or.inr h1), HP4.2.1 y (Or.inr (by have := HF.out; omega))]
                    exact HQ.out.2.1.2.2 x y h1 h2 h3 h4⟩
                clear S3 HP4 HS4
                have G3 := GM.out mid f b d1 w1 HS3.out HZ2.out (by have := HF.out; omega) c5 c6 hb HSR.out.1 HSR.out.2.1 HSR.out.2.2
                go_wp2_with fail
                refine G3.mono ?_
                rintro e w3 ⟨rfl, d3, S4, HP5, HS5⟩
                go_wp2
                (try simp only [Exit.inBlock, Exit.then])
                refine bodyPost_end (v := .tuple #[]) ?_ ?_ ?_
                case refine_1 => exact results_none rfl _ _ _
                case refine_2 => rfl
                obtain ⟨g1, g2⟩ := halves_glued (by have := HF.out; omega) (by have := HF.out; omega) (Nat.le_trans hb (Nat.le_of_eq HZ1.out.symm)) HQ.out.2.2 HPP.out.1 HPP.out.2 HP5 HS5
                exact ⟨rfl, d3, S4, permIn_trans _ _ _ a b HP3.out g1, g2⟩
              · skip
                have zc1 : (s : Int) < (m : Int) := by omega
                have yc1 : decide ((s : Int) < (m : Int)) = true := decide_eq_true zc1
                have zc2 : (m : Int) < (f : Int) := by omega
                have yc2 : decide ((m : Int) < (f : Int)) = true := decide_eq_true zc2
                have zc3 : ¬ (a : Int) < (s : Int) := by omega
                have yc3 : decide ((a : Int) < (s : Int)) = false := decide_eq_false zc3
                have zc4 : (s : Int) < (mid : Int) := by omega
                have yc4 : decide ((s : Int) < (mid : Int)) = true := decide_eq_true zc4
                have zc5 : (mid : Int) < (f : Int) := by omega
                have yc5 : decide ((mid : Int) < (f : Int)) = true := decide_eq_true zc5
                have zc6 : ¬ (f : Int) < (b : Int) := by omega
                have yc6 : decide ((f : Int) < (b : Int)) = false := decide_eq_false zc6
                have C3 : Hid (s = a) := Lib.hid (by have := HF.out; omega)
                have C6 : Hid (f = b) := Lib.hid (by have := HF.out; omega)
                clear c3
                clear c6
                clear hkg
                have G1 := GR.out s m f d wr S1.out rfl c1 c2 (by have := HF.out; omega)
                go_wp2_with fail
                refine G1.mono ?_
                rintro e w1 ⟨rfl, d1, S2, HR2, HP2⟩
                have HZ1 := Lib.hid (show d1.size = d.size from HR2.1)
                have HS2 : Hid (SWK enc k w0 blk off d1 w1) := S2
                have HP3 : Hid (PermIn a b d d1) := permIn_mono d d1 s f a b HF.out.1 HF.out.2.2.2.1 hb HP2
                have HQ := Lib.hid (HH.out d1 HR2)
                clear S2 HR2 HP2 S1
                have S3 := HS2.out
                have HP4 : PermIn a mid d1 d1 := permIn_refl d1 a mid
                have HS4 : SortedIn lt a mid d1 := by
                  have := HQ.out.1.2.1
                  rwa [C3.out] at this
                have HZ2 := Lib.hid (show d1.size = d.size from HZ1.out)
                have HS3 : Hid (SWK enc k w0 blk off d1 w1) := S3
                have HPP : Hid (PermIn a mid d1 d1 ∧ SortedIn lt a mid d1) := ⟨HP4, HS4⟩
                have HSR : Hid (SortedIn lt mid f d1 ∧ SortedIn lt f b d1 ∧ ∀ x y, mid ≤ x → x < f → f ≤ y → y < b → C d1[x]! d1[y]!) :=
                  ⟨sorted_congr HQ.out.2.1.1 fun t h1 h2 => HP4.2.1 t (Or.inr h1), sorted_congr HQ.out.2.1.2.1 fun t h1 h2 => HP4.2.1 t (Or.inr (by have := HF.out; omega)), fun x y h1 h2 h3 h4 => by
                    rw [HP4.2.1 x (Or.inr h1), HP4.2.1 y (Or.inr (by have := HF.out; omega))]
                    exact HQ.out.2.1.2.2 x y h1 h2 h3 h4⟩
                clear S3 HP4 HS4
                have S4 := HS3.out
                have HP5 : PermIn mid b d1 d1 := permIn_refl d1 mid b
                have HS5 : SortedIn lt mid b d1 := by rw [← C6.out]; exact HSR.out.1
                go_wp2
                (try simp only [Exit.inBlock, Exit.then])
                refine bodyPost_end (v := .tuple #[]) ?_ ?_ ?_
                case refine_1 => exact results_none rfl _ _ _
                case refine_2 => rfl
                obtain ⟨g1, g2⟩ := halves_glued (by have := HF.out; omega) (by have := HF.out; omega) (Nat.le_trans hb (Nat.le_of_eq HZ1.out.symm)) HQ.out.2.2 HPP.out.1 HPP.out.2 HP5 HS5
                exact ⟨rfl, d1, S4, permIn_trans _ _ _ a b HP3.out g1, g2⟩
          · have c3 : a < s := by have := HF.out; omega
            have c4 : ¬ s < mid := by have := HF.out; omega
            have c5 : mid < f := by have := HF.out; omega
            have c6 : f < b := by have := HF.out; omega
            exfalso
            have := HF.out
            have := K0.out
            have := Hmid.out
            omega
        · have c3 : a < s := by have := HF.out; omega
          have c5 : ¬ mid < f := by have := HF.out; omega
          by_cases c4 : s < mid
          · skip
            have zc1 : ¬ (s : Int) < (m : Int) := by omega
            have yc1 : decide ((s : Int) < (m : Int)) = false := decide_eq_false zc1
            have zc3 : (a : Int) < (s : Int) := by omega
            have yc3 : decide ((a : Int) < (s : Int)) = true := decide_eq_true zc3
            have zc4 : (s : Int) < (mid : Int) := by omega
            have yc4 : decide ((s : Int) < (mid : Int)) = true := decide_eq_true zc4
            have zc5 : ¬ (mid : Int) < (f : Int) := by omega
            have yc5 : decide ((mid : Int) < (f : Int)) = false := decide_eq_false zc5
            have C1 : Hid (s = m) := Lib.hid (by have := HF.out; omega)
            have C5 : Hid (f = mid) := Lib.hid (by have := HF.out; omega)
            clear c1
            clear c5
            clear hkg
            have S2 := S1.out
            have HP2 : PermIn s f d d := permIn_refl d s f
            have HR2 : RotRes d s m f d := by rw [C1.out]; exact rot_nil d m f
            have HZ1 := Lib.hid (show d.size = d.size from rfl)
            have HS2 : Hid (SWK enc k w0 blk off d wr) := S2
            have HP3 : Hid (PermIn a b d d) := permIn_mono d d s f a b HF.out.1 HF.out.2.2.2.1 hb HP2
            have HQ := Lib.hid (HH.out d HR2)
            clear S2 HR2 HP2 S1
            have G2 := GM.out a s mid d wr HS2.out HZ1.out (by have := HF.out; omega) c3 c4 (by have := HF.out; omega) HQ.out.1.1 HQ.out.1.2.1 HQ.out.1.2.2
            go_wp2_with fail
            refine G2.mono ?_
            rintro e w2 ⟨rfl, d2, S3, HP4, HS4⟩
            have HZ2 := Lib.hid (show d2.size = d.size from HP4.1)
            have HS3 : Hid (SWK enc k w0 blk off d2 w2) := S3
            have HPP : Hid (PermIn a mid d d2 ∧ SortedIn lt a mid d2) := ⟨HP4, HS4⟩
            have HSR : Hid (SortedIn lt mid f d2 ∧ SortedIn lt f b d2 ∧ ∀ x y, mid ≤ x → x < f → f ≤ y → y < b → C d2[x]! d2[y]!) :=
              ⟨sorted_congr HQ.out.2.1.1 fun t h1 h2 => HP4.2.1 t (Or.inr h1), sorted_congr HQ.out.2.1.2.1 fun t h1 h2 => HP4.2.1 t (Or.inr (by have := HF.out; omega)), fun x y h1 h2 h3 h4 => by
                rw [HP4.2.1 x (Or.inr h1), HP4.2.1 y (Or.inr (by have := HF.out; omega))]
                exact HQ.out.2.1.2.2 x y h1 h2 h3 h4⟩
            clear S3 HP4 HS4
            have S4 := HS3.out
            have HP5 : PermIn mid b d2 d2 := permIn_refl d2 mid b
            have HS5 : SortedIn lt mid b d2 := by
              have := HSR.out.2.1
              rwa [C5.out] at this
            go_wp2
            (try simp only [Exit.inBlock, Exit.then])
            refine bodyPost_end (v := .tuple #[]) ?_ ?_ ?_
            case refine_1 => exact results_none rfl _ _ _
            case refine_2 => rfl
            obtain ⟨g1, g2⟩ := halves_glued (by have := HF.out; omega) (by have := HF.out; omega) hb HQ.out.2.2 HPP.out.1 HPP.out.2 HP5 HS5
            exact ⟨rfl, d2, S4, permIn_trans _ _ _ a b HP3.out g1, g2⟩
          · skip
            have zc1 : ¬ (s : Int) < (m : Int) := by omega
            have yc1 : decide ((s : Int) < (m : Int)) = false := decide_eq_false zc1
            have zc3 : (a : Int) < (s : Int) := by omega
            have yc3 : decide ((a : Int) < (s : Int)) = true := decide_eq_true zc3
            have zc4 : ¬ (s : Int) < (mid : Int) := by omega
            have yc4 : decide ((s : Int) < (mid : Int)) = false := decide_eq_false zc4
            have zc5 : ¬ (mid : Int) < (f : Int) := by omega
            have yc5 : decide ((mid : Int) < (f : Int)) = false := decide_eq_false zc5
            have C1 : Hid (s = m) := Lib.hid (by have := HF.out; omega)
            have C4 : Hid (s = mid) := Lib.hid (by have := HF.out; omega)
            have C5 : Hid (f = mid) := Lib.hid (by have := HF.out; omega)
            clear c1
            clear c4
            clear c5
            clear hkg
            have S2 := S1.out
            have HP2 : PermIn s f d d := permIn_refl d s f
            have HR2 : RotRes d s m f d := by rw [C1.out]; exact rot_nil d m f
            have HZ1 := Lib.hid (show d.size = d.size from rfl)
            have HS2 : Hid (SWK enc k w0 blk off d wr) := S2
            have HP3 : Hid (PermIn a b d d) := permIn_mono d d s f a b HF.out.1 HF.out.2.2.2.1 hb HP2
            have HQ := Lib.hid (HH.out d HR2)
            clear S2 HR2 HP2 S1
            have S3 := HS2.out
            have HP4 : PermIn a mid d d := permIn_refl d a mid
            have HS4 : SortedIn lt a mid d := by rw [← C4.out]; exact HQ.out.1.1
            have HZ2 := Lib.hid (show d.size = d.size from HZ1.out)
            have HS3 : Hid (SWK enc k w0 blk off d wr) := S3
            have HPP : Hid (PermIn a mid d d ∧ SortedIn lt a mid d) := ⟨HP4, HS4⟩
            have HSR : Hid (SortedIn lt mid f d ∧ SortedIn lt f b d ∧ ∀ x y, mid ≤ x → x < f → f ≤ y → y < b → C d[x]! d[y]!) :=
              ⟨sorted_congr HQ.out.2.1.1 fun t h1 h2 => HP4.2.1 t (Or.inr h1), sorted_congr HQ.out.2.1.2.1 fun t h1 h2 => HP4.2.1 t (Or.inr (by have := HF.out; omega)), fun x y h1 h2 h3 h4 => by
                rw [HP4.2.1 x (Or.inr h1), HP4.2.1 y (Or.inr (by have := HF.out; omega))]
                exact HQ.out.2.1.2.2 x y h1 h2 h3 h4⟩
            clear S3 HP4 HS4
            have S4 := HS3.out
            have HP5 : PermIn mid b d d := permIn_refl d mid b
            have HS5 : SortedIn lt mid b d := by
              have := HSR.out.2.1
              rwa [C5.out] at this
            go_wp2
            (try simp only [Exit.inBlock, Exit.then])
            refine bodyPost_end (v := .tuple #[]) ?_ ?_ ?_
            case refine_1 => exact results_none rfl _ _ _
            case refine_2 => rfl
            obtain ⟨g1, g2⟩ := halves_glued (by have := HF.out; omega) (by have := HF.out; omega) hb HQ.out.2.2 HPP.out.1 HPP.out.2 HP5 HS5
            exact ⟨rfl, d, S4, permIn_trans _ _ _ a b HP3.out g1, g2⟩
end Go.Proofs.Ytnadhpajelkngaa
