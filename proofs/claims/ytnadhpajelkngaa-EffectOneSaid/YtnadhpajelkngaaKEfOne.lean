/- Each ID that is named is told once, rising, with just what was done with it: it answers true and changes nothing. No condition. (Merged of 2 texts.) -/
import Derived.Test.YtnadhpajelkngaaKLnd
import Derived.Test.YtnadhpajelkngaaKC0
import Derived.Test.YtnadhpajelkngaaKC1
import Derived.Test.YtnadhpajelkngaaKRow
import Derived.Test.YtnadhpajelkngaaKUm
import Derived.BigQuiet
import Derived.Deep.CutRange
import Derived.Laws.Cover1
import Derived.Test.YtnadhpajelkngaaKArg
import Derived.ChangeMaps5
/- EffectOne, walked: each ID that is named is told once, rising, with just what was done with it. Condition: what memory may hold. -/
namespace Go.Proofs.Ytnadhpajelkngaa
open Go.RowKit Go.Deep

set_option maxHeartbeats 16000000 in
set_option maxRecDepth 100000 in
theorem effectOne_any (B : Option Addr) (l : List ActV) (d : Nat) (hl : l.length ≤ maxLen) (gl : ∀ y ∈ l, y.Good) (w : World) (hB : ActsAt w B l ∧ l.length ≤ d) :
    Calls Try.prog 4 #[.slice B l.length d] w fun e w' => e = .returned (.bool true) ∧ Below w.heap.size w w' := by
  have GA := Lib.hid (fun w => eawake_any w)
  have GW := Lib.hid (alikeActs_at 3000 d hl gl w hB.1)
  have HBT := Lib.hid (fun (X : World) (h : Below w.heap.size w X) => hB.1.below h)
  have HBC := Lib.hid hB.2
  clear hB
  obtain ⟨T, HT⟩ : ∃ T, Hid (actsWeight 3000 l = T) := ⟨_, Lib.hid rfl⟩
  rw [HT.out] at GW
  by_cases hw : 3000 < T
  · clear gl
    have hwi : (3000 : Int) < (T : Int) := by omega
    go_enter Try.func4, Try.ntmps4
    go_wp2_with fail
    refine GW.out.mono ?_
    rintro e w1 ⟨rfl, hb1⟩
    have HB1 := Lib.hid hb1
    clear hb1
    go_wp2_with fail
    refine (GA.out _).mono ?_
    rintro e w2 ⟨rfl, hb2⟩
    have HB2 := Lib.hid (HB1.out.trans (hb2.mono HB1.out.size))
    go_wp2
    go_ret
    exact ⟨rfl, HB2.out⟩
  obtain ⟨hl4, hact⟩ := acts_held (lim := 3000) (by omega) gl (by rw [HT.out]; omega)
  have hwi : ¬ (3000 : Int) < (T : Int) := by omega
  have HACT := Lib.hid hact
  have GO := Lib.hid (fun (X : World) (h : Below w.heap.size w X) => effOf_any B d l (by omega) HBC.out hact X (HBT.out X h))
  have HEH := Lib.hid (eff_held hact)
  have HEL : Hid ((eff l).length ≤ 4000) := Lib.hid (by have := effIds_len l; rw [eff, List.length_map]; omega)
  have HRISE := Lib.hid (effIds_rise l)
  clear hact gl hw
  go_enter Try.func4, Try.ntmps4
  go_wp2_with fail
  refine GW.out.mono ?_
  rintro e w1 ⟨rfl, hb1⟩
  have HB1 := Lib.hid hb1
  clear hb1 GW
  go_wp2_with fail
  refine (GO.out _ HB1.out).mono ?_
  rintro e w2 ⟨⟨v, rfl, A2, c2, L, rfl, hat, hk, hgood, hcap⟩, hb2⟩
  have HB2 := Lib.hid (HB1.out.trans (hb2.mono HB1.out.size))
  have HLEN : Hid (L.length = (eff l).length) := Lib.hid (by have := congrArg List.length hk; simpa using this)
  have HLK : Hid (∀ (i : Nat) (hi : i < L.length), ∃ id, (effIds l)[i]? = some id ∧ L[i].k = effOne l id) := Lib.hid (fun i hi => by
    have h1 := congrArg (fun q => q[i]?) hk
    simp only [eff, List.getElem?_map, List.getElem?_eq_getElem hi, Option.map_some] at h1
    cases h2 : (effIds l)[i]? with
    | none => rw [h2] at h1; cases h1
    | some id => rw [h2] at h1; injection h1 with h1; exact ⟨id, rfl, h1⟩)
  have HORD : Hid (∀ (i : Nat) (hi : i + 1 < L.length), L[i].k.id < L[i + 1].k.id) := Lib.hid (fun i hi => by
    obtain ⟨a, ha, ea⟩ := HLK.out i (by omega)
    obtain ⟨b, hb, eb⟩ := HLK.out (i + 1) hi
    obtain ⟨ha1, ha2⟩ := List.getElem?_eq_some_iff.1 ha
    obtain ⟨hb1, hb2⟩ := List.getElem?_eq_some_iff.1 hb
    rw [ea, eb, effOne_id, effOne_id, ← ha2, ← hb2]
    exact List.pairwise_iff_getElem.1 HRISE.out i (i + 1) ha1 hb1 (by omega))
  have HGK : Hid (∀ y ∈ L, y.Good ∧ KeyH y.k) := Lib.hid (fun y hy => ⟨hgood y hy, HEH.out _ (by rw [← hk]; exact List.mem_map.2 ⟨y, hy, rfl⟩)⟩)
  have HK := Lib.hid hk
  have HCAP := Lib.hid hcap
  have HXT := Lib.hid (fun (X : World) (h : Below w2.heap.size w2 X) => hat.below h)
  have HN2 := Lib.hid (Below.refl w2.heap.size w2)
  clear hb2 hat hk hgood hcap GO HB1
  have hLl : L.length ≤ 4000 := by have := HLEN.out; have := HEL.out; omega
  go_wp2
  go_loopw [4, 5, 6, 7, 8, 9] (fun s4 s5 s6 s7 s8 s9 wr => ∃ i : Nat, i ≤ L.length ∧ s4 = .int .i64 (i : Int) ∧ s5 = s5 ∧ s6 = s6 ∧ s7 = s7 ∧ s8 = s8 ∧ s9 = s9 ∧ Hid (Below w.heap.size w wr) ∧ Hid (Below w2.heap.size w2 wr)) (fun s4 _ _ _ _ _ _ => L.length - (intOf s4).toNat)
  case atStart => exact ⟨0, Nat.zero_le _, rfl, rfl, rfl, rfl, rfl, rfl, HB2, HN2⟩
  case round =>
    clear HB2 HN2
    obtain ⟨i, hi, rfl, _, _, _, _, _, HB, HN⟩ := hrel
    obtain ⟨wo, hwo⟩ : ∃ x, x = wr := ⟨wr, rfl⟩
    subst hwo
    by_cases hil : i < L.length
    · have hiI : (i : Int) < (L.length : Int) := by omega
      obtain ⟨xb, xo, rfl, _⟩ := (HXT.out _ HN.out).form (by omega)
      have HY := Lib.hid (fun (X : World) (h : Below w2.heap.size w2 X) => (HXT.out X h).at_ hil)
      obtain ⟨id, _, hyk⟩ := HLK.out i hil
      have hfl := eff_flags l id
      rw [← hyk] at hfl
      have hid : L[i].k.id = id := by rw [hyk, effOne_id]
      have HPREV : Hid (∀ j : Nat, j + 1 = i → ∀ (X : World), Below w2.heap.size w2 X → ∃ pid : Int, pid < L[i].k.id ∧ X.cell? ⟨xb, xo + j * 8, none⟩ = some (.int .i64 pid)) := Lib.hid (fun j hj X h => by
        have h2 : j + 1 < L.length := by omega
        have h3 := HORD.out j h2
        refine ⟨L[j].k.id, ?_, ((HXT.out X h).at_ (by omega)).1⟩
        have : L[i] = L[j + 1] := by congr 1; omega
        rw [this]
        exact h3)
      generalize L[i] = y at HY hfl hid HPREV
      clear hyk
      obtain ⟨⟨yi, yo, ye, yr, yc, ym, yp, yn⟩, yA, yC⟩ := y
      simp only at HY hfl hid HPREV
      subst hid
      obtain ⟨h1, h2, h3, h4, h5, h6⟩ := hfl
      have HF1 := Lib.hid h1
      have HF2 := Lib.hid h2
      have HF3 := Lib.hid h3
      have HF4 := Lib.hid h4
      have HF5 := Lib.hid h5
      have HF6 := Lib.hid h6
      clear h1 h2 h3 h4 h5 h6
      go_wp2
      go_loopw [5, 6, 7, 8, 9] (fun s5 s6 s7 s8 s9 wr => ∃ (k : Nat) (c r m q : Bool), k ≤ l.length ∧ s5 = .bool c ∧ s6 = .bool r ∧ s7 = .bool m ∧ s8 = .bool q ∧ s9 = .int .i64 (k : Int) ∧ Hid (hasA (l.take k) yi 1 = c) ∧ Hid (hasA (l.take k) yi 2 = r) ∧ Hid (hasA (l.take k) yi 3 = m) ∧ Hid (hasA (l.take k) yi 4 = q) ∧ Hid (Below w.heap.size w wr) ∧ Hid (Below w2.heap.size w2 wr)) (fun _ _ _ _ s9 _ => l.length - (intOf s9).toNat)
      case atStart => exact ⟨0, false, false, false, false, Nat.zero_le _, rfl, rfl, rfl, rfl, rfl, Lib.hid rfl, Lib.hid rfl, Lib.hid rfl, Lib.hid rfl, HB, HN⟩
      case round =>
        clear HB HN
        obtain ⟨k, c, r, m, q, hk, rfl, rfl, rfl, rfl, rfl, HC, HR, HM, HQ, HB, HN⟩ := hrel
        obtain ⟨wi, hwi⟩ : ∃ x, x = wr := ⟨wr, rfl⟩
        subst hwi
        by_cases hkl : k < l.length
        · have hkI : (k : Int) < (l.length : Int) := by omega
          obtain ⟨bb, off, rfl, _⟩ := (HBT.out _ HB.out).form (by omega)
          have HZ := Lib.hid (fun (X : World) (h : Below w.heap.size w X) => (HBT.out X h).at_ hkl)
          have HTK := Lib.hid (List.take_succ_eq_append_getElem hkl)
          generalize l[k] = a at HZ HTK
          obtain ⟨ak, ai, ap, an, ad, aA, aC, ao⟩ := a
          simp only at HZ
          have HS1 : Hid (hasA (l.take (k + 1)) yi 1 = (c || decide (ai = yi) && decide (ak = 1))) := Lib.hid (by rw [HTK.out, hasA_snoc, HC.out])
          have HS2 : Hid (hasA (l.take (k + 1)) yi 2 = (r || decide (ai = yi) && decide (ak = 2))) := Lib.hid (by rw [HTK.out, hasA_snoc, HR.out])
          have HS3 : Hid (hasA (l.take (k + 1)) yi 3 = (m || decide (ai = yi) && decide (ak = 3))) := Lib.hid (by rw [HTK.out, hasA_snoc, HM.out])
          have HS4 : Hid (hasA (l.take (k + 1)) yi 4 = (q || decide (ai = yi) && decide (ak = 4))) := Lib.hid (by rw [HTK.out, hasA_snoc, HQ.out])
          clear HTK HC HR HM HQ
          go_wp2_with fail
          refine wp_region_lit [(0, true), (1, true), (2, true), (3, true), (4, true), (5, true), (6, true), (7, true), (8, true), (9, true), (10, true)] (by kernel_rfl) (by kernel_rfl) (fun _ _ d _ _ h => by cases d <;> exact h) ?_
          simp only [picked, List.map_cons, List.map_nil, List.getElem?_cons_succ, List.getElem?_cons_zero, Option.getD_some]

          replace HB := Lib.hid HB.out.drew
          replace HN := Lib.hid HN.out.drew
          generalize wi.drew = wd at HB HN ⊢
          have z1 := fun e : Ext wd => (HZ.out e.val (HB.out.trans (e.property.mono HB.out.size))).2.1
          have y0 := fun e : Ext wd => (HY.out e.val (HN.out.trans (e.property.mono HN.out.size))).1
          by_cases hai : ai = yi
          rotate_left
          · have hne : (ai != yi) = true := bne_iff_ne.2 hai
            rw [decide_eq_false hai, Bool.false_and, Bool.or_false] at HS1 HS2 HS3 HS4
            clear hai
            repeat (first | (refine wpL_quiet (by rfl) (fun K hK => ?_); go_big_quiet_op; refine hK _ ?_; clear hK K) | (refine wpL_skip (by rfl) ?_; simp only [Act.put, List.setIfInBounds_toArray, List.set_cons_zero, List.set_cons_succ]) | (simp only [hne, Bool.not_true, Bool.not_false, Bool.or_false, Bool.false_or, Bool.true_or, Bool.or_true, Bool.false_and, Bool.true_and, Bool.and_true, Bool.and_false]))
            refine wpL_nil ?_
            go_wp2
            go_roundw
            case rel => exact ⟨k + 1, c, r, m, q, by omega, rfl, rfl, rfl, rfl, by go_num, HS1, HS2, HS3, HS4, HB, HN⟩
            case measure => simp [intOf]; omega
          subst hai
          rw [decide_eq_true rfl, Bool.true_and] at HS1 HS2 HS3 HS4
          have hne : (ai != ai) = false := by simp
          repeat (first | (refine wpL_quiet (by rfl) (fun K hK => ?_); go_big_quiet_op; refine hK _ ?_; clear hK K) | (refine wpL_skip (by rfl) ?_; simp only [Act.put, List.setIfInBounds_toArray, List.set_cons_zero, List.set_cons_succ]) | (simp only [hne, Bool.not_true, Bool.not_false, Bool.or_false, Bool.false_or, Bool.true_or, Bool.or_true, Bool.false_and, Bool.true_and, Bool.and_true, Bool.and_false]))

          refine wpL_nil ?_
          clear z1 y0
          have z0 := (HZ.out wd HB.out).1
          go_upto_region 12 with fail
          go_cut [5] from 42 to 50 (fun s wx => s = .bool (c || decide (ak = 1)) ∧ wx = wd)
          case first =>
            cases c with
            | true =>
              go_wp2
              go_meet
              case rel => exact ⟨rfl, rfl⟩
            | false =>
              by_cases hk1 : ak = 1
              · have hkb : (ak == 1) = true := by rw [hk1]; rfl
                have HK1 := Lib.hid hk1
                clear hk1
                go_wp2
                go_meet
                case rel => exact ⟨by rw [decide_eq_true HK1.out]; rfl, rfl⟩
              · have hkb : (ak == 1) = false := beq_eq_false_iff_ne.2 hk1
                have HK1 : Hid (ak ≠ 1) := Lib.hid hk1
                clear hk1
                go_wp2
                go_meet
                case rel => exact ⟨by rw [decide_eq_false HK1.out]; rfl, rfl⟩
          case rest =>
          obtain ⟨rfl, hwc⟩ := hcut
          rw [hwc]
          clear hwc
          generalize (c || decide (ak = 1)) = c2 at HS1 ⊢
          go_upto_region 13 with fail
          go_cut [6] from 51 to 59 (fun s wx => s = .bool (r || decide (ak = 2)) ∧ wx = wd)
          case first =>
            cases r with
            | true =>
              go_wp2
              go_meet
              case rel => exact ⟨rfl, rfl⟩
            | false =>
              by_cases hk1 : ak = 2
              · have hkb : (ak == 2) = true := by rw [hk1]; rfl
                have HK1 := Lib.hid hk1
                clear hk1
                go_wp2
                go_meet
                case rel => exact ⟨by rw [decide_eq_true HK1.out]; rfl, rfl⟩
              · have hkb : (ak == 2) = false := beq_eq_false_iff_ne.2 hk1
                have HK1 : Hid (ak ≠ 2) := Lib.hid hk1
                clear hk1
                go_wp2
                go_meet
                case rel => exact ⟨by rw [decide_eq_false HK1.out]; rfl, rfl⟩
          case rest =>
          obtain ⟨rfl, hwc⟩ := hcut
          rw [hwc]
          clear hwc
          generalize (r || decide (ak = 2)) = r2 at HS2 ⊢
          go_upto_region 14 with fail
          go_cut [7] from 60 to 68 (fun s wx => s = .bool (m || decide (ak = 3)) ∧ wx = wd)
          case first =>
            cases m with
            | true =>
              go_wp2
              go_meet
              case rel => exact ⟨rfl, rfl⟩
            | false =>
              by_cases hk1 : ak = 3
              · have hkb : (ak == 3) = true := by rw [hk1]; rfl
                have HK1 := Lib.hid hk1
                clear hk1
                go_wp2
                go_meet
                case rel => exact ⟨by rw [decide_eq_true HK1.out]; rfl, rfl⟩
              · have hkb : (ak == 3) = false := beq_eq_false_iff_ne.2 hk1
                have HK1 : Hid (ak ≠ 3) := Lib.hid hk1
                clear hk1
                go_wp2
                go_meet
                case rel => exact ⟨by rw [decide_eq_false HK1.out]; rfl, rfl⟩
          case rest =>
          obtain ⟨rfl, hwc⟩ := hcut
          rw [hwc]
          clear hwc
          generalize (m || decide (ak = 3)) = m2 at HS3 ⊢
          cases q with
          | true =>
            go_wp2
            go_roundw
            case rel => exact ⟨k + 1, c2, r2, m2, true, by omega, rfl, rfl, rfl, rfl, by go_num, HS1, HS2, HS3, by rw [Bool.true_or] at HS4; exact HS4, HB, HN⟩
            case measure => simp [intOf]; omega
          | false =>
            by_cases hk1 : ak = 4
            · have hkb : (ak == 4) = true := by rw [hk1]; rfl
              rw [decide_eq_true hk1] at HS4
              clear hk1
              go_wp2
              go_roundw
              case rel => exact ⟨k + 1, c2, r2, m2, true, by omega, rfl, rfl, rfl, rfl, by go_num, HS1, HS2, HS3, HS4, HB, HN⟩
              case measure => simp [intOf]; omega
            · have hkb : (ak == 4) = false := beq_eq_false_iff_ne.2 hk1
              rw [decide_eq_false hk1] at HS4
              clear hk1
              go_wp2
              go_roundw
              case rel => exact ⟨k + 1, c2, r2, m2, false, by omega, rfl, rfl, rfl, rfl, by go_num, HS1, HS2, HS3, HS4, HB, HN⟩
              case measure => simp [intOf]; omega
        · obtain rfl : k = l.length := by omega
          rw [List.take_length] at HC HR HM HQ
          have e1 : c = yc := by rw [← HC.out]; exact HF1.out.symm
          have e2 : r = yr := by rw [← HR.out]; exact HF2.out.symm
          have e3 : m = ym := by rw [← HM.out]; exact HF3.out.symm
          have e4 : q = ye := by rw [← HQ.out]; exact HF4.out.symm
          subst e1 e2 e3 e4
          clear HC HR HM HQ HF1 HF2 HF3 HF4
          go_wp2_with fail
          have HYd := Lib.hid (fun (X : World) (h : Below wi.drew.heap.size wi.drew X) => HY.out X ((Below.drew HN.out).trans (h.mono (Below.drew HN.out).size)))
          by_cases hi0 : i = 0
          · subst hi0
            refine effCond0 hLl hil HYd.out HF5.out HF6.out (fun _ _ d _ _ h => by cases d <;> exact h) (by kernel_rfl) ?_
            intro x78 x79 x80 x81 x82 x83 x84 x85 x86 x87 x88 x89 x90 x91 x92 x93 x94 x95 x96 x97 x98 x99 x100 x101 x102 x103 x104 x105 x106 x107 x108 x109 x110 x111 x112 x113 x114 x115 x116 x117 x118 x119 x120 x121 x122 x123 x124 x125 x126 x127 x128 x129 x130 x131 x132 x133 x134 x135 x136 x137 x138 x139 x140 x141 x142 x143 x144 x145 x146 x147 x148 x149 x150 x151 x152 x153 x154 x155 x156 x157 x158 x159 x160 x161 x162 x163 x164 x165
            replace HB := Lib.hid HB.out.drew
            replace HN := Lib.hid HN.out.drew
            generalize wi.drew = wd at HB HN ⊢
            clear HYd
            go_wp2
            go_roundw
            case rel => exact ⟨0 + 1, by omega, by go_num, trivial, trivial, trivial, trivial, trivial, HB, HN⟩
            case measure => simp [intOf]; omega
          · obtain ⟨j, rfl⟩ : ∃ j, i = j + 1 := ⟨i - 1, by omega⟩
            obtain ⟨pid, hpid, hp0⟩ := HPREV.out j rfl _ (Below.drew HN.out)
            have HPd := Lib.hid (fun (X : World) (h : Below wi.drew.heap.size wi.drew X) => (h.cell (World.block_lt_of_cell? _ _ hp0)).trans hp0)
            clear hp0
            refine effCond1 hLl hil HYd.out hpid HPd.out HF5.out HF6.out (fun _ _ d _ _ h => by cases d <;> exact h) (by kernel_rfl) ?_
            intro x78 x79 x80 x81 x82 x83 x84 x85 x86 x87 x88 x89 x90 x91 x92 x93 x94 x95 x96 x97 x98 x99 x100 x101 x102 x103 x104 x105 x106 x107 x108 x109 x110 x111 x112 x113 x114 x115 x116 x117 x118 x119 x120 x121 x122 x123 x124 x125 x126 x127 x128 x129 x130 x131 x132 x133 x134 x135 x136 x137 x138 x139 x140 x141 x142 x143 x144 x145 x146 x147 x148 x149 x150 x151 x152 x153 x154 x155 x156 x157 x158 x159 x160 x161 x162 x163 x164 x165
            replace HB := Lib.hid HB.out.drew
            replace HN := Lib.hid HN.out.drew
            generalize wi.drew = wd at HB HN ⊢
            clear HYd HPd
            go_wp2
            go_roundw
            case rel => exact ⟨j + 1 + 1, by omega, by go_num, trivial, trivial, trivial, trivial, trivial, HB, HN⟩
            case measure => simp [intOf]; omega
    · obtain rfl : i = L.length := by omega
      clear HORD HRISE
      have HFK : Hid (∀ a ∈ l, ∃ k ∈ L.map (·.k), getK (L.map (·.k)) a.id = some k ∧ k.id = a.id) := Lib.hid (fun a ha => getK_some (by
        rw [HK.out]
        exact ⟨effOne l a.id, List.mem_map.2 ⟨a.id, effIds_mem.2 ⟨a, ha, rfl⟩, rfl⟩, effOne_id l a.id⟩))
      have HEM : Hid (L.length = 0 ↔ l.length = 0) := Lib.hid (by
        rw [HLEN.out, eff, List.length_map, List.length_eq_zero_iff, List.length_eq_zero_iff]
        exact effIds_nil)
      clear HLK
      go_wp2
      go_loopw [10, 11, 12] (fun s10 s11 s12 wr => ∃ k : Nat, k ≤ l.length ∧ s10 = .int .i64 (k : Int) ∧ s11 = s11 ∧ s12 = s12 ∧ Hid (Below w.heap.size w wr) ∧ Hid (Below w2.heap.size w2 wr)) (fun s10 _ _ _ => l.length - (intOf s10).toNat)
      case atStart => exact ⟨0, Nat.zero_le _, rfl, rfl, rfl, HB, HN⟩
      case round =>
        clear HB HN
        obtain ⟨k, hk, rfl, _, _, HB, HN⟩ := hrel
        obtain ⟨wi, hwi⟩ : ∃ x, x = wr := ⟨wr, rfl⟩
        subst hwi
        by_cases hkl : k < l.length
        · have hkI : (k : Int) < (l.length : Int) := by omega
          obtain ⟨bb, off, rfl, _⟩ := (HBT.out _ HB.out).form (by omega)
          have HZ := Lib.hid (fun (X : World) (h : Below w.heap.size w X) => ((HBT.out X h).at_ hkl).2.1)
          obtain ⟨kk, _, hkk, hid⟩ := HFK.out _ (List.getElem_mem hkl)
          have GG := Lib.hid (fun (X : World) (h : Below w2.heap.size w2 X) => effGet_any A2 c2 L l[k].id (by omega) HGK.out X (HXT.out X h))
          rw [hkk] at GG
          generalize l[k].id = ai at HZ GG hid
          have HID := Lib.hid hid
          clear hkk hid
          have z1 := HZ.out _ HB.out
          go_wp2_with fail
          refine (GG.out _ HN.out).mono ?_
          rintro e w5 ⟨⟨y, b, rfl, _, _, hz⟩, hb⟩
          have hy : b = true ∧ y.k.id = ai := by
            rcases hz with ⟨k2, h1, h2, h3⟩ | ⟨h1, _⟩
            · injection h1 with h1
              exact ⟨h3, by rw [h2, ← h1]; exact HID.out⟩
            · cases h1
          obtain ⟨rfl, hyi⟩ := hy
          replace HB := Lib.hid (HB.out.trans (hb.mono HB.out.size))
          replace HN := Lib.hid (HN.out.trans (hb.mono HN.out.size))
          clear hz hb GG z1 HID
          obtain ⟨⟨yi, yo, ye, yr, yc, ym, yp, yn⟩, yA, yC⟩ := y
          simp only at hyi
          subst hyi
          unfold oneCells
          simp only
          have HRW := Lib.hid (eight_new w5 37 (.int .i64 yi) (.slice yA yo.length yC) (.bool ye) (.bool yr) (.bool yc) (.bool ym) (.int .i64 yp) (.string (bstr yn)))
          replace HB := Lib.hid (HB.out.alloc HB.out.size (.cells #[.int .i64 yi, .slice yA yo.length yC, .bool ye, .bool yr, .bool yc, .bool ym, .int .i64 yp, .string (bstr yn)] 37))
          replace HN := Lib.hid (HN.out.alloc HN.out.size (.cells #[.int .i64 yi, .slice yA yo.length yC, .bool ye, .bool yr, .bool yc, .bool ym, .int .i64 yp, .string (bstr yn)] 37))
          go_wp2_with fail
          refine wp_region_lit [(0, true), (1, true), (2, true), (3, true), (4, true), (5, true), (6, true), (7, true), (8, true), (9, true), (10, true), (11, true)] (by kernel_rfl) (by kernel_rfl) (fun _ _ d _ _ h => by cases d <;> exact h) ?_
          simp only [picked, List.map_cons, List.map_nil, List.getElem?_cons_succ, List.getElem?_cons_zero, Option.getD_some]
          replace HRW := Lib.hid HRW.out.drew
          replace HB := Lib.hid HB.out.drew
          replace HN := Lib.hid HN.out.drew
          generalize World.drew _ = wd at HRW HB HN ⊢
          have z1 := fun e : Ext wd => HZ.out e.val (HB.out.trans (e.property.mono HB.out.size))
          have r0 := fun e : Ext wd => Ext.cell (eight_cells HRW.out).1 e
          repeat (first | (refine wpL_quiet (by rfl) (fun K hK => ?_); go_big_quiet_op; refine hK _ ?_; clear hK K) | (refine wpL_skip (by rfl) ?_; simp only [Act.put, List.setIfInBounds_toArray, List.set_cons_zero, List.set_cons_succ]) | (simp only [bne_self_eq_false, Bool.not_true, Bool.not_false, Bool.or_false, Bool.false_or, Bool.true_or, Bool.or_true, Bool.false_and, Bool.true_and, Bool.and_true, Bool.and_false]))
          refine wpL_nil ?_
          go_wp2
          go_roundw
          case rel => exact ⟨k + 1, by omega, by go_num, trivial, trivial, HB, HN⟩
          case measure => simp [intOf]; omega
        · obtain rfl : k = l.length := by omega
          have GV := Lib.hid (fun (X : World) (h : Below w2.heap.size w2 X) => effOver_any A2 c2 L (by omega) HCAP.out HGK.out none 0 [] (by simp) (by simp) (fun a ha => (List.not_mem_nil ha).elim) X (HXT.out X h) ⟨.inl rfl, fun y hy => (List.not_mem_nil hy).elim⟩)
          rw [overK_nil, List.length_nil] at GV
          have hd : (decide ((0 : Int) < (L.length : Int)) == decide ((0 : Int) < (l.length : Int))) = true := by
            have := HEM.out
            rw [beq_iff_eq]
            exact decide_eq_decide.2 (by omega)
          have hd2 : (decide (0 < L.length) == decide (0 < l.length)) = true := by
            have := HEM.out
            rw [beq_iff_eq]
            exact decide_eq_decide.2 (by omega)
          go_wp2_with fail
          refine (GV.out _ HN.out).mono ?_
          rintro e w5 ⟨⟨v, rfl, A5, c5, L5, rfl, hat5, hk5, hg5, _⟩, hb5⟩
          have HB5 := Lib.hid (HB.out.trans (hb5.mono HB.out.size))
          have GSM := Lib.hid (effSame_eq A2 A5 c2 c5 L L5 (by unfold maxLen; omega) (fun y hy => (HGK.out y hy).1) hg5 hk5.symm w5 (HXT.out _ (HN.out.trans (hb5.mono HN.out.size))) hat5)
          clear hb5 hat5 hk5 hg5 GV
          go_wp2_with fail
          refine GSM.out.mono ?_
          rintro e w6 ⟨rfl, hb6⟩
          have HB6 := Lib.hid (HB5.out.trans (hb6.mono HB5.out.size))
          clear hb6
          go_wp2_with fail
          refine (GA.out _).mono ?_
          rintro e w7 ⟨rfl, hb7⟩
          have HB7 := Lib.hid (HB6.out.trans (hb7.mono HB6.out.size))
          go_wp2
          go_ret
          exact ⟨rfl, HB7.out⟩
end Go.Proofs.Ytnadhpajelkngaa

/- Each ID that is named is told once, rising, with just what was done with it: it answers true and changes nothing. No condition. -/
namespace Go.Proofs.Ytnadhpajelkngaa
open Go.ChangeShapes Go.WideShapes Go.ChangeAt Go.RowKit

set_option maxRecDepth 100000 in
theorem effectOne_lifted (os : Os) (started : os.Started) (H : Type) (enc : TypeId × Value → H) :
    ReturnsInHanded {} Try.checked os 4 .any (Rows.effectOneSpec.pre6 enc Try.prog Try.f4 Rows.effectOneRow.domain false) (Rows.effectOneSpec.post enc Try.prog Try.f4 false true false false) := by
  refine returnsInHanded_of_change (C := Try.checked) law_own started (by kernel_rfl) Try.func4
    (ChangeSpec.witness6 (enc := enc) (C := Try.checked) false ⟨#[], #[.slice none 0 0], []⟩ 8 (by kernel_rfl) (by kernel_rfl) (by kernel_rfl) (by kernel_rfl)) ?_
  intro W base args ds gs before hval0 hW _ _
  have hval : ∀ (j : Nat) t v, Try.f4.params[j]? = some t → args[j]? = some v → Value.okWide Try.prog W .any base t v := hval0
  have hW' := hW
  obtain ⟨p, q, hA0, hV, rfl, _, _⟩ := hW
  have hlt : ∀ x ∈ p ++ q, x.block < W.heap.size := fun x hx => hW'.lt x hx
  have hA : DataW.TrodAll enc Try.prog W 0 (fun _ => true) true Try.f4.params.toList args.toList ds p := hA0
  rw [Try.params4] at hA hval
  obtain ⟨v0, d0, rfl, rfl, h0⟩ := trodAll_one hA
  obtain ⟨rfl, rfl⟩ := trodVars_none hV
  obtain ⟨A0, l0, c0, rfl, hat0, hg0, hlc0, hc0⟩ := open_acts (hval 0 32 v0 rfl rfl) h0 (fun x hx => hlt x (by simp [hx]))
  have hl0 : l0.length ≤ maxLen := by omega
  clear hA0 hval0
  refine (effectOne_any A0 l0 c0 hl0 hg0 W ⟨hat0, hlc0⟩).mono fun e W' ⟨he, hb⟩ => ?_
  exact ⟨_, he, law_post law_laid (by kernel_rfl) (by kernel_rfl) Try.underlying4 rfl hW' rfl hb⟩

theorem effectOne_holds : Rows.EffectOneSaid :=
  OpenClaim.holds_of_wide 4 Try.f4 rfl rfl rfl rfl rfl rfl rfl ⟨rfl, rfl, rfl, rfl, rfl⟩ rfl rfl rfl rfl rfl (by kernel_rfl) Try.func4 (by kernel_rfl)
    (of_decide_eq_true (by kernel_rfl)) (by unfold Func.isWrapper; first | (rw [if_pos (by decide +kernel)]; kernel_rfl) | (rw [if_neg (by decide +kernel)]; exact ⟨rfl, rfl⟩))
    (fun os started H enc _ => effectOne_lifted os started H enc)
end Go.Proofs.Ytnadhpajelkngaa
