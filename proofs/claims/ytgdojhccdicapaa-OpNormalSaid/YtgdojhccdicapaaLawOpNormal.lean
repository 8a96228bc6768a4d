/- OpNormal, walked: the normal form of a normal edit is itself; of any parts it asks for, and makes, as much text, and is normal, if its texts are. Condition: what memory may hold. -/
import Derived.Test.YtgdojhccdicapaaOpAwake
import Derived.Test.YtgdojhccdicapaaOpPlain
import Derived.Test.YtgdojhccdicapaaRefValid
import Derived.Deep.DeepCutAuto
namespace Go.Proofs.Ytgdojhccdicapaa
open Go.RowKit Go.Deep

/-- The sum of the N's, held. -/
def capN (l : List CompV) : Nat := l.foldl (fun m c => capSum m [(max c.n 0).toNat]) 0
theorem capN_nil : capN [] = 0 := rfl
theorem capN_snoc (l : List CompV) (c : CompV) : capN (l ++ [c]) = capSum (capN l) [(max c.n 0).toNat] := by rw [capN, List.foldl_append]; rfl
theorem capN_held (l : List CompV) : capN l ≤ 1099511627776 := by
  have : ∀ (l : List CompV) (n : Nat), n ≤ 1099511627776 → l.foldl (fun m c => capSum m [(max c.n 0).toNat]) n ≤ 1099511627776 := by
    intro l
    induction l with
    | nil => intro n h; exact h
    | cons c l ih => intro n h; exact ih _ (capSum_held _ n h)
  exact this l 0 (by omega)
theorem capN_sum (l : List CompV) (h : capN l < 1099511627776) : (capN l : Int) = sumN l := by
  have hc : ∀ (l : List CompV), l.foldl (fun m c => capSum m [(max c.n 0).toNat]) 1099511627776 = 1099511627776 := by
    intro l
    induction l with
    | nil => rfl
    | cons c l ih =>
      have e : capSum 1099511627776 [(max c.n 0).toNat] = 1099511627776 := by
        have h1 := capSum_held [(max c.n 0).toNat] 1099511627776 (by omega)
        unfold capSum
        split
        · rfl
        · unfold capSum
          omega
      rw [List.foldl_cons, e, ih]
  have : ∀ (l : List CompV) (n : Nat), l.foldl (fun m c => capSum m [(max c.n 0).toNat]) n < 1099511627776 → ((l.foldl (fun m c => capSum m [(max c.n 0).toNat]) n : Nat) : Int) = n + sumN l := by
    intro l
    induction l with
    | nil => intro n _; simp [sumN]
    | cons c l ih =>
      intro n h
      have e : sumN (c :: l) = max c.n 0 + sumN l := by simp [sumN, nOf]
      rw [List.foldl_cons] at h ⊢
      have e3 : capSum n [(max c.n 0).toNat] = n + (max c.n 0).toNat := by
        have e4 : capSum n [(max c.n 0).toNat] = if 1099511627776 < n + (max c.n 0).toNat then 1099511627776 else n + (max c.n 0).toNat := rfl
        by_cases hx : 1099511627776 < n + (max c.n 0).toNat
        · rw [if_pos hx] at e4
          rw [e4, hc l] at h
          omega
        · rw [e4, if_neg hx]
      rw [ih _ h, e3, e]
      omega
  have h2 := this l 0 h
  rwa [show ((0 : Nat) : Int) = 0 from rfl, Int.zero_add] at h2
theorem allV_snoc (l : List CompV) (c : CompV) : AllV (l ++ [c]) ↔ AllV l ∧ validB c.text = true := by
  constructor
  · intro h
    refine ⟨fun y hy => h y (List.mem_append_left _ hy), ?_⟩
    obtain ⟨vs, hv⟩ := h c (by simp)
    exact validB_yes hv
  · rintro ⟨h1, h2⟩ y hy
    rcases List.mem_append.1 hy with hy | hy
    · exact h1 y hy
    · rw [List.mem_singleton.1 hy]
      exact Classical.byContradiction fun e => by rw [validB_no e] at h2; cases h2

set_option maxHeartbeats 4000000 in
set_option maxRecDepth 100000 in
theorem lawOpNormal_any (A : Option Addr) (l : List CompV) (c : Nat) (hl : l.length ≤ maxLen) (hgl : ∀ y ∈ l, y.Good) (w : World) (hA : CompsAt w A l) :
    Calls Try.prog 4 #[.slice A l.length c] w fun e w' => e = .returned (.bool true) ∧ Below w.heap.size w w' := by
  have GA := Lib.hid (fun w => opAwake_any w)
  have GW1 := Lib.hid (fun w h => alikeComps_at 3000 c hl hgl w (A := A) h)
  have HA := Lib.hid hA
  clear hA
  obtain ⟨T1, HT1⟩ : ∃ x, Hid (compsWeight 3000 l = x) := ⟨_, rfl⟩
  rw [HT1.out] at GW1
  by_cases h1 : T1 ≤ 3000
  · have hs1 := weight_spec 3000 (by omega) l (by rw [HT1.out]; exact h1)
    have hfl : Fine1 l := fine_of hgl (by omega)
    have hl2 : l.length ≤ 3000 := by omega
    have htl := tlen_norm l
    have hgN := norm_good l hgl (by omega)
    have hlN := norm_len l
    have hfN : Fine1 (rNormal l) := fine_of hgN (by omega)
    have GN := Lib.hid (fun w h => opNormal_any A c l (by omega) (by omega) hgl w h)
    have GNN := Lib.hid (fun A1 c1 w h => opNormal_any A1 c1 (rNormal l) (by omega) (by omega) hgN w h)
    rw [norm_norm] at GNN
    have GC := Lib.hid (fun w h => opCheck_any A c l hl hfl w h)
    have GCN := Lib.hid (fun A1 c1 w h => opCheck_any A1 c1 (rNormal l) (by unfold maxLen; omega) hfN w h)
    have GB := Lib.hid (fun w h => opBase_any A c l hl w h)
    have GBN := Lib.hid (fun A1 c1 w h => opBase_any A1 c1 (rNormal l) (by unfold maxLen; omega) w h)
    have GO := Lib.hid (fun w h => opOut_any A c l hl hfl w h)
    have GON := Lib.hid (fun A1 c1 w h => opOut_any A1 c1 (rNormal l) (by unfold maxLen; omega) hfN w h)
    have GSN := Lib.hid (fun A1 B1 c1 d1 w h1 h2 => opSame_any A1 B1 c1 d1 (rNormal l) (rNormal l) (by unfold maxLen; omega) (by unfold maxLen; omega) hgN hgN w h1 h2)
    simp only [sameB_self] at GSN
    have GSL := Lib.hid (fun A1 c1 w h1 h2 => opSame_any A1 A c1 c (rNormal l) l (by unfold maxLen; omega) hl hgN hgl w h1 h2)
    have HNC : Hid (rCheck l = 0 → rNormal l = l) := fun h => norm_checked h
    have GV := Lib.hid (fun (k : Nat) (hk : k < l.length) (w : World) => refValid_any l[k].text (hgl _ (List.getElem_mem hk)).2.2.1 (hfl _ (List.getElem_mem hk)).2 w)
    have HBB : Hid (capN l < 1073741824 → rBase (rNormal l) = rBase l) := fun h => norm_base l (by have := capN_sum l (by omega); omega)
    have HOO : Hid (AllV l → capN l < 1073741824 → rOut (rNormal l) = rOut l) := fun hv h => norm_out l hv (by have := capN_sum l (by omega); omega)
    have HCC : Hid (AllV l → (rNormal l).length ≤ 100 → rBase (rNormal l) ≤ 2000 → rOut (rNormal l) ≤ 2000 → rCheck (rNormal l) = 0) := fun hv => norm_check l hv
    obtain ⟨K, HK⟩ : ∃ x, Hid (rCheck l = x) := ⟨_, rfl⟩
    obtain ⟨N, HN⟩ : ∃ x, Hid (rNormal l = x) := ⟨_, rfl⟩
    obtain ⟨KN, HKN⟩ : ∃ x, Hid (rCheck N = x) := ⟨_, rfl⟩
    obtain ⟨p, HP⟩ : ∃ x, Hid (rBase l = x) := ⟨_, rfl⟩
    obtain ⟨q, HQ⟩ : ∃ x, Hid (rOut l = x) := ⟨_, rfl⟩
    obtain ⟨pN, HPN⟩ : ∃ x, Hid (rBase N = x) := ⟨_, rfl⟩
    obtain ⟨qN, HQN⟩ : ∃ x, Hid (rOut N = x) := ⟨_, rfl⟩
    rw [HK.out] at GC HNC
    rw [HN.out] at GN GNN GCN GBN GON GSN GSL HNC HBB HOO HCC
    rw [HKN.out] at GCN HCC
    rw [HP.out] at GB HBB
    rw [HQ.out] at GO HOO
    rw [HPN.out] at GBN HBB HCC
    rw [HQN.out] at GON HOO HCC
    have hlN2 : N.length ≤ 9003 := by rw [← HN.out]; omega
    have HW0 := Lib.hid (Below.refl w.heap.size w)
    unfold maxLen at hl
    have HGL := Lib.hid (fun y hy => (hgl y hy).2.1)
    clear hgl hfl hs1 hgN hlN hfN htl
    obtain ⟨w0, Hw0⟩ : ∃ x, Hid (w = x) := ⟨_, rfl⟩
    rw [Hw0.out] at HA HW0 ⊢
    go_enter Try.func4, Try.ntmps4
    go_wp2_with fail
    refine (GW1.out _ HA.out).mono ?_
    rintro e w1 ⟨rfl, hb⟩
    have HW1 : Hid (Below w0.heap.size w0 w1) := HW0.out.trans (hb.mono HW0.out.size)
    replace HA := Lib.hid (HA.out.below hb)
    clear hb
    go_wp2_with fail
    refine (GN.out _ HA.out).mono ?_
    rintro e w2 ⟨AN, cN, rfl, ho, hb⟩
    have HW2 : Hid (Below w0.heap.size w0 w2) := HW1.out.trans (hb.mono HW1.out.size)
    have HM := Lib.hid (CellsAt.of_own ho)
    replace HA := Lib.hid (HA.out.below hb)
    clear hb ho
    go_upto_region 4 with fail
    go_cut [21] (fun s21 wc => s21 = .bool false ∧ Below w2.heap.size w2 wc)
    case first =>
      go_wp2_with fail
      refine (GC.out _ HA.out).mono ?_
      rintro e w3 ⟨rfl, hb3⟩
      by_cases hk : K = 0
      · have eN := HNC.out hk
        subst hk
        have HM3 := Lib.hid (CompsAt.below HM.out hb3)
        have HA3 := Lib.hid (HA.out.below hb3)
        have GSL3 := Lib.hid (GSL.out AN cN w3 HM3.out HA3.out)
        rw [show sameB N l = true by rw [eN, sameB_self]] at GSL3
        have HB3 := Lib.hid hb3
        clear hb3 eN
        go_wp2_with fail
        refine GSL3.out.mono ?_
        rintro e w4 ⟨rfl, hb4⟩
        have HB4 : Hid (Below w2.heap.size w2 w4) := HB3.out.trans (hb4.mono HB3.out.size)
        clear hb4
        go_wp2_with fail
        go_meet
        exact ⟨rfl, HB4.out⟩
      · have HB3 := Lib.hid hb3
        clear hb3
        have hk' : (K == 0) = false := beq_eq_false_iff_ne.2 hk
        go_wp2_with fail
        go_meet
        exact ⟨rfl, HB3.out⟩
    case rest =>
      obtain ⟨rfl, hb⟩ := hcut
      have HW3 : Hid (Below w0.heap.size w0 wc) := HW2.out.trans (hb.mono HW2.out.size)
      replace HA := Lib.hid (HA.out.below hb)
      replace HM := Lib.hid (CompsAt.below HM.out hb)
      clear hb
      go_wp2_with fail
      go_loopw [4, 5, 6] (fun wh t i wr => ∃ (k m : Nat) (v : Bool), k ≤ l.length ∧ i = .int .i64 k ∧ t = .int .i64 (m : Int) ∧ wh = .bool v ∧ Hid ((v = true ↔ AllV (l.take k)) ∧ capN (l.take k) = m ∧ Below wc.heap.size wc wr)) (fun _ _ i _ => l.length - (intOf i).toNat)
      case atStart => exact ⟨0, 0, true, Nat.zero_le _, rfl, rfl, rfl, ⟨fun _ y hy => (by cases hy), fun _ => rfl⟩, rfl, Below.refl _ _⟩
      case round =>
        obtain ⟨k, m, v, hk, rfl, rfl, rfl, HR⟩ := hrel
        by_cases hlt : k < l.length
        · obtain ⟨b, off, rfl, _⟩ := HA.out.form (by omega)
          have hm : m ≤ 1099511627776 := by rw [← HR.out.2.1]; exact capN_held _
          have ET : Hid (l.take (k + 1) = l.take k ++ [l[k]]) := List.take_succ_eq_append_getElem hlt
          obtain ⟨n, HN1⟩ : ∃ n, Hid (l[k].n = n) := ⟨_, Lib.hid rfl⟩
          obtain ⟨S, HS1⟩ : ∃ S, Hid (bstr l[k].text = S) := ⟨_, Lib.hid rfl⟩
          have GVk := Lib.hid (GV.out k hlt)
          obtain ⟨B, HB1⟩ : ∃ B, Hid (validB l[k].text = B) := ⟨_, Lib.hid rfl⟩
          rw [HS1.out, HB1.out] at GVk
          have GT : ∀ x : Nat, x ≤ 9223372036854775807 → Hid (∀ (wq : World) (g : Nat), g = wq.heap.size → Calls Try.prog 24 #[.int .i64 (m : Int), .slice (some ⟨g, 0, none⟩) 1 1] (wq.alloc (.cells #[.int .i64 (x : Int)] 3)) fun e w' => e = .returned (.int .i64 ((capSum m [x] : Nat) : Int)) ∧ wq.alloc (.cells #[.int .i64 (x : Int)] 3) = w') := fun x hx => Lib.hid (fun wq g hg' => alikeSum_row m (by omega) g 0 1 [x] (by simp [maxLen]) (by simpa using hx) _ (nats_lit wq 3 #[.int .i64 (x : Int)] [x] (fun j y hj => by
            match j, hj with
            | 0, hj => cases hj; rfl) g hg'))
          obtain ⟨y0, y1, y2⟩ := (HA.out.below HR.out.2.2).at_ hlt
          rw [HN1.out] at y1
          rw [HS1.out] at y2
          have hn64 : Hid (Fit64 n) := by show Fit64 n; rw [← HN1.out]; exact HGL.out _ (List.getElem_mem hlt)
          cases v with
          | true =>
            have HV1 : Hid (B = true ↔ AllV (l.take (k + 1))) := by
              show _ ↔ _
              rw [ET.out, allV_snoc, ← HB1.out]
              exact ⟨fun h => ⟨HR.out.1.1 rfl, h⟩, fun h => h.2⟩
            go_wp2_with fail
            refine (GVk.out _).mono ?_
            rintro e wq ⟨rfl, hbq⟩
            have HBQ : Hid (Below wc.heap.size wc wq) := HR.out.2.2.trans (hbq.mono HR.out.2.2.size)
            clear hbq y0 y1 y2
            obtain ⟨y0, y1, y2⟩ := (HA.out.below HBQ.out).at_ hlt
            rw [HN1.out] at y1
            by_cases hn : 0 ≤ n
            · obtain ⟨x, rfl⟩ := Int.eq_ofNat_of_zero_le hn
              have HX : Hid ((max l[k].n 0).toNat = x) := by
                show _ = _
                rw [HN1.out]; omega
              have HC2 : Hid (capN (l.take (k + 1)) = capSum m [x]) := by
                show _ = _
                rw [ET.out, capN_snoc, HR.out.2.1, HX.out]
              have GTx := Lib.hid ((GT x (by have := hn64.out; unfold Fit64 at this; omega)).out wq)
              clear GT
              obtain ⟨r, HRR⟩ : ∃ r, Hid (capSum m [x] = r) := ⟨_, rfl⟩
              rw [HRR.out] at GTx HC2
              go_wp2_with (go_at_call 24; refine (GTx.out _ rfl).mono ?_; rintro e w' ⟨rfl, rfl⟩)
              go_roundw
              case rel => exact ⟨k + 1, r, B, by omega, by go_num, rfl, rfl, HV1.out, HC2.out, HBQ.out.alloc HBQ.out.size _⟩
              case measure => simp [intOf]; omega
            · have hn1 : n < 0 := by omega
              have HX : Hid ((max l[k].n 0).toNat = 0) := by
                show _ = _
                rw [HN1.out]; omega
              have HC2 : Hid (capN (l.take (k + 1)) = capSum m [0]) := by
                show _ = _
                rw [ET.out, capN_snoc, HR.out.2.1, HX.out]
              have GTx := Lib.hid ((GT 0 (by have := hn64.out; unfold Fit64 at this; omega)).out wq)
              clear GT
              obtain ⟨r, HRR⟩ : ∃ r, Hid (capSum m [0] = r) := ⟨_, rfl⟩
              rw [HRR.out] at GTx HC2
              go_wp2_with (go_at_call 24; refine (GTx.out _ rfl).mono ?_; rintro e w' ⟨rfl, rfl⟩)
              go_roundw
              case rel => exact ⟨k + 1, r, B, by omega, by go_num, rfl, rfl, HV1.out, HC2.out, HBQ.out.alloc HBQ.out.size _⟩
              case measure => simp [intOf]; omega
          | false =>
            have HV1 : Hid (false = true ↔ AllV (l.take (k + 1))) := by
              show _ ↔ _
              rw [ET.out, allV_snoc]
              exact ⟨fun h => (by cases h), fun h => HR.out.1.2 h.1⟩
            have HBQ : Hid (Below wc.heap.size wc wr) := HR.out.2.2
            by_cases hn : 0 ≤ n
            · obtain ⟨x, rfl⟩ := Int.eq_ofNat_of_zero_le hn
              have HX : Hid ((max l[k].n 0).toNat = x) := by
                show _ = _
                rw [HN1.out]; omega
              have HC2 : Hid (capN (l.take (k + 1)) = capSum m [x]) := by
                show _ = _
                rw [ET.out, capN_snoc, HR.out.2.1, HX.out]
              have GTx := Lib.hid ((GT x (by have := hn64.out; unfold Fit64 at this; omega)).out wr)
              clear GT
              obtain ⟨r, HRR⟩ : ∃ r, Hid (capSum m [x] = r) := ⟨_, rfl⟩
              rw [HRR.out] at GTx HC2
              go_wp2_with (go_at_call 24; refine (GTx.out _ rfl).mono ?_; rintro e w' ⟨rfl, rfl⟩)
              go_roundw
              case rel => exact ⟨k + 1, r, false, by omega, by go_num, rfl, rfl, HV1.out, HC2.out, HBQ.out.alloc HBQ.out.size _⟩
              case measure => simp [intOf]; omega
            · have hn1 : n < 0 := by omega
              have HX : Hid ((max l[k].n 0).toNat = 0) := by
                show _ = _
                rw [HN1.out]; omega
              have HC2 : Hid (capN (l.take (k + 1)) = capSum m [0]) := by
                show _ = _
                rw [ET.out, capN_snoc, HR.out.2.1, HX.out]
              have GTx := Lib.hid ((GT 0 (by have := hn64.out; unfold Fit64 at this; omega)).out wr)
              clear GT
              obtain ⟨r, HRR⟩ : ∃ r, Hid (capSum m [0] = r) := ⟨_, rfl⟩
              rw [HRR.out] at GTx HC2
              go_wp2_with (go_at_call 24; refine (GTx.out _ rfl).mono ?_; rintro e w' ⟨rfl, rfl⟩)
              go_roundw
              case rel => exact ⟨k + 1, r, false, by omega, by go_num, rfl, rfl, HV1.out, HC2.out, HBQ.out.alloc HBQ.out.size _⟩
              case measure => simp [intOf]; omega
        · have ek : k = l.length := by omega
          have HV := Lib.hid (show v = true ↔ AllV l by have := HR.out.1; rwa [ek, List.take_length] at this)
          have HS := Lib.hid (show capN l = m by have := HR.out.2.1; rwa [ek, List.take_length] at this)
          have HW4 : Hid (Below w0.heap.size w0 wr) := HW3.out.trans (HR.out.2.2.mono HW3.out.size)
          replace HA := Lib.hid (HA.out.below HR.out.2.2)
          replace HM := Lib.hid (CompsAt.below HM.out HR.out.2.2)
          clear HR
          subst ek
          rw [HS.out] at HBB HOO
          obtain ⟨M, HMM⟩ : ∃ M : Int, Hid ((m : Int) = M) := ⟨_, Lib.hid rfl⟩
          have HBM : Hid (M < 1073741824 → pN = p) := fun h => HBB.out (by have := HMM.out; omega)
          have HOM : Hid (AllV l → M < 1073741824 → qN = q) := fun hv h => HOO.out hv (by have := HMM.out; omega)
          clear HBB HOO
          rw [HMM.out]
          go_upto_region 12 with fail
          go_cut [71] (fun s71 wd => s71 = .bool false ∧ Below wr.heap.size wr wd)
          case first =>
            have HW5 := Lib.hid (Below.refl wr.heap.size wr)
            go_wp2_with fail
            refine (GNN.out _ _ _ HM.out).mono ?_
            rintro e w5 ⟨A5, c5, rfl, ho, hb⟩
            replace HW5 : Hid (Below wr.heap.size wr w5) := HW5.out.trans (hb.mono HW5.out.size)
            have HM5 := Lib.hid (CellsAt.of_own ho)
            replace HA := Lib.hid (HA.out.below hb)
            replace HM := Lib.hid (CompsAt.below HM.out hb)
            clear hb ho
            go_wp2_with fail
            refine (GSN.out _ _ _ _ _ HM5.out HM.out).mono ?_
            rintro e w6 ⟨rfl, hb⟩
            replace HW5 : Hid (Below wr.heap.size wr w6) := HW5.out.trans (hb.mono HW5.out.size)
            replace HA := Lib.hid (HA.out.below hb)
            replace HM := Lib.hid (CompsAt.below HM.out hb)
            clear hb HM5
            by_cases hs : M < 1073741824
            · have hpp := HBM.out hs
              subst hpp
              go_wp2_with fail
              refine (GBN.out _ _ _ HM.out).mono ?_
              rintro e wz ⟨rfl, hb⟩
              replace HW5 : Hid (Below wr.heap.size wr wz) := HW5.out.trans (hb.mono HW5.out.size)
              replace HA := Lib.hid (HA.out.below hb)
              replace HM := Lib.hid (CompsAt.below HM.out hb)
              clear hb
              go_wp2_with fail
              refine (GB.out _ HA.out).mono ?_
              rintro e wz ⟨rfl, hb⟩
              replace HW5 : Hid (Below wr.heap.size wr wz) := HW5.out.trans (hb.mono HW5.out.size)
              replace HA := Lib.hid (HA.out.below hb)
              replace HM := Lib.hid (CompsAt.below HM.out hb)
              clear hb
              cases v with
              | true =>
                have hqq := HOM.out (HV.out.1 rfl) hs
                subst hqq
                go_wp2_with fail
                refine (GON.out _ _ _ HM.out).mono ?_
                rintro e wz ⟨rfl, hb⟩
                replace HW5 : Hid (Below wr.heap.size wr wz) := HW5.out.trans (hb.mono HW5.out.size)
                replace HA := Lib.hid (HA.out.below hb)
                replace HM := Lib.hid (CompsAt.below HM.out hb)
                clear hb
                go_wp2_with fail
                refine (GO.out _ HA.out).mono ?_
                rintro e wz ⟨rfl, hb⟩
                replace HW5 : Hid (Below wr.heap.size wr wz) := HW5.out.trans (hb.mono HW5.out.size)
                replace HA := Lib.hid (HA.out.below hb)
                replace HM := Lib.hid (CompsAt.below HM.out hb)
                clear hb
                go_wp2_with fail
                go_meet
                exact ⟨rfl, HW5.out⟩
              | false =>
                go_wp2_with fail
                go_meet
                exact ⟨rfl, HW5.out⟩
            · have hs' : 1073741824 ≤ M := by omega
              go_wp2_with fail
              go_meet
              exact ⟨rfl, HW5.out⟩
          case rest =>
            obtain ⟨rfl, hb⟩ := hcut
            have HW6 : Hid (Below w0.heap.size w0 wc) := HW4.out.trans (hb.mono HW4.out.size)
            replace HM := Lib.hid (CompsAt.below HM.out hb)
            clear hb
            cases v with
            | false =>
              go_wp2_with fail
              refine (GA.out _).mono ?_
              rintro e wy ⟨rfl, hb⟩
              replace HW6 : Hid (Below w0.heap.size w0 wy) := HW6.out.trans (hb.mono HW6.out.size)
              clear hb
              go_wp2
              go_ret
              exact ⟨rfl, HW6.out⟩
            | true =>
              have HCV := Lib.hid (HCC.out (HV.out.1 rfl))
              by_cases hn : N.length ≤ 100
              · go_wp2_with fail
                refine (GBN.out _ _ _ HM.out).mono ?_
                rintro e w7 ⟨rfl, hb⟩
                replace HW6 : Hid (Below w0.heap.size w0 w7) := HW6.out.trans (hb.mono HW6.out.size)
                replace HM := Lib.hid (CompsAt.below HM.out hb)
                clear hb
                by_cases hp : pN ≤ 2000
                · go_wp2_with fail
                  refine (GON.out _ _ _ HM.out).mono ?_
                  rintro e w8 ⟨rfl, hb⟩
                  replace HW6 : Hid (Below w0.heap.size w0 w8) := HW6.out.trans (hb.mono HW6.out.size)
                  replace HM := Lib.hid (CompsAt.below HM.out hb)
                  clear hb
                  by_cases hq : qN ≤ 2000
                  · have hkn := HCV.out hn hp hq
                    subst hkn
                    go_wp2_with fail
                    refine (GCN.out _ _ _ HM.out).mono ?_
                    rintro e w9 ⟨rfl, hb⟩
                    replace HW6 : Hid (Below w0.heap.size w0 w9) := HW6.out.trans (hb.mono HW6.out.size)
                    clear hb
                    go_wp2_with fail
                    refine (GA.out _).mono ?_
                    rintro e wy ⟨rfl, hb⟩
                    replace HW6 : Hid (Below w0.heap.size w0 wy) := HW6.out.trans (hb.mono HW6.out.size)
                    clear hb
                    go_wp2
                    go_ret
                    exact ⟨rfl, HW6.out⟩
                  · have hq' : 2000 < qN := by omega
                    go_wp2_with fail
                    refine (GA.out _).mono ?_
                    rintro e wy ⟨rfl, hb⟩
                    replace HW6 : Hid (Below w0.heap.size w0 wy) := HW6.out.trans (hb.mono HW6.out.size)
                    clear hb
                    go_wp2
                    go_ret
                    exact ⟨rfl, HW6.out⟩
                · have hp' : 2000 < pN := by omega
                  go_wp2_with fail
                  refine (GA.out _).mono ?_
                  rintro e wy ⟨rfl, hb⟩
                  replace HW6 : Hid (Below w0.heap.size w0 wy) := HW6.out.trans (hb.mono HW6.out.size)
                  clear hb
                  go_wp2
                  go_ret
                  exact ⟨rfl, HW6.out⟩
              · have hn' : 100 < N.length := by omega
                go_wp2_with fail
                refine (GA.out _).mono ?_
                rintro e wy ⟨rfl, hb⟩
                replace HW6 : Hid (Below w0.heap.size w0 wy) := HW6.out.trans (hb.mono HW6.out.size)
                clear hb
                go_wp2
                go_ret
                exact ⟨rfl, HW6.out⟩
  · have h1' : 3000 < T1 := by omega
    clear h1
    go_enter Try.func4, Try.ntmps4
    go_wp2_with fail
    refine (GW1.out _ HA.out).mono ?_
    rintro e w1 ⟨rfl, hb1⟩
    have HB1 := Lib.hid hb1
    clear hb1
    go_wp2_with fail
    refine (GA.out _).mono ?_
    rintro e w3 ⟨rfl, hb3⟩
    have HB3 : Hid (Below w.heap.size w w3) := HB1.out.trans (hb3.mono HB1.out.size)
    clear hb3
    go_wp2
    go_ret
    exact ⟨rfl, HB3.out⟩
end Go.Proofs.Ytgdojhccdicapaa
