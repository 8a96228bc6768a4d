/- The contract of the statements' own awake: it answers true; what was there stays as it was. No condition. (Merged of 4 texts.) -/
import Derived.Test.YtoicgmfcbmjchaaKWalk
import Derived.Test.YtoicgmfcbmjchaaKTm
import Derived.Test.YtoicgmfcbmjchaaKTo
import Derived.Test.YtoicgmfcbmjchaaKOp
import Derived.Test.YtoicgmfcbmjchaaKPair
import Derived.Test.YtoicgmfcbmjchaaKAp
import Derived.Test.YtoicgmfcbmjchaaKAl
import Derived.Test.YtoicgmfcbmjchaaKPt
/- The landed Two and All of compose, told by functions. Conditions: what memory may hold. -/
namespace Go.Proofs.Ytoicgmfcbmjchaa
open Go.RowKit Go.Deep

/-- What two checked edits are as one, and what memory holds of it. -/
theorem two_held {a b : List CompV} (ha : rCheck a = 0) (hb : rCheck b = 0) (he : rOut a = rBase b) :
    ∃ o, Cmp a b o ∧ rTwo a b = (rNormal o, 0) ∧ Held1 (rNormal o) ∧ (∀ c ∈ a, Wh c ∧ sz c ≤ 4000) ∧ (∀ c ∈ b, Wh c ∧ sz c ≤ 4000) ∧ a.length + b.length ≤ 1000000 ∧ (∀ x ∈ o, Wh x ∧ Small1 x) ∧ o.length ≤ 8000 := by
  have ka := ok_of ha
  have kb := ok_of hb
  have e1 := ka.out; have e2 := kb.base; have e3 := ka.base1; have e4 := kb.out1; have e5 := ka.out1; have e6 := kb.base1
  have e7 := ka.len; have e8 := kb.len
  obtain ⟨o, ho⟩ := cmp_exists _ a b (Nat.le_refl _) ka.wh kb.wh (by omega)
  have fa : ∀ c ∈ a, Wh c ∧ sz c ≤ 4000 := fun c hc => ⟨ka.wh c hc, by have := (wt_in a ka.wh).2 c hc; omega⟩
  have fb : ∀ c ∈ b, Wh c ∧ sz c ≤ 4000 := fun c hc => ⟨kb.wh c hc, by have := (wt_in b kb.wh).2 c hc; omega⟩
  obtain ⟨h1, h2⟩ := cmp_small ho fa fb
  exact ⟨o, ho, rTwo_yes ha hb he ho, (cmp_held ha hb he ho (fun x hx => (h1 x hx).2) (by omega)).1, fa, fb, by omega, h1, by omega⟩
theorem raw_good {o out : List CompV} (h : out.map plain = o) (hw : ∀ x ∈ o, Wh x ∧ Small1 x) (hn : ∀ y ∈ out, 0 ≤ y.n ∧ y.n ≤ 4000) : ∀ y ∈ out, y.Good := fun y hy => by
  have hp := hw (plain y) (by rw [← h]; exact List.mem_map_of_mem hy)
  have hk : (plain y).kind = y.kind := by
    unfold plain
    split
    · rename_i g; rw [g]
    · rfl
  have hs : (plain y).text.length ≤ 16000 := hp.2
  have h0 := hn y hy
  refine ⟨?_, by unfold Fit64; omega, ?_, by rw [plain_text] at hs; unfold maxLen; omega⟩
  · rw [← hk]
    rcases hp.1.cases with ⟨g, _⟩ | ⟨g, _⟩ | ⟨g, _⟩ <;> (rw [g]; unfold Fit64; omega)
  · rw [← plain_text]
    rcases hp.1.cases with ⟨_, _, g⟩ | ⟨_, _, g⟩ | ⟨_, _, _, vs, g⟩
    · rw [g]; exact fun x hx => by cases hx
    · rw [g]; exact fun x hx => by cases hx
    · rw [← g.bytes]; exact E_lt g.may
set_option maxHeartbeats 4000000 in
set_option maxRecDepth 100000 in
theorem composeTwo_told (A : Option Addr) (ca : Nat) (a : List CompV) (B : Option Addr) (cb : Nat) (b : List CompV) (hla : a.length ≤ maxLen) (hlb : b.length ≤ maxLen) (hfa : Fine1 a) (hfb : Fine1 b) (w : World) (hA : CompsC w A ca a) (hB : CompsC w B cb b) :
    Calls Try.prog 9 #[.slice A a.length ca, .slice B b.length cb] w fun e w' => Told (rTwo a b) w e w' := by
  have GA := Lib.hid (fun w h => opCheck_any A ca a hla hfa w h)
  have GB := Lib.hid (fun w h => opCheck_any B cb b hlb hfb w h)
  have GO := Lib.hid (fun w h => opOut_any A ca a hla hfa w h)
  have GS := Lib.hid (fun w h => opBase_any B cb b hlb w h)
  have HA := Lib.hid hA
  have HB := Lib.hid hB
  have HN : Hid (∀ (q : Nat) (w' : World), Below w.heap.size w w' → Told ([], q) w (.returned (.tuple #[.slice none 0 0, .int .i64 (q : Int)])) w') := fun q w' h => told_no rfl h
  clear hla hlb hfa hfb hA hB
  by_cases h1 : rCheck a = 0
  · by_cases h2 : rCheck b = 0
    · by_cases h3 : rOut a = rBase b
      · obtain ⟨o, hc, ht, hh, fa, fb, hl, hw, hol⟩ := two_held h1 h2 h3
        rw [ht]
        have GW := Lib.hid (fun w h1 h2 => comWalk_any A ca a B cb b o HA.out.2 HB.out.2 w h1 h2 fa fb hl hc)
        have HH := Lib.hid hh
        have HWO := Lib.hid hw
        have HOL := Lib.hid hol
        have HNP : Hid (∀ out : List CompV, out.map plain = o → rNormal out = rNormal o) := fun out h => by rw [← h, norm_plain]
        obtain ⟨N, HNN⟩ : ∃ N, Hid (rNormal o = N) := ⟨_, rfl⟩
        rw [HNN.out] at HH HNP ⊢
        obtain ⟨x, HX⟩ : ∃ x, Hid (rOut a = x) := ⟨_, rfl⟩
        rw [← h3, HX.out] at GS
        rw [HX.out] at GO
        rw [h1] at GA
        rw [h2] at GB
        clear h1 h2 h3 hc ht hh fa fb hl hw hol
        go_enter Try.func9, Try.ntmps9
        go_wp2_with fail
        refine (GA.out _ HA.out.1).mono ?_
        rintro e w1 ⟨rfl, hb⟩
        have HW1 : Hid (Below w.heap.size w w1) := hb
        replace HA := Lib.hid (HA.out.below hb)
        replace HB := Lib.hid (HB.out.below hb)
        clear hb
        go_wp2_with fail
        refine (GB.out _ HB.out.1).mono ?_
        rintro e w2 ⟨rfl, hb⟩
        have HW2 : Hid (Below w.heap.size w w2) := HW1.out.trans (hb.mono HW1.out.size)
        replace HA := Lib.hid (HA.out.below hb)
        replace HB := Lib.hid (HB.out.below hb)
        clear hb
        go_wp2_with fail
        refine (GO.out _ HA.out.1).mono ?_
        rintro e w3 ⟨rfl, hb⟩
        have HW3 : Hid (Below w.heap.size w w3) := HW2.out.trans (hb.mono HW2.out.size)
        replace HA := Lib.hid (HA.out.below hb)
        replace HB := Lib.hid (HB.out.below hb)
        clear hb
        go_wp2_with fail
        refine (GS.out _ HB.out.1).mono ?_
        rintro e w4 ⟨rfl, hb⟩
        have HW4 : Hid (Below w.heap.size w w4) := HW3.out.trans (hb.mono HW3.out.size)
        replace HA := Lib.hid (HA.out.below hb)
        replace HB := Lib.hid (HB.out.below hb)
        clear hb
        have q1 : (x != x) = false := by simp
        go_wp2_with fail
        refine (GW.out _ HA.out.1 HB.out.1).mono ?_
        rintro e w5 ⟨A5, c5, out, rfl, hown, hplain, hfit, hb⟩
        have HW5 : Hid (Below w.heap.size w w5) := HW4.out.trans (hb.mono HW4.out.size)
        have HGD := Lib.hid (raw_good hplain HWO.out hfit)
        have HRN := Lib.hid (HNP.out out hplain)
        have HLN : Hid (out.length ≤ 1073741824 ∧ tlen out ≤ 1099511627776) := by
          have e1 : out.length = o.length := by rw [← hplain, List.length_map]
          have e2 : tlen out = tlen o := by rw [← hplain, tlen_plain]
          have e3 := small_tlen o (fun x hx => (HWO.out x hx).2)
          have e4 := HOL.out
          exact ⟨by omega, by omega⟩
        have HOA : Hid (CompsAt w5 A5 out) := CellsAt.of_own hown
        clear hown hplain hfit hb
        have GN := Lib.hid (fun w h => opNormal_any A5 c5 out HLN.out.1 HLN.out.2 HGD.out w h)
        rw [HRN.out] at GN
        go_wp2_with fail
        refine (GN.out _ HOA.out).mono ?_
        rintro e w6 ⟨A6, c6, rfl, hown, hb⟩
        have HE : Hid (Told (N, 0) w (.returned (.tuple #[.slice A6 N.length c6, .int .i64 ((0 : Nat) : Int)])) w6) :=
          ⟨⟨A6, c6, rfl, own_base hown HW5.out.size⟩, HH.out, HW5.out.trans (hb.mono HW5.out.size)⟩
        clear hown hb
        go_wp2
        go_ret2
        exact HE.out
      · rw [rTwo, if_neg (by omega), if_neg (by omega), if_pos h3]
        have q1 : (rOut a != rBase b) = true := bne_iff_ne.2 h3
        have q2 : (rOut a == rBase b) = false := beq_eq_false_iff_ne.2 h3
        rw [h1] at GA
        rw [h2] at GB
        clear h1 h2 h3
        generalize rOut a = x at GO q1 q2
        generalize rBase b = y at GS q1 q2
        go_enter Try.func9, Try.ntmps9
        go_wp2_with fail
        refine (GA.out _ HA.out.1).mono ?_
        rintro e w1 ⟨rfl, hb⟩
        have HW1 : Hid (Below w.heap.size w w1) := hb
        replace HA := Lib.hid (HA.out.below hb)
        replace HB := Lib.hid (HB.out.below hb)
        clear hb
        go_wp2_with fail
        refine (GB.out _ HB.out.1).mono ?_
        rintro e w2 ⟨rfl, hb⟩
        have HW2 : Hid (Below w.heap.size w w2) := HW1.out.trans (hb.mono HW1.out.size)
        replace HA := Lib.hid (HA.out.below hb)
        replace HB := Lib.hid (HB.out.below hb)
        clear hb
        go_wp2_with fail
        refine (GO.out _ HA.out.1).mono ?_
        rintro e w3 ⟨rfl, hb⟩
        have HW3 : Hid (Below w.heap.size w w3) := HW2.out.trans (hb.mono HW2.out.size)
        replace HA := Lib.hid (HA.out.below hb)
        replace HB := Lib.hid (HB.out.below hb)
        clear hb
        go_wp2_with fail
        refine (GS.out _ HB.out.1).mono ?_
        rintro e w4 ⟨rfl, hb⟩
        have HW4 : Hid (Below w.heap.size w w4) := HW3.out.trans (hb.mono HW3.out.size)
        clear hb
        go_wp2
        go_ret2
        exact HN.out 11 _ HW4.out
    · rw [rTwo, if_neg (by omega), if_pos h2]
      obtain ⟨q, HQ⟩ : ∃ q, Hid (rCheck b = q) := ⟨_, rfl⟩
      rw [HQ.out] at h2 GB ⊢
      have q1 : ((q : Int) != 0) = true := bne_iff_ne.2 (by omega)
      have q2 : ((q : Int) == 0) = false := beq_eq_false_iff_ne.2 (by omega)
      rw [h1] at GA
      clear h1 h2
      go_enter Try.func9, Try.ntmps9
      go_wp2_with fail
      refine (GA.out _ HA.out.1).mono ?_
      rintro e w1 ⟨rfl, hb⟩
      have HW1 : Hid (Below w.heap.size w w1) := hb
      replace HB := Lib.hid (HB.out.below hb)
      clear hb
      go_wp2_with fail
      refine (GB.out _ HB.out.1).mono ?_
      rintro e w2 ⟨rfl, hb⟩
      have HW2 : Hid (Below w.heap.size w w2) := HW1.out.trans (hb.mono HW1.out.size)
      clear hb
      go_wp2
      go_ret2
      exact HN.out q _ HW2.out
  · rw [rTwo, if_pos h1]
    obtain ⟨q, HQ⟩ : ∃ q, Hid (rCheck a = q) := ⟨_, rfl⟩
    rw [HQ.out] at h1 GA ⊢
    have q1 : ((q : Int) != 0) = true := bne_iff_ne.2 (by omega)
    have q2 : ((q : Int) == 0) = false := beq_eq_false_iff_ne.2 (by omega)
    clear h1
    go_enter Try.func9, Try.ntmps9
    go_wp2_with fail
    refine (GA.out _ HA.out.1).mono ?_
    rintro e w1 ⟨rfl, hb⟩
    have HW1 : Hid (Below w.heap.size w w1) := hb
    clear hb
    go_wp2
    go_ret2
    exact HN.out q _ HW1.out
set_option maxHeartbeats 2000000 in
set_option maxRecDepth 100000 in
theorem composeAll_told (base : Int) (hbase : Fit64 base) (A : Option Addr) (c : Nat) (L : List EditR) (hL : L.length ≤ maxLen) (hf : ∀ x ∈ L, Fine1 x.2.2 ∧ x.2.2.length ≤ maxLen) (w : World) (hA : RowsC w A L) :
    Calls Try.prog 11 #[.int .i64 base, .slice A L.length c] w fun e w' => AllTold (rAll (keepL base, 0) (edits L)) w e w' := by
  have GK := Lib.hid (fun w => opKeepC_any base w)
  have HKH := Lib.hid (keep_held hbase)
  have HA := Lib.hid hA
  have HF := Lib.hid hf
  clear hA hf hbase
  unfold maxLen at hL
  obtain ⟨K, HK⟩ : ∃ K, Hid (keepL base = K) := ⟨_, Lib.hid rfl⟩
  rw [HK.out] at GK HKH ⊢
  have HR0 : Hid (rAll (K, 0) (edits (L.take 0)) = (K, 0)) := by show _ = _; rw [List.take_zero]; exact rAll_nil _
  go_enter Try.func11, Try.ntmps11
  go_wp2_with fail
  refine (GK.out _).mono ?_
  rintro e w1 ⟨A1, c1, rfl, hk, hb⟩
  have HB1 := Lib.hid hb; clear hb
  have HK1 := Lib.hid hk; clear hk
  go_wp2
  go_loopw [6, 7, 14] (fun o ev i wr => ev = .int .i64 0 ∧ ∃ (k : Nat) (A0 : Option Addr) (c0 : Nat), k ≤ L.length ∧ i = .int .i64 k ∧ o = .slice A0 (rAll (K, 0) (edits (L.take k))).1.length c0 ∧ (rAll (K, 0) (edits (L.take k))).2 = 0 ∧ Held1 (rAll (K, 0) (edits (L.take k))).1 ∧
    CompsC wr A0 c0 (rAll (K, 0) (edits (L.take k))).1 ∧ Below w.heap.size w wr) (fun _ _ i _ => L.length - (intOf i).toNat)
  case atStart => exact ⟨rfl, 0, A1, c1, Nat.zero_le _, rfl, by rw [HR0.out], by rw [HR0.out], by rw [HR0.out]; exact HKH.out, by rw [HR0.out]; exact HK1.out, HB1.out⟩
  case round =>
    obtain ⟨rfl, k, A0, c0, hk, rfl, rfl, hz, hh, hc, hb⟩ := hrel
    have HZ := Lib.hid hz
    have HH := Lib.hid hh
    have HC := Lib.hid hc
    have HB := Lib.hid hb
    clear hz hh hc hb
    by_cases hlt : k < L.length
    · obtain ⟨b, off, rfl, _⟩ := HA.out.form (by omega)
      have hcell := ((HA.out.below HB.out).cell hlt).1
      have HCX := Lib.hid ((HA.out.below HB.out).cell hlt).2
      have HFX := Lib.hid (HF.out _ (List.getElem_mem hlt))
      have HS : Hid (rAll (K, 0) (edits (L.take (k + 1))) = rTwo (rAll (K, 0) (edits (L.take k))).1 L[k].2.2) := by
        show _ = _
        rw [List.take_succ_eq_append_getElem hlt, edits, List.map_append, List.map_singleton, rAll_snoc, rAllStep, if_neg (by rw [show List.map (fun x : EditR => x.2.2) (L.take k) = edits (L.take k) from rfl, HZ.out]; simp)]
        rfl
      have HOFF : Hid ((rTwo (rAll (K, 0) (edits (L.take k))).1 L[k].2.2).2 ≠ 0 → rAll (K, 0) (edits L) = rTwo (rAll (K, 0) (edits (L.take k))).1 L[k].2.2) := fun h => by
        have e : edits L = edits (L.take (k + 1)) ++ edits (L.drop (k + 1)) := by rw [edits, edits, edits, ← List.map_append, List.take_append_drop]
        rw [e, rAll_append, HS.out, rAll_off h]
      generalize L[k] = x at hcell HCX HFX HS HOFF
      obtain ⟨AX, cx, lx⟩ := x
      simp only at hcell HCX HFX HS HOFF
      generalize (rAll (K, 0) (edits (L.take k))).1 = P at HH HC HS HOFF ⊢
      have GT := Lib.hid (composeTwo_told A0 c0 P AX cx lx (by have := HH.out.len; unfold maxLen; omega) HFX.out.2 HH.out.fine HFX.out.1 wr HC.out HCX.out)
      obtain ⟨R, HR⟩ : ∃ R, Hid (rTwo P lx = R) := ⟨_, Lib.hid rfl⟩
      rw [HR.out] at GT HS HOFF
      obtain ⟨r1, q⟩ := R
      simp only at HOFF
      go_wp2_with fail
      refine GT.out.mono ?_
      rintro e w2 ⟨⟨A2, c2, rfl, hown⟩, hh2, hb2⟩
      simp only at hown hh2
      have HB2 : Hid (Below w.heap.size w w2) := HB.out.trans (hb2.mono HB.out.size)
      have HC2 := Lib.hid (CompsC.of_own hown)
      have HH2 := Lib.hid hh2
      clear hown hh2 hb2
      by_cases hq : q = 0
      · subst hq
        go_wp2
        go_roundw
        case rel => exact ⟨rfl, k + 1, A2, c2, by omega, by go_num, by rw [HS.out], by rw [HS.out], by rw [HS.out]; exact HH2.out, by rw [HS.out]; exact HC2.out, HB2.out⟩
        case measure => simp [intOf]; omega
      · have q1 : ((q : Int) != 0) = true := bne_iff_ne.2 (by omega)
        have q2 : ((q : Int) == 0) = false := beq_eq_false_iff_ne.2 (by omega)
        have HR1 : Hid (r1 = []) := by show _ = _; have := rTwo_off (a := P) (b := lx) (by rw [HR.out]; exact hq); rw [HR.out] at this; exact this
        have HE : Hid (AllTold (rAll (K, 0) (edits L)) w (.returned (.tuple #[.slice none 0 0, .int .i64 (q : Int)])) w2) := by
          show AllTold _ _ _ _
          rw [HOFF.out hq, HR1.out]
          exact ⟨⟨none, 0, rfl, .inl rfl, Nat.le_refl _⟩, held_nil, HB2.out⟩
        clear hq
        go_wp2
        go_ret2
        exact HE.out
    · have hke : L.take k = L := List.take_of_length_le (by omega)
      rw [hke] at HZ HH HC ⊢
      have HE : Hid (AllTold (rAll (K, 0) (edits L)) w (.returned (.tuple #[.slice A0 (rAll (K, 0) (edits L)).1.length c0, .int .i64 0])) wr) :=
        ⟨⟨A0, c0, by rw [HZ.out]; rfl, HC.out⟩, HH.out, HB.out⟩
      clear hke
      go_wp2
      go_ret2
      exact HE.out
end Go.Proofs.Ytoicgmfcbmjchaa

/- The calls of the laws of edits, each told by a function. Conditions: what memory may hold. -/
namespace Go.Proofs.Ytoicgmfcbmjchaa
open Go.RowKit Go.Deep

theorem Held1.max {l : List CompV} (h : Held1 l) : l.length ≤ maxLen := by have := h.len; unfold maxLen; omega
theorem held_of {l : List CompV} (hg : ∀ y ∈ l, y.Good) {k : Nat} (h : 2 * l.length + tlen l ≤ k) (hk : k ≤ 1073741824) : Held1 l := ⟨hg, by omega, by omega⟩
theorem kDo {s x : List Nat} {l : List CompV} {q : Nat} (hx : dTxt s l = x) (hq : dErr s l = q) (hb : ∀ y ∈ s, y < 256) (hs : s.length ≤ 1073741824) (hl : Held1 l) (A : Option Addr) (c : Nat) (w : World) (hA : CompsC w A c l) :
    Calls Try.prog 14 #[.string (bstr s), .slice A l.length c] w fun e w' => e = .returned (.tuple #[.string (bstr x), .int .i64 (q : Int)]) ∧ Below w.heap.size w w' := by
  refine (apDo_any s A c l hb hs hl.max hl.fine hl.text w hA.1).mono ?_
  rintro e w' ⟨hd, hb⟩
  rw [← hx, ← hq]
  exact ⟨hd.eq, hb⟩
theorem kCheck {l : List CompV} {q : Nat} (h : rCheck l = q) (hl : Held1 l) (A : Option Addr) (c : Nat) (w : World) (hA : CompsC w A c l) :
    Calls Try.prog 15 #[.slice A l.length c] w fun e w' => e = .returned (.int .i64 (q : Int)) ∧ Below w.heap.size w w' := by
  have := opCheck_any A c l hl.max hl.fine w hA.1
  rw [h] at this
  exact this
theorem kKeep (n : Int) (w : World) :
    Calls Try.prog 16 #[.int .i64 n] w fun e w' => (∃ A c, e = .returned (.slice A (keepL n).length c) ∧ CompsC w' A c (keepL n)) ∧ Below w.heap.size w w' := by
  refine (opKeepC_any n w).mono ?_
  rintro e w' ⟨A, c, h1, h2, h3⟩
  exact ⟨⟨A, c, h1, h2⟩, h3⟩
theorem kBase {l : List CompV} {n : Int} (h : rBase l = n) (hl : Held1 l) (A : Option Addr) (c : Nat) (w : World) (hA : CompsC w A c l) :
    Calls Try.prog 17 #[.slice A l.length c] w fun e w' => e = .returned (.int .i64 n) ∧ Below w.heap.size w w' := by
  have := opBase_any A c l hl.max w hA.1
  rw [h] at this
  exact this
theorem kSame {l : List CompV} (hl : Held1 l) (A : Option Addr) (ca : Nat) (B : Option Addr) (cb : Nat) (w : World) (hA : CompsC w A ca l) (hB : CompsC w B cb l) :
    Calls Try.prog 19 #[.slice A l.length ca, .slice B l.length cb] w fun e w' => e = .returned (.bool true) ∧ Below w.heap.size w w' := by
  have := opSame_any A B ca cb l l hl.max hl.max hl.good hl.good w hA.1 hB.1
  rw [sameB_self] at this
  exact this
theorem kRefSame {l : List CompV} (hl : Held1 l) (A : Option Addr) (ca : Nat) (B : Option Addr) (cb : Nat) (w : World) (hA : CompsC w A ca l) (hB : CompsC w B cb l) :
    Calls Try.prog 13 #[.slice A l.length ca, .slice B l.length cb] w fun e w' => e = .returned (.bool true) ∧ Below w.heap.size w w' := by
  have := refSame_any A B ca cb l l hl.max hl.max hl.good hl.good w hA.1 hB.1
  rw [sameB_self] at this
  exact this
theorem alikeComps_c {A : Option Addr} {l : List CompV} (limit : Nat) (cap : Nat) (hl : l.length ≤ maxLen) (hg : ∀ y ∈ l, y.Good) (w : World) (h : CompsC w A cap l) :
    Calls Try.prog 7 #[.slice A l.length cap, .int .i64 (limit : Int)] w fun e w' => e = .returned (.int .i64 (compsWeight limit l : Int)) ∧ Below w.heap.size w w' := alikeComps_at limit cap hl hg w h.1
/-- A text that Do made is not long. -/
theorem dTxt_small (s : List Nat) (l : List CompV) : (∀ y ∈ dTxt s l, y < 256) ∧ (dTxt s l).length ≤ 8000 := by
  by_cases h : dErr s l = 0
  · obtain ⟨hz, x, hx, hn⟩ := dErr_zero h
    have hok := ok_of hz
    have hb := hok.base
    have hlen := ed_length l x hok.wh (by omega)
    have ho := hok.out1
    have he := E_length_le4 (ed l x)
    rw [dTxt_ed hz hx hn]
    exact ⟨E_lt (ed_may l x hok.wh hx.may), by omega⟩
  · rw [dTxt, if_neg h]
    exact ⟨by simp, by simp⟩
/-- Two edits that were done one behind the other. -/
theorem does_two {s : List Nat} {a b : List CompV} (h1 : dErr s a = 0) (h2 : dErr (dTxt s a) b = 0) : Ok a ∧ Ok b ∧ outS a = inS b ∧ ∃ vs, V s vs ∧ vs.length = inS a ∧ dTxt s a = E (ed a vs) ∧ dTxt (dTxt s a) b = E (ed b (ed a vs)) := by
  obtain ⟨hz, x, hx, hn⟩ := dErr_zero h1
  obtain ⟨kz, y, ky, kn⟩ := dErr_zero h2
  have ha := ok_of hz
  have hb := ok_of kz
  have e1 := ha.base
  have e2 := hb.base
  have ht := dTxt_ed hz hx hn
  have hl := ed_length a x ha.wh (by omega)
  have hy : y = ed a x := by
    rw [ht] at ky
    exact ky.uniq (V.mk (ed_may a x ha.wh hx.may))
  subst hy
  exact ⟨ha, hb, by omega, x, hx, by omega, ht, dTxt_ed kz ky kn⟩
/-- What an edit that is checked does to a text of its length. -/
theorem does_ok {s vs : List Nat} {d : List CompV} (hd : Ok d) (hv : V s vs) (hn : vs.length = inS d) : dErr s d = 0 ∧ dTxt s d = E (ed d vs) := by
  have h : (vs.length : Int) = rBase d := by rw [hd.base, hn]
  exact ⟨dErr_ok hd.check hv h, dTxt_ed hd.check hv h⟩
end Go.Proofs.Ytoicgmfcbmjchaa

/- The calls of the laws of compose, each told by a function. Conditions: what memory may hold. -/
namespace Go.Proofs.Ytoicgmfcbmjchaa
open Go.RowKit Go.Deep

theorem kUndo {s : List Nat} {l u : List CompV} {q : Nat} (hx : uOut s l = u) (hq : dErr s l = q) (hb : ∀ y ∈ s, y < 256) (hs : s.length ≤ 1073741824) (hl : Held1 l) (A : Option Addr) (c : Nat) (w : World) (hA : CompsC w A c l) :
    Calls Try.prog 20 #[.string (bstr s), .slice A l.length c] w fun e w' => (∃ A c, e = .returned (.tuple #[.slice A u.length c, .int .i64 (q : Int)]) ∧ CompsC w' A c u) ∧ Below w.heap.size w w' := by
  refine (apUndo_any s A c l hb hs hl.max hl.fine hl.text w hA.1).mono ?_
  rintro e w' ⟨⟨A1, c1, h1, h2⟩, hb⟩
  rw [hx, hq] at h1
  rw [hx] at h2
  exact ⟨⟨A1, c1, h1, CompsC.of_own h2⟩, hb⟩
theorem kOut {l : List CompV} {n : Int} (h : rOut l = n) (hl : Held1 l) (A : Option Addr) (c : Nat) (w : World) (hA : CompsC w A c l) :
    Calls Try.prog 18 #[.slice A l.length c] w fun e w' => e = .returned (.int .i64 n) ∧ Below w.heap.size w w' := by
  have := opOut_any A c l hl.max hl.fine w hA.1
  rw [h] at this
  exact this
theorem kTwo {a b d : List CompV} {q : Nat} (h : rTwo a b = (d, q)) (ha : Held1 a) (hb : Held1 b) (A : Option Addr) (ca : Nat) (B : Option Addr) (cb : Nat) (w : World) (hA : CompsC w A ca a) (hB : CompsC w B cb b) :
    Calls Try.prog 9 #[.slice A a.length ca, .slice B b.length cb] w fun e w' => ((∃ A c, e = .returned (.tuple #[.slice A d.length c, .int .i64 (q : Int)]) ∧ CompsC w' A c d) ∧ Held1 d) ∧ Below w.heap.size w w' := by
  have g := composeTwo_told A ca a B cb b ha.max hb.max ha.fine hb.fine w hA hB
  rw [h] at g
  refine g.mono ?_
  rintro e w' ⟨⟨A1, c1, rfl, ho⟩, hh, hb⟩
  exact ⟨⟨⟨A1, c1, rfl, CompsC.of_own ho⟩, hh⟩, hb⟩
theorem kRefTwo {a b d : List CompV} {q : Nat} (h : rTwo a b = (d, q)) (ha : Held1 a) (hb : Held1 b) (A : Option Addr) (ca : Nat) (B : Option Addr) (cb : Nat) (w : World) (hA : CompsC w A ca a) (hB : CompsC w B cb b) :
    Calls Try.prog 10 #[.slice A a.length ca, .slice B b.length cb] w fun e w' => ((∃ A c, e = .returned (.tuple #[.slice A d.length c, .int .i64 (q : Int)]) ∧ CompsC w' A c d) ∧ Held1 d) ∧ Below w.heap.size w w' := by
  have g := refTwo_told A ca a B cb b ha.max hb.max ha.fine hb.fine w hA.1 hB.1
  rw [h] at g
  refine g.mono ?_
  rintro e w' ⟨⟨A1, c1, rfl, ho⟩, hh, hb⟩
  exact ⟨⟨⟨A1, c1, rfl, CompsC.of_own ho⟩, hh⟩, hb⟩
theorem kAll {base : Int} {L : List EditR} {d : List CompV} {q : Nat} (h : rAll (keepL base, 0) (edits L) = (d, q)) (hbase : Fit64 base) (A : Option Addr) (c : Nat) (hL : L.length ≤ maxLen) (hf : ∀ x ∈ L, Held1 x.2.2) (w : World) (hA : RowsC w A L) :
    Calls Try.prog 11 #[.int .i64 base, .slice A L.length c] w fun e w' => ((∃ A c, e = .returned (.tuple #[.slice A d.length c, .int .i64 (q : Int)]) ∧ CompsC w' A c d) ∧ Held1 d) ∧ Below w.heap.size w w' := by
  have g := composeAll_told base hbase A c L hL (fun x hx => ⟨(hf x hx).fine, (hf x hx).max⟩) w hA
  rw [h] at g
  refine g.mono ?_
  rintro e w' ⟨⟨A1, c1, rfl, ho⟩, hh, hb⟩
  exact ⟨⟨⟨A1, c1, rfl, ho⟩, hh⟩, hb⟩
theorem kRefAll {base : Int} {L : List EditR} {d : List CompV} {q : Nat} (h : rAll (keepL base, 0) (edits L) = (d, q)) (hbase : Fit64 base) (A : Option Addr) (c : Nat) (hL : L.length ≤ maxLen) (hf : ∀ x ∈ L, Held1 x.2.2) (w : World) (hA : RowsC w A L) :
    Calls Try.prog 12 #[.int .i64 base, .slice A L.length c] w fun e w' => ((∃ A c, e = .returned (.tuple #[.slice A d.length c, .int .i64 (q : Int)]) ∧ CompsC w' A c d) ∧ Held1 d) ∧ Below w.heap.size w w' := by
  have g := refAll_told base hbase A c L hL (fun x hx => ⟨(hf x hx).fine, (hf x hx).max⟩) w hA
  rw [h] at g
  refine g.mono ?_
  rintro e w' ⟨⟨A1, c1, rfl, ho⟩, hh, hb⟩
  exact ⟨⟨⟨A1, c1, rfl, ho⟩, hh⟩, hb⟩
end Go.Proofs.Ytoicgmfcbmjchaa

/- The contract of the statements' own awake: it answers true; what was there stays as it was. No condition. -/
namespace Go.Proofs.Ytoicgmfcbmjchaa
open Go.RowKit Go.Deep

theorem aw9_put : rCheck [⟨2, 0, [97]⟩] = 0 ∧ rOut [⟨2, 0, [97]⟩] = 1 := by
  have h1 : Nrm [⟨2, 0, [97]⟩] := nrm_cons (.inr ⟨rfl, rfl, by simp, _, V_one 97 (by omega)⟩) nrm_nil (fun d h => by simp at h)
  have h2 : rBase [⟨2, 0, [97]⟩] = 0 := by simp [rBase, baseStep]
  have h3 : rOut [⟨2, 0, [97]⟩] = 1 := by simp [rOut, outStep, hld01, aw_one]
  refine ⟨?_, h3⟩
  rw [rCheck, nrmB_yes h1, h2, h3]
  simp
theorem aw9_gone : rCheck [⟨3, 1, []⟩] = 0 ∧ rBase [⟨3, 1, []⟩] = 1 := by
  have h1 : Nrm [⟨3, 1, []⟩] := nrm_cons (.inl ⟨.inr rfl, by show (1 : Int) ≤ 1; omega, rfl⟩) nrm_nil (fun d h => by simp at h)
  have h2 : rBase [⟨3, 1, []⟩] = 1 := by simp [rBase, baseStep, hld01]
  have h3 : rOut [⟨3, 1, []⟩] = 0 := by simp [rOut, outStep]
  refine ⟨?_, h2⟩
  rw [rCheck, nrmB_yes h1, h2, h3]
  simp
theorem aw9_two : rTwo [⟨2, 0, [97]⟩] [⟨3, 1, []⟩] = ([], 0) := by
  have hs : sz ⟨2, 0, [97]⟩ = 1 := by rw [sz_two rfl, cps_of (V_one 97 (by omega))]; rfl
  have hs2 : sz ⟨3, 1, []⟩ = 1 := by rw [sz_not (by decide)]; rfl
  have h := Cmp.both ⟨2, 0, [97]⟩ [] ⟨3, 1, []⟩ [] [] 1 (by show (2 : Int) ≠ 3; decide) (by show (3 : Int) ≠ 2; decide) (by rw [hs, hs2]; rfl) (by rw [chop, if_pos hs.symm, chop, if_pos hs2.symm]; exact .nil)
  rw [if_neg (by show ¬ (3 : Int) = 1; decide), if_neg (by show ¬ (2 : Int) = 1; decide)] at h
  rw [rTwo_yes aw9_put.1 aw9_gone.1 (by rw [aw9_put.2, aw9_gone.2]) h]
  rfl
theorem aw9_not : ∃ l, rTwo (keepL 2) (keepL 3) = (l, 11) := by
  have h2 := (keep_ok (n := 2) (by omega)).1
  have h3 := (keep_ok (n := 3) (by omega)).1
  have e2 : rOut (keepL 2) = 2 := by have := h2.out; rw [(keep_ok (n := 2) (by omega)).2.2.1] at this; exact this
  have e3 : rBase (keepL 3) = 3 := by have := h3.base; rw [(keep_ok (n := 3) (by omega)).2.1] at this; exact this
  refine ⟨[], ?_⟩
  rw [rTwo, if_neg (by have := h2.check; simp; exact this), if_neg (by have := h3.check; simp; exact this), if_pos (by rw [e2, e3]; decide)]

set_option maxHeartbeats 2000000 in
set_option maxRecDepth 100000 in
theorem comAwake_any (w : World) : Calls Try.prog 8 #[] w fun e w' => e = .returned (.bool true) ∧ Below w.heap.size w w' := by
  have hp : Held1 [⟨2, 0, [97]⟩] := ⟨fun y hy => by rw [List.mem_singleton.1 hy]; exact good_of _ _ _ (by omega) (by omega) (by simp), by simp, by simp [tlen]⟩
  have hg : Held1 [⟨3, 1, []⟩] := ⟨fun y hy => by rw [List.mem_singleton.1 hy]; exact good_of _ _ _ (by omega) (by omega) (by simp), by simp, by simp [tlen]⟩
  have G1 : Hid (∀ (w : World) (g1 g2 : Nat), g1 = w.heap.size → g2 = w.heap.size + 1 → Calls Try.prog 9 #[.slice (some ⟨g1, 0, none⟩) 1 1, .slice (some ⟨g2, 0, none⟩) 1 1] ((w.alloc (.cells #[.int .i64 2, .int .i64 0, .string { data := #[97] }] 49)).alloc (.cells #[.int .i64 3, .int .i64 1, .string { data := #[] }] 49)) fun e w' =>
      (∃ A c, e = .returned (.tuple #[.slice A 0 c, .int .i64 0])) ∧ Below w.heap.size w w') := by
    intro w g1 g2 h1 h2
    have r1 := (row_one w g1 h1 2 0 [97]).below (((Below.refl _ _).alloc (Nat.le_refl _) (.cells #[.int .i64 3, .int .i64 1, .string (bstr [])] 49)) : Below (w.alloc (.cells #[.int .i64 2, .int .i64 0, .string (bstr [97])] 49)).heap.size _ _)
    have r2 := row_one (w.alloc (.cells #[.int .i64 2, .int .i64 0, .string (bstr [97])] 49)) g2 (by simpa using h2) 3 1 []
    refine (kTwo aw9_two hp hg _ _ _ _ _ ⟨r1, Nat.le_refl _⟩ ⟨r2, Nat.le_refl _⟩).mono ?_
    rintro e w' ⟨⟨⟨A, c, rfl, _⟩, _⟩, hb⟩
    exact ⟨⟨A, c, rfl⟩, (((Below.refl _ w).alloc (Nat.le_refl _) _).alloc (by simp) _).trans (hb.mono (by simp; omega))⟩
  have hk2 := keep_held (n := 2) (by unfold Fit64; omega)
  have hk3 := keep_held (n := 3) (by unfold Fit64; omega)
  obtain ⟨l11, h11⟩ := aw9_not
  have K2 := Lib.hid (fun w => kKeep 2 w)
  have K3 := Lib.hid (fun w => kKeep 3 w)
  have G2 := Lib.hid (fun A ca B cb w h1 h2 => kTwo h11 hk2 hk3 A ca B cb w h1 h2)
  have G3 := Lib.hid (fun (w : World) => kAll (base := 2) (L := []) (d := keepL 2) (q := 0) (rAll_nil _) (by unfold Fit64; omega) none 0 (by simp) (fun x hx => by simp at hx) w (.inl rfl))
  have GS := Lib.hid (fun A ca B cb w h1 h2 => kSame hk2 A ca B cb w h1 h2)
  have HW0 := Lib.hid (Below.refl w.heap.size w)
  clear hp hg h11 hk2 hk3
  generalize keepL 2 = k2 at K2 G2 G3 GS
  generalize keepL 3 = k3 at K3 G2
  go_enter Try.func8, Try.ntmps8
  go_wp2_with fail
  refine (G1.out _ _ _ rfl rfl).mono ?_
  rintro e w1 ⟨⟨A1, c1, rfl⟩, hb⟩
  have HW1 := Lib.hid hb
  clear hb
  go_wp2_with fail
  refine (K2.out _).mono ?_
  rintro e w2 ⟨⟨A2, c2, rfl, hk⟩, hb⟩
  have HW2 : Hid (Below w.heap.size w w2) := HW1.out.trans (hb.mono HW1.out.size)
  have H2 := Lib.hid hk
  clear hk
  clear hb
  go_wp2_with fail
  refine (K3.out _).mono ?_
  rintro e w3 ⟨⟨A3, c3, rfl, hk⟩, hb⟩
  have HW3 : Hid (Below w.heap.size w w3) := HW2.out.trans (hb.mono HW2.out.size)
  replace H2 := Lib.hid (H2.out.below hb)
  have H3 := Lib.hid hk
  clear hk
  clear hb
  go_wp2_with fail
  refine (G2.out _ _ _ _ _ H2.out H3.out).mono ?_
  rintro e w4 ⟨⟨⟨A4, c4, rfl, _⟩, _⟩, hb⟩
  have HW4 : Hid (Below w.heap.size w w4) := HW3.out.trans (hb.mono HW3.out.size)
  replace H2 := Lib.hid (H2.out.below hb)
  replace H3 := Lib.hid (H3.out.below hb)
  clear hb
  go_wp2_with fail
  refine (G3.out _).mono ?_
  rintro e w5 ⟨⟨⟨A5, c5, rfl, hk⟩, _⟩, hb⟩
  have HW5 : Hid (Below w.heap.size w w5) := HW4.out.trans (hb.mono HW4.out.size)
  replace H2 := Lib.hid (H2.out.below hb)
  replace H3 := Lib.hid (H3.out.below hb)
  have H5 := Lib.hid hk
  clear hk
  clear hb
  go_wp2_with fail
  refine (K2.out _).mono ?_
  rintro e w6 ⟨⟨A6, c6, rfl, hk⟩, hb⟩
  have HW6 : Hid (Below w.heap.size w w6) := HW5.out.trans (hb.mono HW5.out.size)
  replace H2 := Lib.hid (H2.out.below hb)
  replace H3 := Lib.hid (H3.out.below hb)
  replace H5 := Lib.hid (H5.out.below hb)
  have H6 := Lib.hid hk
  clear hk
  clear hb
  go_wp2_with fail
  refine (GS.out _ _ _ _ _ H5.out H6.out).mono ?_
  rintro e w7 ⟨rfl, hb⟩
  have HW7 : Hid (Below w.heap.size w w7) := HW6.out.trans (hb.mono HW6.out.size)
  replace H2 := Lib.hid (H2.out.below hb)
  replace H3 := Lib.hid (H3.out.below hb)
  replace H5 := Lib.hid (H5.out.below hb)
  replace H6 := Lib.hid (H6.out.below hb)
  clear hb
  go_wp2
  go_ret
  exact ⟨rfl, HW7.out⟩
end Go.Proofs.Ytoicgmfcbmjchaa
