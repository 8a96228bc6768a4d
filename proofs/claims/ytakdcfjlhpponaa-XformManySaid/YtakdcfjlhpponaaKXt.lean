/- The landed Over, Both and Many of xform, told by functions. Conditions: what memory may hold. -/
import Derived.Test.YtakdcfjlhpponaaKXw
import Derived.Test.YtakdcfjlhpponaaKTm
import Derived.Test.YtakdcfjlhpponaaKTo
import Derived.Test.YtakdcfjlhpponaaKOp
import Derived.Test.YtakdcfjlhpponaaKUs
/- The landed Over, Both and Many of xform, told by functions. Conditions: what memory may hold. -/
namespace Go.Proofs.Ytakdcfjlhpponaa
open Go.RowKit Go.Deep

/-- What one edit is behind another one, and what memory holds of it. -/
theorem over_held (f : Bool) {a b : List CompV} (ha : rCheck a = 0) (hb : rCheck b = 0) (he : rBase a = rBase b) :
    ∃ o, Ov f a b o ∧ rOver f a b = (rNormal o, 0) ∧ Held1 (rNormal o) ∧ (∀ c ∈ a, Wh c ∧ sz c ≤ 4000) ∧ (∀ c ∈ b, Wh c ∧ sz c ≤ 4000) ∧ a.length + b.length ≤ 1000000 ∧ (∀ x ∈ o, Wh x ∧ Small1 x) ∧ o.length ≤ 8000 := by
  have ka := ok_of ha
  have kb := ok_of hb
  have e1 := ka.base; have e2 := kb.base; have e3 := ka.base1; have e4 := kb.out1; have e5 := ka.out1; have e6 := kb.base1
  have e7 := ka.len; have e8 := kb.len
  obtain ⟨o, ho⟩ := ov_exists f _ a b (Nat.le_refl _) ka.wh kb.wh (by omega)
  have fa : ∀ c ∈ a, Wh c ∧ sz c ≤ 4000 := fun c hc => ⟨ka.wh c hc, by have := (wt_in a ka.wh).2 c hc; omega⟩
  have fb : ∀ c ∈ b, Wh c ∧ sz c ≤ 4000 := fun c hc => ⟨kb.wh c hc, by have := (wt_in b kb.wh).2 c hc; omega⟩
  obtain ⟨h1, h2⟩ := ov_small ho fa fb
  have hs : ∀ x ∈ o, Wh x ∧ Small1 x := fun x hx => ⟨(h1 x hx).1, wh_small (h1 x hx).1 (h1 x hx).2⟩
  exact ⟨o, ho, rOver_yes ha hb he ho, (ov_held ha hb he ho (fun x hx => (hs x hx).2) (by omega)).1, fa, fb, by omega, hs, by omega⟩
theorem raw_good {o out : List CompV} (h : out.map plain = o) (hw : ∀ x ∈ o, Wh x ∧ Small1 x) (hn : ∀ y ∈ out, 0 ≤ y.n ∧ y.n ≤ 4000) : ∀ y ∈ out, y.Good := fun y hy => by
  have hp := hw (plain y) (by rw [← h]; exact List.mem_map_of_mem hy)
  have hk : (plain y).kind = y.kind := by
    unfold plain
    split
    · rename_i g; rw [g]
    · rfl
  have hs : (plain y).text.length ≤ 16000 := hp.2
  have h0 := hn y hy
  refine ⟨?_, by unfold Fit64; omega, ?_, by rw [plain_text] at hs; unfold maxLen; omega⟩
  · rw [← hk]
    rcases hp.1.cases with ⟨g, _⟩ | ⟨g, _⟩ | ⟨g, _⟩ <;> (rw [g]; unfold Fit64; omega)
  · rw [← plain_text]
    rcases hp.1.cases with ⟨_, _, g⟩ | ⟨_, _, g⟩ | ⟨_, _, _, vs, g⟩
    · rw [g]; exact fun x hx => by cases hx
    · rw [g]; exact fun x hx => by cases hx
    · rw [← g.bytes]; exact E_lt g.may
set_option maxHeartbeats 4000000 in
set_option maxRecDepth 100000 in
theorem xformOver_told (A : Option Addr) (ca : Nat) (a : List CompV) (B : Option Addr) (cb : Nat) (b : List CompV) (hla : a.length ≤ maxLen) (hlb : b.length ≤ maxLen) (hfa : Fine1 a) (hfb : Fine1 b) (f : Bool) (w : World) (hA : CompsC w A ca a) (hB : CompsC w B cb b) :
    Calls Try.prog 10 #[.slice A a.length ca, .slice B b.length cb, .bool f] w fun e w' => Told (rOver f a b) w e w' := by
  have GA := Lib.hid (fun w h => opCheck_any A ca a hla hfa w h)
  have GB := Lib.hid (fun w h => opCheck_any B cb b hlb hfb w h)
  have GO := Lib.hid (fun w h => opBase_any A ca a hla w h)
  have GS := Lib.hid (fun w h => opBase_any B cb b hlb w h)
  have HA := Lib.hid hA
  have HB := Lib.hid hB
  have HN : Hid (∀ (q : Nat) (w' : World), Below w.heap.size w w' → Told ([], q) w (.returned (.tuple #[.slice none 0 0, .int .i64 (q : Int)])) w') := fun q w' h => told_no rfl h
  clear hla hlb hfa hfb hA hB
  by_cases h1 : rCheck a = 0
  · by_cases h2 : rCheck b = 0
    · by_cases h3 : rBase a = rBase b
      · obtain ⟨o, hc, ht, hh, fa, fb, hl, hw, hol⟩ := over_held f h1 h2 h3
        rw [ht]
        have GW := Lib.hid (fun w h1 h2 => xfWalk_any f A ca a B cb b o w h1 h2 fa fb hl hc)
        have HH := Lib.hid hh
        have HWO := Lib.hid hw
        have HOL := Lib.hid hol
        have HNP : Hid (∀ out : List CompV, out.map plain = o → rNormal out = rNormal o) := fun out h => by rw [← h, norm_plain]
        obtain ⟨N, HNN⟩ : ∃ N, Hid (rNormal o = N) := ⟨_, rfl⟩
        rw [HNN.out] at HH HNP ⊢
        obtain ⟨x, HX⟩ : ∃ x, Hid (rBase a = x) := ⟨_, rfl⟩
        rw [← h3, HX.out] at GS
        rw [HX.out] at GO
        rw [h1] at GA
        rw [h2] at GB
        clear h1 h2 h3 hc ht hh fa fb hl hw hol
        go_enter Try.func10, Try.ntmps10
        go_wp2_with fail
        refine (GA.out _ HA.out.1).mono ?_
        rintro e w1 ⟨rfl, hb⟩
        have HW1 : Hid (Below w.heap.size w w1) := hb
        replace HA := Lib.hid (HA.out.below hb)
        replace HB := Lib.hid (HB.out.below hb)
        clear hb
        go_wp2_with fail
        refine (GB.out _ HB.out.1).mono ?_
        rintro e w2 ⟨rfl, hb⟩
        have HW2 : Hid (Below w.heap.size w w2) := HW1.out.trans (hb.mono HW1.out.size)
        replace HA := Lib.hid (HA.out.below hb)
        replace HB := Lib.hid (HB.out.below hb)
        clear hb
        go_wp2_with fail
        refine (GO.out _ HA.out.1).mono ?_
        rintro e w3 ⟨rfl, hb⟩
        have HW3 : Hid (Below w.heap.size w w3) := HW2.out.trans (hb.mono HW2.out.size)
        replace HA := Lib.hid (HA.out.below hb)
        replace HB := Lib.hid (HB.out.below hb)
        clear hb
        go_wp2_with fail
        refine (GS.out _ HB.out.1).mono ?_
        rintro e w4 ⟨rfl, hb⟩
        have HW4 : Hid (Below w.heap.size w w4) := HW3.out.trans (hb.mono HW3.out.size)
        replace HA := Lib.hid (HA.out.below hb)
        replace HB := Lib.hid (HB.out.below hb)
        clear hb
        have q1 : (x != x) = false := by simp
        go_wp2_with fail
        refine (GW.out _ HA.out HB.out).mono ?_
        rintro e w5 ⟨A5, c5, out, rfl, hown, hplain, hfit, hb⟩
        have HW5 : Hid (Below w.heap.size w w5) := HW4.out.trans (hb.mono HW4.out.size)
        have HGD := Lib.hid (raw_good hplain HWO.out hfit)
        have HRN := Lib.hid (HNP.out out hplain)
        have HLN : Hid (out.length ≤ 1073741824 ∧ tlen out ≤ 1099511627776) := by
          have e1 : out.length = o.length := by rw [← hplain, List.length_map]
          have e2 : tlen out = tlen o := by rw [← hplain, tlen_plain]
          have e3 := small_tlen o (fun x hx => (HWO.out x hx).2)
          have e4 := HOL.out
          exact ⟨by omega, by omega⟩
        have HOA : Hid (CompsAt w5 A5 out) := CellsAt.of_own hown
        clear hown hplain hfit hb
        have GN := Lib.hid (fun w h => opNormal_any A5 c5 out HLN.out.1 HLN.out.2 HGD.out w h)
        rw [HRN.out] at GN
        go_wp2_with fail
        refine (GN.out _ HOA.out).mono ?_
        rintro e w6 ⟨A6, c6, rfl, hown, hb⟩
        have HE : Hid (Told (N, 0) w (.returned (.tuple #[.slice A6 N.length c6, .int .i64 ((0 : Nat) : Int)])) w6) :=
          ⟨⟨A6, c6, rfl, own_base hown HW5.out.size⟩, HH.out, HW5.out.trans (hb.mono HW5.out.size)⟩
        clear hown hb
        go_wp2
        go_ret2
        exact HE.out
      · rw [rOver, if_neg (by omega), if_neg (by omega), if_pos h3]
        have q1 : (rBase a != rBase b) = true := bne_iff_ne.2 h3
        have q2 : (rBase a == rBase b) = false := beq_eq_false_iff_ne.2 h3
        rw [h1] at GA
        rw [h2] at GB
        clear h1 h2 h3
        generalize rBase a = x at GO q1 q2
        generalize rBase b = y at GS q1 q2
        go_enter Try.func10, Try.ntmps10
        go_wp2_with fail
        refine (GA.out _ HA.out.1).mono ?_
        rintro e w1 ⟨rfl, hb⟩
        have HW1 : Hid (Below w.heap.size w w1) := hb
        replace HA := Lib.hid (HA.out.below hb)
        replace HB := Lib.hid (HB.out.below hb)
        clear hb
        go_wp2_with fail
        refine (GB.out _ HB.out.1).mono ?_
        rintro e w2 ⟨rfl, hb⟩
        have HW2 : Hid (Below w.heap.size w w2) := HW1.out.trans (hb.mono HW1.out.size)
        replace HA := Lib.hid (HA.out.below hb)
        replace HB := Lib.hid (HB.out.below hb)
        clear hb
        go_wp2_with fail
        refine (GO.out _ HA.out.1).mono ?_
        rintro e w3 ⟨rfl, hb⟩
        have HW3 : Hid (Below w.heap.size w w3) := HW2.out.trans (hb.mono HW2.out.size)
        replace HA := Lib.hid (HA.out.below hb)
        replace HB := Lib.hid (HB.out.below hb)
        clear hb
        go_wp2_with fail
        refine (GS.out _ HB.out.1).mono ?_
        rintro e w4 ⟨rfl, hb⟩
        have HW4 : Hid (Below w.heap.size w w4) := HW3.out.trans (hb.mono HW3.out.size)
        clear hb
        go_wp2
        go_ret2
        exact HN.out 11 _ HW4.out
    · rw [rOver, if_neg (by omega), if_pos h2]
      obtain ⟨q, HQ⟩ : ∃ q, Hid (rCheck b = q) := ⟨_, rfl⟩
      rw [HQ.out] at h2 GB ⊢
      have q1 : ((q : Int) != 0) = true := bne_iff_ne.2 (by omega)
      have q2 : ((q : Int) == 0) = false := beq_eq_false_iff_ne.2 (by omega)
      rw [h1] at GA
      clear h1 h2
      go_enter Try.func10, Try.ntmps10
      go_wp2_with fail
      refine (GA.out _ HA.out.1).mono ?_
      rintro e w1 ⟨rfl, hb⟩
      have HW1 : Hid (Below w.heap.size w w1) := hb
      replace HB := Lib.hid (HB.out.below hb)
      clear hb
      go_wp2_with fail
      refine (GB.out _ HB.out.1).mono ?_
      rintro e w2 ⟨rfl, hb⟩
      have HW2 : Hid (Below w.heap.size w w2) := HW1.out.trans (hb.mono HW1.out.size)
      clear hb
      go_wp2
      go_ret2
      exact HN.out q _ HW2.out
  · rw [rOver, if_pos h1]
    obtain ⟨q, HQ⟩ : ∃ q, Hid (rCheck a = q) := ⟨_, rfl⟩
    rw [HQ.out] at h1 GA ⊢
    have q1 : ((q : Int) != 0) = true := bne_iff_ne.2 (by omega)
    have q2 : ((q : Int) == 0) = false := beq_eq_false_iff_ne.2 (by omega)
    clear h1
    go_enter Try.func10, Try.ntmps10
    go_wp2_with fail
    refine (GA.out _ HA.out.1).mono ?_
    rintro e w1 ⟨rfl, hb⟩
    have HW1 : Hid (Below w.heap.size w w1) := hb
    clear hb
    go_wp2
    go_ret2
    exact HN.out q _ HW1.out
set_option maxHeartbeats 2000000 in
set_option maxRecDepth 100000 in
theorem xfCopied_any (A : Option Addr) (ca : Nat) (l : List CompV) (hlen : l.length ≤ 1099511627776) (hf : ∀ y ∈ l, y.text.length ≤ 1099511627776) (w : World) (hA : CompsC w A ca l) :
    Calls Try.prog 40 #[.slice A l.length ca] w fun e w' => (∃ A' c', e = .returned (.slice A' l.length c') ∧ CompsC w' A' c' l) ∧ Below w.heap.size w w' := by
  have HA := Lib.hid hA
  have HF := Lib.hid hf
  clear hA hf
  go_enter Try.func40, Try.ntmps40
  go_wp2
  go_loopw [3, 5, 8] (fun o p i wr => ∃ (k : Nat) (A0 : Option Addr) (c0 : Nat), k ≤ l.length ∧ i = .int .i64 k ∧ o = .slice A0 (l.take k).length c0 ∧ wr.ownsRow w.heap.size 60 3 (.slice A0 (l.take k).length c0) (l.take k).length ((l.take k).flatMap compCells) ∧ Below w.heap.size w wr) (fun _ _ i _ => l.length - (intOf i).toNat)
  case atStart => exact ⟨0, none, 0, Nat.zero_le _, rfl, rfl, World.ownsRow_nil _ _ _ _, Below.refl _ _⟩
  case round =>
    obtain ⟨k, A0, c0, hk, rfl, rfl, hown, hb⟩ := hrel
    have HOWN := Lib.hid hown
    have HB := Lib.hid hb
    clear hown hb
    by_cases hlt : k < l.length
    · obtain ⟨b, off, rfl, _⟩ := HA.out.1.form (by omega)
      obtain ⟨x0, x1, x2⟩ := (HA.out.1.below HB.out).at_ hlt
      have HFX := Lib.hid (HF.out _ (List.getElem_mem hlt))
      have HTK : Hid (l.take (k + 1) = l.take k ++ [l[k]]) := List.take_succ_eq_append_getElem hlt
      have HLT : Hid ((l.take k).length = k) := by show _ = _; rw [List.length_take]; omega
      generalize l[k] = c at x0 x1 x2 HFX HTK
      obtain ⟨kd, n, t⟩ := c
      simp only at x0 x1 x2 HFX
      generalize l.take k = P at HOWN HTK HLT ⊢
      have GC := Lib.hid (fun w => stringsClone_any (bstr t) w (by rw [bstr_size]; have := HFX.out; omega))
      have hr := cm_new wr kd n t
      have HR := Lib.hid hr
      have HB1 : Hid (Below wr.heap.size wr (wr.alloc (.cells #[.int .i64 kd, .int .i64 n, .string (bstr t)] 60))) := (Below.refl _ _).alloc (Nat.le_refl _) _
      have r0 := (cm_row hr).2.2
      clear hr
      go_wp2_with fail
      refine (GC.out _).mono ?_
      rintro e w2 ⟨rfl, hb2⟩
      have hr := HR.out.of_block (hb2.block _ HR.out.lt)
      have y2 := (cm_row hr).2.2
      have yf := hr.frozen 2
      have hr2 := hr.set 2 (.string (bstr t))
      have z0 := hr2.cell (i := 0) (by omega)
      have z1 := hr2.cell (i := 1) (by omega)
      have z2 := hr2.cell (i := 2) (by omega)
      have HB2 : Hid (Below wr.heap.size wr (w2.setCell ⟨wr.heap.size, 2, none⟩ (.string (bstr t)))) := (HB1.out.trans (hb2.mono HB1.out.size)).setCell (by show wr.heap.size ≤ wr.heap.size; omega) _
      have z0' : (w2.setCell ⟨wr.heap.size, 2, none⟩ (.string (bstr t))).cell? ⟨wr.heap.size, 0, none⟩ = some (.int .i64 kd) := z0
      have z1' : (w2.setCell ⟨wr.heap.size, 2, none⟩ (.string (bstr t))).cell? ⟨wr.heap.size, 1, none⟩ = some (.int .i64 n) := z1
      have z2' : (w2.setCell ⟨wr.heap.size, 2, none⟩ (.string (bstr t))).cell? ⟨wr.heap.size, 2, none⟩ = some (.string (bstr t)) := z2
      have HOW2 := Lib.hid (own_below HOWN.out HB2.out)
      have HUP : Hid (w.heap.size ≤ (w2.setCell ⟨wr.heap.size, 2, none⟩ (.string (bstr t))).heap.size) := Nat.le_trans HB.out.size HB2.out.size
      have HBW : Hid (Below w.heap.size w (w2.setCell ⟨wr.heap.size, 2, none⟩ (.string (bstr t)))) := HB.out.trans (HB2.out.mono HB.out.size)
      clear hr hr2 hb2 x0 x1 x2 r0 z0 z1 z2
      go_wp2_with (at_builtin
                   go_loud (refine wpList_pushB rfl (.tmp 16) (.tmp 18) rfl w.heap.size (.slice A0 P.length c0) P ⟨kd, n, t⟩ rfl HOW2.out HUP.out (Eq.trans (rfl : _ = Value.slice (some ⟨w2.heap.size, 0, none⟩) 1 1) (by simp [World.setCell])) (by have := HLT.out; omega) ?_)
                   intro out' A5 c5 w5 hout hown hbel
                   have HOUT := Lib.hid hout
                   have HOWN5 := Lib.hid hown
                   have HBEL := Lib.hid (HBW.out.trans hbel)
                   clear hout hown hbel)
      go_roundw
      case rel => exact ⟨k + 1, A5, c5, by omega, by go_num, by rw [HTK.out, ← HOUT.out], by rw [HTK.out, ← HOUT.out]; exact HOWN5.out, HBEL.out⟩
      case measure => simp [intOf]; omega
    · have hke : l.take k = l := List.take_of_length_le (by omega)
      rw [hke] at HOWN ⊢
      clear hke
      go_wp2
      go_ret
      exact ⟨⟨A0, c0, rfl, CompsC.of_own HOWN.out⟩, HB.out⟩
/-- What is told of two edits, each behind the other. -/
def BothTold (r s : List CompV × Nat) (w : World) (e : Ending) (w' : World) : Prop :=
  (∃ A c B d, e = .returned (.tuple #[.slice A r.1.length c, .slice B s.1.length d, .int .i64 (r.2 : Int)]) ∧ CompsC w' A c r.1 ∧ CompsC w' B d s.1) ∧ Held1 r.1 ∧ Held1 s.1 ∧ Below w.heap.size w w'
/-- Both orders are refused, or none; by the same error where the first edit is refused, or the two have unlike bases. -/
theorem over_both {a b : List CompV} (h : (rOver true a b).2 = 0) : (rOver false b a).2 = 0 := by
  obtain ⟨ka, kb, he⟩ := over_no h
  obtain ⟨d, hd⟩ := over_is false kb ka he.symm
  rw [hd.over]
theorem over_both_no {a b : List CompV} (h : (rOver true a b).2 ≠ 0) : (rOver false b a).1 = [] := by
  refine rOver_off fun h2 => h ?_
  obtain ⟨kb, ka, he⟩ := over_no h2
  obtain ⟨d, hd⟩ := over_is true ka kb he.symm
  rw [hd.over]
set_option maxHeartbeats 2000000 in
set_option maxRecDepth 100000 in
theorem xformBoth_told (A : Option Addr) (ca : Nat) (a : List CompV) (B : Option Addr) (cb : Nat) (b : List CompV) (hla : a.length ≤ maxLen) (hlb : b.length ≤ maxLen) (hfa : Fine1 a) (hfb : Fine1 b) (w : World) (hA : CompsC w A ca a) (hB : CompsC w B cb b) :
    Calls Try.prog 12 #[.slice A a.length ca, .slice B b.length cb] w fun e w' => BothTold (rOver true a b) (rOver false b a) w e w' := by
  have G := Lib.hid (fun w hA hB => xformOver_told A ca a B cb b hla hlb hfa hfb true w hA hB)
  have G2 := Lib.hid (fun w hB hA => xformOver_told B cb b A ca a hlb hla hfb hfa false w hB hA)
  have HY := Lib.hid (over_both (a := a) (b := b))
  have HN := Lib.hid (over_both_no (a := a) (b := b))
  have HN1 := Lib.hid (rOver_off (f := true) (a := a) (b := b))
  obtain ⟨r, HR⟩ : ∃ x, Hid (rOver true a b = x) := ⟨_, Lib.hid rfl⟩
  obtain ⟨s, HS⟩ : ∃ x, Hid (rOver false b a = x) := ⟨_, Lib.hid rfl⟩
  rw [HR.out] at G HY HN HN1 ⊢
  rw [HS.out] at G2 HY HN ⊢
  obtain ⟨r1, q⟩ := r
  obtain ⟨s1, v⟩ := s
  simp only at HY HN HN1
  have HA := Lib.hid hA
  have HBB := Lib.hid hB
  clear hla hlb hfa hfb hA hB HR HS
  go_enter Try.func12, Try.ntmps12
  go_wp2_with fail
  refine (G.out _ HA.out HBB.out).mono ?_
  rintro e w1 ⟨⟨A1, c1, rfl, ho⟩, hh, hb⟩
  have HH := Lib.hid hh
  have HO := Lib.hid (CompsC.of_own ho)
  have HB := Lib.hid hb
  clear hh ho hb
  by_cases hq : q = 0
  · have hv := HY.out hq
    subst hq hv
    go_wp2_with fail
    refine (G2.out _ (HBB.out.below HB.out) (HA.out.below HB.out)).mono ?_
    rintro e w2 ⟨⟨A2, c2, rfl, ho⟩, hh, hb⟩
    have HH2 := Lib.hid hh
    have HO2 := Lib.hid (CompsC.of_own ho)
    have HO1 := Lib.hid (CompsC.below HO.out hb)
    have HB2 : Hid (Below w.heap.size w w2) := HB.out.trans (hb.mono HB.out.size)
    clear hh ho hb
    have HE : Hid (BothTold (r1, 0) (s1, 0) w (.returned (.tuple #[.slice A1 r1.length c1, .slice A2 s1.length c2, .int .i64 0])) w2) :=
      ⟨⟨A1, c1, A2, c2, rfl, HO1.out, HO2.out⟩, HH.out, HH2.out, HB2.out⟩
    go_wp2
    go_ret3
    exact HE.out
  · have q1 : ((q : Int) != 0) = true := bne_iff_ne.2 (by omega)
    have q2 : ((q : Int) == 0) = false := beq_eq_false_iff_ne.2 (by omega)
    have hr1 := HN1.out hq
    have hs1 := HN.out hq
    subst hr1 hs1
    have HE : Hid (BothTold ([], q) ([], v) w (.returned (.tuple #[.slice none 0 0, .slice none 0 0, .int .i64 (q : Int)])) w1) :=
      ⟨⟨none, 0, none, 0, rfl, ⟨.inl rfl, Nat.le_refl _⟩, ⟨.inl rfl, Nat.le_refl _⟩⟩, held_nil, held_nil, HB.out⟩
    clear hq
    go_wp2
    go_ret3
    exact HE.out
set_option maxHeartbeats 2000000 in
set_option maxRecDepth 100000 in
theorem xformMany_told (A : Option Addr) (ca : Nat) (a : List CompV) (hha : Held1 a) (R : Option Addr) (c : Nat) (L : List EditR) (hL : L.length ≤ maxLen) (hf : ∀ x ∈ L, Fine1 x.2.2 ∧ x.2.2.length ≤ maxLen) (f : Bool) (w : World) (hAa : CompsC w A ca a) (hA : RowsC w R L) :
    Calls Try.prog 14 #[.slice A a.length ca, .slice R L.length c, .bool f] w fun e w' => AllTold (rMany f (a, 0) (edits L)) w e w' := by
  have HEA := Lib.hid hha
  have HAA := Lib.hid hAa
  have HA := Lib.hid hA
  have HF := Lib.hid hf
  clear hA hf hha hAa
  unfold maxLen at hL
  have HR0 : Hid (rMany f (a, 0) (edits (L.take 0)) = (a, 0)) := by show _ = _; rw [List.take_zero]; exact rMany_nil _ _
  go_enter Try.func14, Try.ntmps14
  have GCP := Lib.hid (fun w h => xfCopied_any A ca a (by have := HEA.out.len; omega) (fun y hy => (HEA.out.fine y hy).2) w h)
  go_wp2_with fail
  refine (GCP.out _ HAA.out).mono ?_
  rintro e w1 ⟨⟨A1, c1, rfl, hcp⟩, hb1⟩
  have HCP := Lib.hid hcp
  have HBC := Lib.hid hb1
  clear hcp hb1
  go_wp2
  go_loopw [8, 9, 16] (fun o er i wr => er = .int .i64 0 ∧ ∃ (k : Nat) (A0 : Option Addr) (c0 : Nat), k ≤ L.length ∧ i = .int .i64 k ∧ o = .slice A0 (rMany f (a, 0) (edits (L.take k))).1.length c0 ∧ (rMany f (a, 0) (edits (L.take k))).2 = 0 ∧ Held1 (rMany f (a, 0) (edits (L.take k))).1 ∧
    CompsC wr A0 c0 (rMany f (a, 0) (edits (L.take k))).1 ∧ Below w.heap.size w wr) (fun _ _ i _ => L.length - (intOf i).toNat)
  case atStart => exact ⟨rfl, 0, A1, c1, Nat.zero_le _, rfl, by rw [HR0.out], by rw [HR0.out], by rw [HR0.out]; exact HEA.out, by rw [HR0.out]; exact HCP.out, HBC.out⟩
  case round =>
    obtain ⟨rfl, k, A0, c0, hk, rfl, rfl, hz, hh, hc, hb⟩ := hrel
    have HZ := Lib.hid hz
    have HH := Lib.hid hh
    have HC := Lib.hid hc
    have HB := Lib.hid hb
    clear hz hh hc hb
    by_cases hlt : k < L.length
    · obtain ⟨b, off, rfl, _⟩ := HA.out.form (by omega)
      have hcell := ((HA.out.below HB.out).cell hlt).1
      have HCX := Lib.hid ((HA.out.below HB.out).cell hlt).2
      have HFX := Lib.hid (HF.out _ (List.getElem_mem hlt))
      have HS : Hid (rMany f (a, 0) (edits (L.take (k + 1))) = rOver f (rMany f (a, 0) (edits (L.take k))).1 L[k].2.2) := by
        show _ = _
        rw [List.take_succ_eq_append_getElem hlt, edits, List.map_append, List.map_singleton, rMany_snoc, rManyStep, if_neg (by rw [show List.map (fun x : EditR => x.2.2) (L.take k) = edits (L.take k) from rfl, HZ.out]; simp)]
        rfl
      have HOFF : Hid ((rOver f (rMany f (a, 0) (edits (L.take k))).1 L[k].2.2).2 ≠ 0 → rMany f (a, 0) (edits L) = rOver f (rMany f (a, 0) (edits (L.take k))).1 L[k].2.2) := fun h => by
        have e : edits L = edits (L.take (k + 1)) ++ edits (L.drop (k + 1)) := by rw [edits, edits, edits, ← List.map_append, List.take_append_drop]
        rw [e, rMany_append, HS.out, rMany_off f h]
      generalize L[k] = x at hcell HCX HFX HS HOFF
      obtain ⟨AX, cx, lx⟩ := x
      simp only at hcell HCX HFX HS HOFF
      generalize (rMany f (a, 0) (edits (L.take k))).1 = P at HH HC HS HOFF ⊢
      have GT := Lib.hid (xformOver_told A0 c0 P AX cx lx (by have := HH.out.len; unfold maxLen; omega) HFX.out.2 HH.out.fine HFX.out.1 f wr HC.out HCX.out)
      obtain ⟨R, HR⟩ : ∃ R, Hid (rOver f P lx = R) := ⟨_, Lib.hid rfl⟩
      rw [HR.out] at GT HS HOFF
      obtain ⟨r1, q⟩ := R
      simp only at HOFF
      go_wp2_with fail
      refine GT.out.mono ?_
      rintro e w2 ⟨⟨A2, c2, rfl, hown⟩, hh2, hb2⟩
      simp only at hown hh2
      have HB2 : Hid (Below w.heap.size w w2) := HB.out.trans (hb2.mono HB.out.size)
      have HC2 := Lib.hid (CompsC.of_own hown)
      have HH2 := Lib.hid hh2
      clear hown hh2 hb2
      by_cases hq : q = 0
      · subst hq
        go_wp2
        go_roundw
        case rel => exact ⟨rfl, k + 1, A2, c2, by omega, by go_num, by rw [HS.out], by rw [HS.out], by rw [HS.out]; exact HH2.out, by rw [HS.out]; exact HC2.out, HB2.out⟩
        case measure => simp [intOf]; omega
      · have q1 : ((q : Int) != 0) = true := bne_iff_ne.2 (by omega)
        have q2 : ((q : Int) == 0) = false := beq_eq_false_iff_ne.2 (by omega)
        have HR1 : Hid (r1 = []) := by show _ = _; have := rOver_off (f := f) (a := P) (b := lx) (by rw [HR.out]; exact hq); rw [HR.out] at this; exact this
        have HE : Hid (AllTold (rMany f (a, 0) (edits L)) w (.returned (.tuple #[.slice none 0 0, .int .i64 (q : Int)])) w2) := by
          show AllTold _ _ _ _
          rw [HOFF.out hq, HR1.out]
          exact ⟨⟨none, 0, rfl, .inl rfl, Nat.le_refl _⟩, held_nil, HB2.out⟩
        clear hq
        go_wp2
        go_ret2
        exact HE.out
    · have hke : L.take k = L := List.take_of_length_le (by omega)
      rw [hke] at HZ HH HC ⊢
      have HE : Hid (AllTold (rMany f (a, 0) (edits L)) w (.returned (.tuple #[.slice A0 (rMany f (a, 0) (edits L)).1.length c0, .int .i64 0])) wr) :=
        ⟨⟨A0, c0, by rw [HZ.out]; rfl, HC.out⟩, HH.out, HB.out⟩
      clear hke
      go_wp2
      go_ret2
      exact HE.out
end Go.Proofs.Ytakdcfjlhpponaa
