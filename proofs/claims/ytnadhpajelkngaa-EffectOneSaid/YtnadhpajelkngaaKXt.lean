/- The landed Over, Both and Many of xform, told by functions. Conditions: what memory may hold. -/
import Derived.Test.YtnadhpajelkngaaKXw
import Derived.Test.YtnadhpajelkngaaKTm
import Derived.Test.YtnadhpajelkngaaKTo
import Derived.Test.YtnadhpajelkngaaKOp
import Derived.Test.YtnadhpajelkngaaKUs
/- The landed Over, Both and Many of xform, told by functions. Conditions: what memory may hold. -/
namespace Go.Proofs.Ytnadhpajelkngaa
open Go.RowKit Go.Deep

/-- What one edit is behind another one, and what memory holds of it. -/
theorem over_held (f : Bool) {a b : List CompV} (ha : rCheck a = 0) (hb : rCheck b = 0) (he : rBase a = rBase b) :
    ∃ o, Ov f a b o ∧ rOver f a b = (rNormal o, 0) ∧ Held1 (rNormal o) ∧ (∀ c ∈ a, Wh c ∧ sz c ≤ 4000) ∧ (∀ c ∈ b, Wh c ∧ sz c ≤ 4000) ∧ a.length + b.length ≤ 1000000 ∧ (∀ x ∈ o, Wh x ∧ Small1 x) ∧ o.length ≤ 8000 := by
  have ka := ok_of ha
  have kb := ok_of hb
  have e1 := ka.base; have e2 := kb.base; have e3 := ka.base1; have e4 := kb.out1; have e5 := ka.out1; have e6 := kb.base1
  have e7 := ka.len; have e8 := kb.len
  obtain ⟨o, ho⟩ := ov_exists f _ a b (Nat.le_refl _) ka.wh kb.wh (by omega)
  have fa : ∀ c ∈ a, Wh c ∧ sz c ≤ 4000 := fun c hc => ⟨ka.wh c hc, by have := (wt_in a ka.wh).2 c hc; omega⟩
  have fb : ∀ c ∈ b, Wh c ∧ sz c ≤ 4000 := fun c hc => ⟨kb.wh c hc, by have := (wt_in b kb.wh).2 c hc; omega⟩
  obtain ⟨h1, h2⟩ := ov_small ho fa fb
  have hs : ∀ x ∈ o, Wh x ∧ Small1 x := fun x hx => ⟨(h1 x hx).1, wh_small (h1 x hx).1 (h1 x hx).2⟩
  exact ⟨o, ho, rOver_yes ha hb he ho, (ov_held ha hb he ho (fun x hx => (hs x hx).2) (by omega)).1, fa, fb, by omega, hs, by omega⟩
theorem raw_good {o out : List CompV} (h : out.map plain = o) (hw : ∀ x ∈ o, Wh x ∧ Small1 x) (hn : ∀ y ∈ out, 0 ≤ y.n ∧ y.n ≤ 4000) : ∀ y ∈ out, y.Good := fun y hy => by
  have hp := hw (plain y) (by rw [← h]; exact List.mem_map_of_mem hy)
  have hk : (plain y).kind = y.kind := by
    unfold plain
    split
    · rename_i g; rw [g]
    · rfl
  have hs : (plain y).text.length ≤ 16000 := hp.2
  have h0 := hn y hy
  refine ⟨?_, by unfold Fit64; omega, ?_, by rw [plain_text] at hs; unfold maxLen; omega⟩
  · rw [← hk]
    rcases hp.1.cases with ⟨g, _⟩ | ⟨g, _⟩ | ⟨g, _⟩ <;> (rw [g]; unfold Fit64; omega)
  · rw [← plain_text]
    rcases hp.1.cases with ⟨_, _, g⟩ | ⟨_, _, g⟩ | ⟨_, _, _, vs, g⟩
    · rw [g]; exact fun x hx => by cases hx
    · rw [g]; exact fun x hx => by cases hx
    · rw [← g.bytes]; exact E_lt g.may
set_option maxHeartbeats 4000000 in
set_option maxRecDepth 100000 in
theorem xformOver_told (A : Option Addr) (ca : Nat) (a : List CompV) (B : Option Addr) (cb : Nat) (b : List CompV) (hla : a.length ≤ maxLen) (hlb : b.length ≤ maxLen) (hfa : Fine1 a) (hfb : Fine1 b) (f : Bool) (w : World) (hA : CompsC w A ca a) (hB : CompsC w B cb b) :
    Calls Try.prog 43 #[.slice A a.length ca, .slice B b.length cb, .bool f] w fun e w' => Told (rOver f a b) w e w' := by
  have GA := Lib.hid (fun w h => opCheck_any A ca a hla hfa w h)
  have GB := Lib.hid (fun w h => opCheck_any B cb b hlb hfb w h)
  have GO := Lib.hid (fun w h => opBase_any A ca a hla w h)
  have GS := Lib.hid (fun w h => opBase_any B cb b hlb w h)
  have HA := Lib.hid hA
  have HB := Lib.hid hB
  have HN : Hid (∀ (q : Nat) (w' : World), Below w.heap.size w w' → Told ([], q) w (.returned (.tuple #[.slice none 0 0, .int .i64 (q : Int)])) w') := fun q w' h => told_no rfl h
  clear hla hlb hfa hfb hA hB
  by_cases h1 : rCheck a = 0
  · by_cases h2 : rCheck b = 0
    · by_cases h3 : rBase a = rBase b
      · obtain ⟨o, hc, ht, hh, fa, fb, hl, hw, hol⟩ := over_held f h1 h2 h3
        rw [ht]
        have GW := Lib.hid (fun w h1 h2 => xfWalk_any f A ca a B cb b o w h1 h2 fa fb hl hc)
        have HH := Lib.hid hh
        have HWO := Lib.hid hw
        have HOL := Lib.hid hol
        have HNP : Hid (∀ out : List CompV, out.map plain = o → rNormal out = rNormal o) := fun out h => by rw [← h, norm_plain]
        obtain ⟨N, HNN⟩ : ∃ N, Hid (rNormal o = N) := ⟨_, rfl⟩
        rw [HNN.out] at HH HNP ⊢
        obtain ⟨x, HX⟩ : ∃ x, Hid (rBase a = x) := ⟨_, rfl⟩
        rw [← h3, HX.out] at GS
        rw [HX.out] at GO
        rw [h1] at GA
        rw [h2] at GB
        clear h1 h2 h3 hc ht hh fa fb hl hw hol
        go_enter Try.func43, Try.ntmps43
        go_wp2_with fail
        refine (GA.out _ HA.out.1).mono ?_
        rintro e w1 ⟨rfl, hb⟩
        have HW1 : Hid (Below w.heap.size w w1) := hb
        replace HA := Lib.hid (HA.out.below hb)
        replace HB := Lib.hid (HB.out.below hb)
        clear hb
        go_wp2_with fail
        refine (GB.out _ HB.out.1).mono ?_
        rintro e w2 ⟨rfl, hb⟩
        have HW2 : Hid (Below w.heap.size w w2) := HW1.out.trans (hb.mono HW1.out.size)
        replace HA := Lib.hid (HA.out.below hb)
        replace HB := Lib.hid (HB.out.below hb)
        clear hb
        go_wp2_with fail
        refine (GO.out _ HA.out.1).mono ?_
        rintro e w3 ⟨rfl, hb⟩
        have HW3 : Hid (Below w.heap.size w w3) := HW2.out.trans (hb.mono HW2.out.size)
        replace HA := Lib.hid (HA.out.below hb)
        replace HB := Lib.hid (HB.out.below hb)
        clear hb
        go_wp2_with fail
        refine (GS.out _ HB.out.1).mono ?_
        rintro e w4 ⟨rfl, hb⟩
        have HW4 : Hid (Below w.heap.size w w4) := HW3.out.trans (hb.mono HW3.out.size)
        replace HA := Lib.hid (HA.out.below hb)
        replace HB := Lib.hid (HB.out.below hb)
        clear hb
        have q1 : (x != x) = false := by simp
        go_wp2_with fail
        refine (GW.out _ HA.out HB.out).mono ?_
        rintro e w5 ⟨A5, c5, out, rfl, hown, hplain, hfit, hb⟩
        have HW5 : Hid (Below w.heap.size w w5) := HW4.out.trans (hb.mono HW4.out.size)
        have HGD := Lib.hid (raw_good hplain HWO.out hfit)
        have HRN := Lib.hid (HNP.out out hplain)
        have HLN : Hid (out.length ≤ 1073741824 ∧ tlen out ≤ 1099511627776) := by
          have e1 : out.length = o.length := by rw [← hplain, List.length_map]
          have e2 : tlen out = tlen o := by rw [← hplain, tlen_plain]
          have e3 := small_tlen o (fun x hx => (HWO.out x hx).2)
          have e4 := HOL.out
          exact ⟨by omega, by omega⟩
        have HOA : Hid (CompsAt w5 A5 out) := CellsAt.of_own hown
        clear hown hplain hfit hb
        have GN := Lib.hid (fun w h => opNormal_any A5 c5 out HLN.out.1 HLN.out.2 HGD.out w h)
        rw [HRN.out] at GN
        go_wp2_with fail
        refine (GN.out _ HOA.out).mono ?_
        rintro e w6 ⟨A6, c6, rfl, hown, hb⟩
        have HE : Hid (Told (N, 0) w (.returned (.tuple #[.slice A6 N.length c6, .int .i64 ((0 : Nat) : Int)])) w6) :=
          ⟨⟨A6, c6, rfl, own_base hown HW5.out.size⟩, HH.out, HW5.out.trans (hb.mono HW5.out.size)⟩
        clear hown hb
        go_wp2
        go_ret2
        exact HE.out
      · rw [rOver, if_neg (by omega), if_neg (by omega), if_pos h3]
        have q1 : (rBase a != rBase b) = true := bne_iff_ne.2 h3
        have q2 : (rBase a == rBase b) = false := beq_eq_false_iff_ne.2 h3
        rw [h1] at GA
        rw [h2] at GB
        clear h1 h2 h3
        generalize rBase a = x at GO q1 q2
        generalize rBase b = y at GS q1 q2
        go_enter Try.func43, Try.ntmps43
        go_wp2_with fail
        refine (GA.out _ HA.out.1).mono ?_
        rintro e w1 ⟨rfl, hb⟩
        have HW1 : Hid (Below w.heap.size w w1) := hb
        replace HA := Lib.hid (HA.out.below hb)
        replace HB := Lib.hid (HB.out.below hb)
        clear hb
        go_wp2_with fail
        refine (GB.out _ HB.out.1).mono ?_
        rintro e w2 ⟨rfl, hb⟩
        have HW2 : Hid (Below w.heap.size w w2) := HW1.out.trans (hb.mono HW1.out.size)
        replace HA := Lib.hid (HA.out.below hb)
        replace HB := Lib.hid (HB.out.below hb)
        clear hb
        go_wp2_with fail
        refine (GO.out _ HA.out.1).mono ?_
        rintro e w3 ⟨rfl, hb⟩
        have HW3 : Hid (Below w.heap.size w w3) := HW2.out.trans (hb.mono HW2.out.size)
        replace HA := Lib.hid (HA.out.below hb)
        replace HB := Lib.hid (HB.out.below hb)
        clear hb
        go_wp2_with fail
        refine (GS.out _ HB.out.1).mono ?_
        rintro e w4 ⟨rfl, hb⟩
        have HW4 : Hid (Below w.heap.size w w4) := HW3.out.trans (hb.mono HW3.out.size)
        clear hb
        go_wp2
        go_ret2
        exact HN.out 11 _ HW4.out
    · rw [rOver, if_neg (by omega), if_pos h2]
      obtain ⟨q, HQ⟩ : ∃ q, Hid (rCheck b = q) := ⟨_, rfl⟩
      rw [HQ.out] at h2 GB ⊢
      have q1 : ((q : Int) != 0) = true := bne_iff_ne.2 (by omega)
      have q2 : ((q : Int) == 0) = false := beq_eq_false_iff_ne.2 (by omega)
      rw [h1] at GA
      clear h1 h2
      go_enter Try.func43, Try.ntmps43
      go_wp2_with fail
      refine (GA.out _ HA.out.1).mono ?_
      rintro e w1 ⟨rfl, hb⟩
      have HW1 : Hid (Below w.heap.size w w1) := hb
      replace HB := Lib.hid (HB.out.below hb)
      clear hb
      go_wp2_with fail
      refine (GB.out _ HB.out.1).mono ?_
      rintro e w2 ⟨rfl, hb⟩
      have HW2 : Hid (Below w.heap.size w w2) := HW1.out.trans (hb.mono HW1.out.size)
      clear hb
      go_wp2
      go_ret2
      exact HN.out q _ HW2.out
  · rw [rOver, if_pos h1]
    obtain ⟨q, HQ⟩ : ∃ q, Hid (rCheck a = q) := ⟨_, rfl⟩
    rw [HQ.out] at h1 GA ⊢
    have q1 : ((q : Int) != 0) = true := bne_iff_ne.2 (by omega)
    have q2 : ((q : Int) == 0) = false := beq_eq_false_iff_ne.2 (by omega)
    clear h1
    go_enter Try.func43, Try.ntmps43
    go_wp2_with fail
    refine (GA.out _ HA.out.1).mono ?_
    rintro e w1 ⟨rfl, hb⟩
    have HW1 : Hid (Below w.heap.size w w1) := hb
    clear hb
    go_wp2
    go_ret2
    exact HN.out q _ HW1.out
/-- What is told of two edits, each behind the other. -/
def BothTold (r s : List CompV × Nat) (w : World) (e : Ending) (w' : World) : Prop :=
  (∃ A c B d, e = .returned (.tuple #[.slice A r.1.length c, .slice B s.1.length d, .int .i64 (r.2 : Int)]) ∧ CompsC w' A c r.1 ∧ CompsC w' B d s.1) ∧ Held1 r.1 ∧ Held1 s.1 ∧ Below w.heap.size w w'
/-- Both orders are refused, or none; by the same error where the first edit is refused, or the two have unlike bases. -/
theorem over_both {a b : List CompV} (h : (rOver true a b).2 = 0) : (rOver false b a).2 = 0 := by
  obtain ⟨ka, kb, he⟩ := over_no h
  obtain ⟨d, hd⟩ := over_is false kb ka he.symm
  rw [hd.over]
theorem over_both_no {a b : List CompV} (h : (rOver true a b).2 ≠ 0) : (rOver false b a).1 = [] := by
  refine rOver_off fun h2 => h ?_
  obtain ⟨kb, ka, he⟩ := over_no h2
  obtain ⟨d, hd⟩ := over_is true ka kb he.symm
  rw [hd.over]
end Go.Proofs.Ytnadhpajelkngaa
