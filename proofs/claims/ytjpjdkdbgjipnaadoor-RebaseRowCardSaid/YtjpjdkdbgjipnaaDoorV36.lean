/- The landed effect's behind: an edit behind each of a row, as far as there is one. Conditions: what memory may hold; at most 2^20 edits in the row. (Merged of 12 texts.) -/
import Derived.Test.YtjpjdkdbgjipnaaDoorV21
import Derived.Test.YtjpjdkdbgjipnaaDoorV22
import Derived.Deep.DeepCutAuto
import Derived.Test.YtjpjdkdbgjipnaaDoorV25
import Derived.Test.YtjpjdkdbgjipnaaDoorV43
import Derived.Test.YtjpjdkdbgjipnaaDoorV40
import Derived.Test.YtjpjdkdbgjipnaaDoorV12
import Derived.Test.YtjpjdkdbgjipnaaDoorV44
import Derived.Test.YtjpjdkdbgjipnaaDoorV23
import Derived.Test.YtjpjdkdbgjipnaaDoorV19
import Derived.Test.YtjpjdkdbgjipnaaDoorV6
import Derived.Test.YtjpjdkdbgjipnaaDoorV2
import Derived.Test.YtjpjdkdbgjipnaaDoorV24
import Derived.Test.YtjpjdkdbgjipnaaDoorV20
namespace Go.Proofs.YtjpjdkdbgjipnaaDoor
open Go.RowKit Go.Deep
end Go.Proofs.YtjpjdkdbgjipnaaDoor
namespace Go.Proofs.YtjpjdkdbgjipnaaDoor
end Go.Proofs.YtjpjdkdbgjipnaaDoor
namespace Go.Proofs.YtjpjdkdbgjipnaaDoor
open Go.RowKit Go.Deep
end Go.Proofs.YtjpjdkdbgjipnaaDoor
namespace Go.Proofs.YtjpjdkdbgjipnaaDoor
noncomputable def szs : List CompV → Nat
 | [] => 0
 | c :: l => sz c + 1 + szs l
theorem yy156 (c : CompV) (l : List CompV) : szs (c :: l) = sz c + 1 + szs l := rfl
theorem yy496 {c : CompV} (h : Wh c) (l : List CompV) {n : Nat} (h0 : 0 < n) (hn : n ≤ sz c) : szs (chop c l n) < szs (c :: l) := by
 rw [yy156]
 by_cases he : n = sz c
 ·rw [chop, if_pos he]; omega
 ·rw [chop, if_neg he, yy156, (cut_wh h (by omega)).2]; omega
theorem yy387 (f : Bool) : ∀ (m : Nat) (a b : List CompV), szs a + szs b ≤ m → (∀ x ∈ a, Wh x) → (∀ x ∈ b, Wh x) → inS a = inS b → ∃ o, Ov f a b o := by
 intro m
 induction m with
 | zero =>
  intro a b hm ha hb he
  cases a with
  | cons c a => rw [yy156] at hm; omega
  | nil =>
   cases b with
   | cons d b => rw [yy156] at hm; omega
   | nil => exact ⟨_, .nil⟩
 | succ m ih =>
  intro a b hm ha hb he
  have passes : ∀ (d : CompV) (b' : List CompV), b = d :: b' → d.kind = 2 → ¬ (kd a = 2 ∧ f = true) → ∃ o, Ov f a b o := by
   intro d b' hbe hk hn
   subst hbe
   obtain ⟨o, ho⟩ := ih a b' (by rw [yy156] at hm; omega) ha (fun x hx => hb x (by simp [hx])) (by rw [yy26, in_two hk] at he; omega)
   exact ⟨_, .pass a d b' o hn hk ho⟩
  cases a with
  | nil =>
   cases b with
   | nil => exact ⟨_, .nil⟩
   | cons d b =>
    rcases (hb d (by simp)).cases with ⟨g, gn, _⟩ | ⟨g, gn, _⟩ | ⟨g, _⟩
    ·rw [yy69, yy26, in_one g] at he; omega
    ·rw [yy69, yy26, yy72 g] at he; omega
    ·exact passes d b rfl g (fun h => by have := h.1; revert this; decide)
  | cons c a =>
   have ha' := fun x hx => ha x (List.mem_cons_of_mem _ hx)
   have hc := ha c (by simp)
   by_cases hk : c.kind = 2
   ·by_cases hf : f = true ∨ kd b ≠ 2
    ·obtain ⟨o, ho⟩ := ih a b (by rw [yy156] at hm; omega) ha' hb (by rw [yy26, in_two hk] at he; omega)
     exact ⟨_, .puts c a b o hk hf ho⟩
    ·obtain ⟨hf1, hf2⟩ := not_or.1 hf
     have hkb : kd b = 2 := Classical.not_not.1 hf2
     cases b with
     | nil => exact absurd hkb (by decide)
     | cons d b => exact passes d b rfl hkb (fun h => hf1 h.2)
   ·cases b with
    | nil =>
     rw [yy26, yy69] at he
     rcases hc.cases with ⟨g, gn, _⟩ | ⟨g, gn, _⟩ | ⟨g, _⟩
     ·rw [in_one g] at he; omega
     ·rw [yy72 g] at he; omega
     ·exact absurd g hk
    | cons d b =>
     have hb' := fun x hx => hb x (List.mem_cons_of_mem _ hx)
     have hd := hb d (by simp)
     by_cases hk2 : d.kind = 2
     ·exact passes d b rfl hk2 (fun h => hk h.1)
     ·have hx := yy374 (a := a) (b := b) hk hk2 rfl ha hb
      have s1 := yy496 hc a hx.pos (Nat.min_le_left _ _)
      have s2 := yy496 hd b hx.pos (Nat.min_le_right _ _)
      obtain ⟨o, ho⟩ := ih _ _ (by omega) hx.wa hx.wb (by have := hx.ia; have := hx.ib; omega)
      exact ⟨_, .both c a d b o _ hk hk2 rfl ho⟩
structure OverIs (f : Bool) (a b d : List CompV) : Prop where
 over : rOver f a b = (d, 0)
 ch : Ch 0 d
 ins : inS d = outS b
 raw : ∃ o, Ov f a b o ∧ d = yy31 o ∧ ∀ vs, ed d vs = ed o vs
theorem yy497 (f : Bool) {a b : List CompV} (ha : Ok a) (hb : Ok b) (he : inS a = inS b) : ∃ d, OverIs f a b d := by
 obtain ⟨o, ho⟩ := yy387 f _ a b (Nat.le_refl _) ha.wh hb.wh he
 obtain ⟨h1, h2⟩ := ho.wh ha.wh hb.wh he
 have hi := hb.out1
 have hn := yy720 h1 (by rw [h2]; omega)
 exact ⟨yy31 o, yy249 ha.check hb.check (by rw [ha.base, hb.base, he]) ho, hn.ch, by rw [hn.ins, h2], o, ho, rfl, hn.ed⟩
theorem OverIs.meets {f : Bool} {a b p q : List CompV} (h : OverIs f a b p) (k : OverIs (!f) b a q) (ha : Ok a) (hb : Ok b) (he : inS a = inS b) : ∀ vs : List Nat, vs.length = inS a → ed p (ed b vs) = ed q (ed a vs) := by
 obtain ⟨o, ho, _, h1⟩ := h.raw
 obtain ⟨r, hr, _, h2⟩ := k.raw
 intro vs hv
 rw [h1, h2, ho.meets hr ha.wh hb.wh he vs hv]
theorem yy733 {f : Bool} {a b : List CompV} (h : (rOver f a b).2 = 0) : Ok a ∧ Ok b ∧ inS a = inS b := by
 unfold rOver at h
 by_cases h1 : rCheck a = 0
 ·rw [if_neg (by simp [h1])] at h
  by_cases h2 : rCheck b = 0
  ·rw [if_neg (by simp [h2])] at h
   by_cases h3 : rBase a = rBase b
   ·have ka := ok_of h1
    have kb := ok_of h2
    have e1 := ka.base
    have e2 := kb.base
    exact ⟨ka, kb, by omega⟩
   ·rw [if_pos h3] at h; cases h
  ·rw [if_pos h2] at h; exact absurd h h2
 ·rw [if_pos h1] at h; exact absurd h h1
noncomputable def yy575 (f : Bool) (s : List CompV × Nat) (x : List CompV) : List CompV × Nat := if s.2 ≠ 0 then s else rOver f s.1 x
noncomputable def rMany (f : Bool) (s : List CompV × Nat) (l : List (List CompV)) : List CompV × Nat := l.foldl (yy575 f) s
attribute [irreducible] rMany
end Go.Proofs.YtjpjdkdbgjipnaaDoor
namespace Go.Proofs.YtjpjdkdbgjipnaaDoor
open Go.RowKit Go.Deep
namespace St
variable {B gx gy base : Nat} {a b : List CompV} {w0 w : World} {i n j m : Nat} {o : List CompV} {A : Option Addr} {c : Nat}
end St
structure TwoM (a b : List CompV) (i n j m : Nat) (o : List CompV) : Prop where
 px : Pos a i n
 py : Pos b j m
 go : ∀ o', Cmp (rest a i n) (rest b j m) o' → Cmp a b (o ++ o')
 fit : outS (rest a i n) = inS (rest b j m)
 small : ∀ x ∈ o, Small1 x
 len : o.length + (wt (rest a i n) + wt (rest b j m)) ≤ 8000
namespace TwoM
variable {a b : List CompV} {i n j m i' n' j' m' k : Nat} {o ra rb : List CompV} {x y : CompV}
end TwoM
structure OvM (f : Bool) (a b : List CompV) (i n j m : Nat) (o : List CompV) : Prop where
 px : Pos a i n
 py : Pos b j m
 go : ∀ o', Ov f (rest a i n) (rest b j m) o' → Ov f a b (o ++ o')
 fit : inS (rest a i n) = inS (rest b j m)
 small : ∀ x ∈ o, Small1 x
 len : o.length + (wt (rest a i n) + wt (rest b j m)) ≤ 8000
namespace OvM
variable {f : Bool} {a b : List CompV} {i n j m i' n' j' m' k : Nat} {o ra rb : List CompV} {x y : CompV}
end OvM
def Told (r : List CompV × Nat) (w : World) (e : Ending) (w' : World) : Prop :=
 (∃ A c, e = .returned (.tuple #[.slice A r.1.length c, .int .i64 (r.2 : Int)]) ∧ w'.ownsRow w.heap.size 51 3 (.slice A r.1.length c) r.1.length (r.1.flatMap yy2)) ∧ Held1 r.1 ∧ Below w.heap.size w w'
theorem yy740 {e : Ending} {w w' : World} {q : Nat} (h : e = .returned (.tuple #[.slice none 0 0, .int .i64 (q : Int)])) (hb : Below w.heap.size w w') : Told ([], q) w e w' :=
 ⟨⟨none, 0, h, World.ownsRow_nil _ _ _ _⟩, yy152, hb⟩
theorem yy579 (f : Bool) {a b : List CompV} (ha : rCheck a = 0) (hb : rCheck b = 0) (he : rBase a = rBase b) :
  ∃ o, Ov f a b o ∧ rOver f a b = (yy31 o, 0) ∧ Held1 (yy31 o) ∧ (∀ c ∈ a, Wh c ∧ sz c ≤ 4000) ∧ (∀ c ∈ b, Wh c ∧ sz c ≤ 4000) ∧ a.length + b.length ≤ 1000000 ∧ (∀ x ∈ o, Wh x ∧ Small1 x) ∧ o.length ≤ 8000 := by
 have ka := ok_of ha
 have kb := ok_of hb
 have e1 := ka.base; have e2 := kb.base; have e3 := ka.base1; have e4 := kb.out1; have e5 := ka.out1; have e6 := kb.base1
 have e7 := ka.len; have e8 := kb.len
 obtain ⟨o, ho⟩ := yy387 f _ a b (Nat.le_refl _) ka.wh kb.wh (by omega)
 have fa : ∀ c ∈ a, Wh c ∧ sz c ≤ 4000 := fun c hc => ⟨ka.wh c hc, by have := (wt_in a ka.wh).2 c hc; omega⟩
 have fb : ∀ c ∈ b, Wh c ∧ sz c ≤ 4000 := fun c hc => ⟨kb.wh c hc, by have := (wt_in b kb.wh).2 c hc; omega⟩
 obtain ⟨h1, h2⟩ := yy506 ho fa fb
 have hs : ∀ x ∈ o, Wh x ∧ Small1 x := fun x hx => ⟨(h1 x hx).1, yy501 (h1 x hx).1 (h1 x hx).2⟩
 exact ⟨o, ho, yy249 ha hb he ho, (yy736 ha hb he ho (fun x hx => (hs x hx).2) (by omega)).1, fa, fb, by omega, hs, by omega⟩
theorem yy685 {o out : List CompV} (h : out.map plain = o) (hw : ∀ x ∈ o, Wh x ∧ Small1 x) (hn : ∀ y ∈ out, 0 ≤ y.n ∧ y.n ≤ 4000) : ∀ y ∈ out, y.Good := fun y hy => by
 have hp := hw (plain y) (by rw [← h]; exact List.mem_map_of_mem hy)
 have hk : (plain y).kind = y.kind := by
  unfold plain
  split
  ·rename_i g; rw [g]
  ·rfl
 have hs : (plain y).text.length ≤ 16000 := hp.2
 have h0 := hn y hy
 refine ⟨?_, by unfold Fit64; omega, ?_, by rw [yy202] at hs; unfold maxLen; omega⟩
 ·rw [← hk]
  rcases hp.1.cases with ⟨g, _⟩ | ⟨g, _⟩ | ⟨g, _⟩ <;> (rw [g]; unfold Fit64; omega)
 ·rw [← yy202]
  rcases hp.1.cases with ⟨_, _, g⟩ | ⟨_, _, g⟩ | ⟨_, _, _, vs, g⟩
  ·rw [g]; exact fun x hx => by cases hx
  ·rw [g]; exact fun x hx => by cases hx
  ·rw [← g.bytes]; exact E_lt g.may
set_option maxHeartbeats 4000000 in
set_option maxRecDepth 100000 in
theorem yy143 (A : Option Addr) (ca : Nat) (a : List CompV) (B : Option Addr) (cb : Nat) (b : List CompV) (hla : a.length ≤ maxLen) (hlb : b.length ≤ maxLen) (hfa : Fine1 a) (hfb : Fine1 b) (f : Bool) (w : World) (hA : CompsC w A ca a) (hB : CompsC w B cb b) :
  Calls Tryd.prog 56 #[.slice A a.length ca, .slice B b.length cb, .bool f] w fun e w' => Told (rOver f a b) w e w' := by
 have GA := xh (fun w h => yy151 A ca a hla hfa w h)
 have GB := xh (fun w h => yy151 B cb b hlb hfb w h)
 have GO := xh (fun w h => yy191 A ca a hla w h)
 have GS := xh (fun w h => yy191 B cb b hlb w h)
 have HA := xh hA
 have HB := xh hB
 have HN : Hid (∀ (q : Nat) (w' : World), Below w.heap.size w w' → Told ([], q) w (.returned (.tuple #[.slice none 0 0, .int .i64 (q : Int)])) w') := fun q w' h => yy740 rfl h
 clear hla hlb hfa hfb hA hB
 by_cases h1 : rCheck a = 0
 ·by_cases h2 : rCheck b = 0
  ·by_cases h3 : rBase a = rBase b
   ·obtain ⟨o, hc, ht, hh, fa, fb, hl, hw, hol⟩ := yy579 f h1 h2 h3
    rw [ht]
    have GW := xh (fun w h1 h2 => yy507 f A ca a B cb b o w h1 h2 fa fb hl hc)
    have HH := xh hh
    have HWO := xh hw
    have HOL := xh hol
    have HNP : Hid (∀ out : List CompV, out.map plain = o → yy31 out = yy31 o) := fun out h => by rw [← h, norm_plain]
    obtain ⟨N, HNN⟩ : ∃ N, Hid (yy31 o = N) := ⟨_, rfl⟩
    rw [HNN.out] at HH HNP ⊢
    obtain ⟨x, HX⟩ : ∃ x, Hid (rBase a = x) := ⟨_, rfl⟩
    rw [← h3, HX.out] at GS
    rw [HX.out] at GO
    rw [h1] at GA
    rw [h2] at GB
    clear h1 h2 h3 hc ht hh fa fb hl hw hol
    go_enter Tryd.func56, Tryd.ntmps56
    go_wp2_with fail
    refine (GA.out _ HA.out.1).mono ?_
    rintro e w1 ⟨rfl, hb⟩
    have HW1 : Hid (Below w.heap.size w w1) := hb
    replace HA := xh (HA.out.below hb)
    replace HB := xh (HB.out.below hb)
    clear hb
    go_wp2_with fail
    refine (GB.out _ HB.out.1).mono ?_
    rintro e w2 ⟨rfl, hb⟩
    have HW2 : Hid (Below w.heap.size w w2) := HW1.out.trans (hb.mono HW1.out.size)
    replace HA := xh (HA.out.below hb)
    replace HB := xh (HB.out.below hb)
    clear hb
    go_wp2_with fail
    refine (GO.out _ HA.out.1).mono ?_
    rintro e w3 ⟨rfl, hb⟩
    have HW3 : Hid (Below w.heap.size w w3) := HW2.out.trans (hb.mono HW2.out.size)
    replace HA := xh (HA.out.below hb)
    replace HB := xh (HB.out.below hb)
    clear hb
    go_wp2_with fail
    refine (GS.out _ HB.out.1).mono ?_
    rintro e w4 ⟨rfl, hb⟩
    have HW4 : Hid (Below w.heap.size w w4) := HW3.out.trans (hb.mono HW3.out.size)
    replace HA := xh (HA.out.below hb)
    replace HB := xh (HB.out.below hb)
    clear hb
    have q1 : (x != x) = false := by simp
    go_wp2_with fail
    refine (GW.out _ HA.out HB.out).mono ?_
    rintro e w5 ⟨A5, c5, out, rfl, hown, hplain, hfit, hb⟩
    have HW5 : Hid (Below w.heap.size w w5) := HW4.out.trans (hb.mono HW4.out.size)
    have HGD := xh (yy685 hplain HWO.out hfit)
    have HRN := xh (HNP.out out hplain)
    have HLN : Hid (out.length ≤ 1073741824 ∧ tlen out ≤ 1099511627776) := by
     have e1 : out.length = o.length := by rw [← hplain, List.length_map]
     have e2 : tlen out = tlen o := by rw [← hplain, tlen_plain]
     have e3 := yy201 o (fun x hx => (HWO.out x hx).2)
     have e4 := HOL.out
     exact ⟨by omega, by omega⟩
    have HOA : Hid (yy6 w5 A5 out) := yy4.of_own hown
    clear hown hplain hfit hb
    have GN := xh (fun w h => yy317 A5 c5 out HLN.out.1 HLN.out.2 HGD.out w h)
    rw [HRN.out] at GN
    go_wp2_with fail
    refine (GN.out _ HOA.out).mono ?_
    rintro e w6 ⟨A6, c6, rfl, hown, hb⟩
    have HE : Hid (Told (N, 0) w (.returned (.tuple #[.slice A6 N.length c6, .int .i64 ((0 : Nat) : Int)])) w6) :=
     ⟨⟨A6, c6, rfl, yy34 hown HW5.out.size⟩, HH.out, HW5.out.trans (hb.mono HW5.out.size)⟩
    clear hown hb
    go_wp2
    go_ret2
    exact HE.out
   ·rw [rOver, if_neg (by omega), if_neg (by omega), if_pos h3]
    have q1 : (rBase a != rBase b) = true := bne_iff_ne.2 h3
    have q2 : (rBase a == rBase b) = false := xn h3
    rw [h1] at GA
    rw [h2] at GB
    clear h1 h2 h3
    generalize rBase a = x at GO q1 q2
    generalize rBase b = y at GS q1 q2
    go_enter Tryd.func56, Tryd.ntmps56
    go_wp2_with fail
    refine (GA.out _ HA.out.1).mono ?_
    rintro e w1 ⟨rfl, hb⟩
    have HW1 : Hid (Below w.heap.size w w1) := hb
    replace HA := xh (HA.out.below hb)
    replace HB := xh (HB.out.below hb)
    clear hb
    go_wp2_with fail
    refine (GB.out _ HB.out.1).mono ?_
    rintro e w2 ⟨rfl, hb⟩
    have HW2 : Hid (Below w.heap.size w w2) := HW1.out.trans (hb.mono HW1.out.size)
    replace HA := xh (HA.out.below hb)
    replace HB := xh (HB.out.below hb)
    clear hb
    go_wp2_with fail
    refine (GO.out _ HA.out.1).mono ?_
    rintro e w3 ⟨rfl, hb⟩
    have HW3 : Hid (Below w.heap.size w w3) := HW2.out.trans (hb.mono HW2.out.size)
    replace HA := xh (HA.out.below hb)
    replace HB := xh (HB.out.below hb)
    clear hb
    go_wp2_with fail
    refine (GS.out _ HB.out.1).mono ?_
    rintro e w4 ⟨rfl, hb⟩
    have HW4 : Hid (Below w.heap.size w w4) := HW3.out.trans (hb.mono HW3.out.size)
    clear hb
    go_wp2
    go_ret2
    exact HN.out 11 _ HW4.out
  ·rw [rOver, if_neg (by omega), if_pos h2]
   obtain ⟨q, HQ⟩ : ∃ q, Hid (rCheck b = q) := ⟨_, rfl⟩
   rw [HQ.out] at h2 GB ⊢
   have q1 : ((q : Int) != 0) = true := bne_iff_ne.2 (by omega)
   have q2 : ((q : Int) == 0) = false := xn (by omega)
   rw [h1] at GA
   clear h1 h2
   go_enter Tryd.func56, Tryd.ntmps56
   go_wp2_with fail
   refine (GA.out _ HA.out.1).mono ?_
   rintro e w1 ⟨rfl, hb⟩
   have HW1 : Hid (Below w.heap.size w w1) := hb
   replace HB := xh (HB.out.below hb)
   clear hb
   go_wp2_with fail
   refine (GB.out _ HB.out.1).mono ?_
   rintro e w2 ⟨rfl, hb⟩
   have HW2 : Hid (Below w.heap.size w w2) := HW1.out.trans (hb.mono HW1.out.size)
   clear hb
   go_wp2
   go_ret2
   exact HN.out q _ HW2.out
 ·rw [rOver, if_pos h1]
  obtain ⟨q, HQ⟩ : ∃ q, Hid (rCheck a = q) := ⟨_, rfl⟩
  rw [HQ.out] at h1 GA ⊢
  have q1 : ((q : Int) != 0) = true := bne_iff_ne.2 (by omega)
  have q2 : ((q : Int) == 0) = false := xn (by omega)
  clear h1
  go_enter Tryd.func56, Tryd.ntmps56
  go_wp2_with fail
  refine (GA.out _ HA.out.1).mono ?_
  rintro e w1 ⟨rfl, hb⟩
  have HW1 : Hid (Below w.heap.size w w1) := hb
  clear hb
  go_wp2
  go_ret2
  exact HN.out q _ HW1.out
open Classical in
noncomputable def yy56 (o b : List CompV) : List CompV := if o ≠ [] ∧ (rOver true o b).2 = 0 then (rOver true o b).1 else o
noncomputable def yy45 (o : List CompV) (l : List (List CompV)) : List CompV := l.foldl yy56 o
theorem yy452 (b : List CompV) : yy56 [] b = [] := by
 unfold yy56
 rw [if_neg (fun h => h.1 rfl)]
theorem yy145 : ∀ l, yy45 [] l = []
 | [] => rfl
 | b :: l => by
  show yy45 (yy56 [] b) l = []
  rw [yy452]
  exact yy145 l
theorem yy146 (o : List CompV) (l : List (List CompV)) (b : List CompV) : yy45 o (l ++ [b]) = yy56 (yy45 o l) b := by
 unfold yy45
 rw [List.foldl_append]
 rfl
def Src (w : World) (A : Option Addr) (ops : List CompV) (w' : World) (A' : Option Addr) (c' : Nat) (r : List CompV) : Prop := (A' = A ∧ r = ops) ∨ w'.ownsRow w.heap.size 51 3 (.slice A' r.length c') r.length (r.flatMap yy2)
theorem Src.below {w w1 w2 : World} {A A' : Option Addr} {c' : Nat} {ops r : List CompV} (h : Src w A ops w1 A' c' r) (hb : Below w1.heap.size w1 w2) : Src w A ops w2 A' c' r := h.imp id fun h => own_below h hb
set_option maxHeartbeats 4000000 in
set_option maxRecDepth 100000 in
theorem yy303 (A : Option Addr) (c : Nat) (ops : List CompV) (hh : Held1 ops) (hcm : c ≤ maxLen) (R : Option Addr) (d : Nat) (L : List EditR) (hL : L.length ≤ 1048576) (hf : ∀ x ∈ L, Held1 x.2.2) (w : World) (hA : CompsC w A c ops) (hR : RowsC w R L) :
  Calls Tryd.prog 58 #[.slice A ops.length c, .slice R L.length d] w fun e w' => (∃ A' c' r, e = .returned (.slice A' (List.length r) c') ∧ r = yy45 ops (L.map (·.2.2)) ∧ CompsC w' A' c' r ∧ Held1 r ∧ c' ≤ maxLen ∧ Src w A ops w' A' c' r) ∧ Below w.heap.size w w' := by
 have HA := xh hA
 have HR := xh hR
 have HH := xh hh
 have HF := xh hf
 have HCM : Hid (c ≤ maxLen ∧ Src w A ops w A c ops) := xh ⟨hcm, .inl ⟨rfl, rfl⟩⟩
 clear hA hR hh hf hcm
 go_enter Tryd.func58, Tryd.ntmps58
 go_wp2
 go_loopw [0, 11] (fun s0 i wr => ∃ (k : Nat) (A1 : Option Addr) (c1 : Nat) (r : List CompV), k ≤ L.length ∧ i = .int .i64 k ∧ s0 = .slice A1 r.length c1 ∧ Hid (r = yy45 ops ((L.take k).map (·.2.2))) ∧ Hid (CompsC wr A1 c1 r) ∧ Hid (Held1 r) ∧ Hid (c1 ≤ maxLen ∧ Src w A ops wr A1 c1 r) ∧ Hid (Below w.heap.size w wr)) (fun _ i _ => L.length - (intOf i).toNat)
 case atStart => exact ⟨0, A, c, ops, Nat.zero_le _, rfl, rfl, xh rfl, HA, HH, HCM, xh (Below.refl _ _)⟩
 case round =>
  obtain ⟨k, A1, c1, r, hk, rfl, rfl, HE, HC, HR1, HM1, HBE⟩ := hrel
  by_cases hlt : k < L.length
  ·have hltI : (k : Int) < (L.length : Int) := by omega
   have hRw := HR.out.below HBE.out
   obtain ⟨b, off, rfl, _⟩ := hRw.form (by omega)
   obtain ⟨q0, q1⟩ := hRw.cell hlt
   have HQ1 := xh q1
   have HXH := xh (HF.out _ (List.getElem_mem hlt))
   have HTK : Hid ((L.take (k + 1)).map (·.2.2) = (L.take k).map (·.2.2) ++ [L[k].2.2]) := xh (by rw [List.take_succ_eq_append_getElem hlt, List.map_append]; rfl)
   clear hRw q1
   generalize L[k] = x at q0 HQ1 HXH HTK
   obtain ⟨xA, xc, xl⟩ := x
   simp only at q0
   by_cases h0 : r = []
   ·have HALL : Hid (yy45 ops (L.map (·.2.2)) = []) := xh (by
     have h1 := HE.out
     rw [h0] at h1
     have h2 : L.map (·.2.2) = (L.take k).map (·.2.2) ++ (L.drop k).map (·.2.2) := by rw [← List.map_append, List.take_append_drop]
     rw [h2]
     unfold yy45 at h1 ⊢
     rw [List.foldl_append, ← h1]
     exact yy145 _)
    subst h0
    go_wp2
    go_ret
    exact ⟨⟨A1, c1, [], rfl, HALL.out.symm, HC.out, HR1.out, HM1.out.1, HM1.out.2⟩, HBE.out⟩
   ·have hlen : ¬ r.length = 0 := fun e => h0 (List.length_eq_zero_iff.1 e)
    have hlen1 : ((r.length : Int) == 0) = false := xn (by omega)
    have GO := xh (yy143 A1 c1 r xA xc xl HR1.out.max HXH.out.max HR1.out.fine HXH.out.fine true wr HC.out HQ1.out)
    have HR0 := xh h0
    clear h0
    obtain ⟨q, HQ⟩ : ∃ q, Hid (rOver true r xl = q) := ⟨_, xh rfl⟩
    rw [HQ.out] at GO
    obtain ⟨o, e⟩ := q
    go_wp2_with fail
    refine (GO.out).mono ?_
    rintro e1 w2 ⟨⟨A2, c2, rfl, hc2⟩, hh2, hb2⟩
    have HC2 : Hid (CompsC w2 A2 c2 o) := xh (CompsC.of_own hc2)
    have HM2 : Hid (c2 ≤ maxLen ∧ Src w A ops w2 A2 c2 o) := xh ⟨(yy195 hc2).2, .inr (yy34 hc2 HBE.out.size)⟩
    have HMW : Hid (c1 ≤ maxLen ∧ Src w A ops w2 A1 c1 r) := xh ⟨HM1.out.1, HM1.out.2.below hb2⟩
    have HH2 := xh hh2
    have HB2 := xh (HBE.out.trans (hb2.mono HBE.out.size))
    have HCW := xh (CompsC.below HC.out hb2)
    clear hc2 hh2 hb2 GO
    simp only
    by_cases he : e = 0
    ·subst he
     have HN : Hid (o = yy45 ops ((L.take (k + 1)).map (·.2.2))) := xh (by
      rw [HTK.out, yy146, ← HE.out]
      unfold yy56
      rw [if_pos ⟨HR0.out, by rw [HQ.out]⟩, HQ.out])
     go_wp2
     go_roundw
     case rel => exact ⟨k + 1, A2, c2, o, by omega, by go_num, rfl, HN, HC2, HH2, HM2, HB2⟩
     case measure => simp [intOf]; omega
    ·have he1 : ((e : Int) == 0) = false := xn (by omega)
     have HN : Hid (r = yy45 ops ((L.take (k + 1)).map (·.2.2))) := xh (by
      rw [HTK.out, yy146, ← HE.out]
      unfold yy56
      rw [if_neg (fun h => he (by have := h.2; rw [HQ.out] at this; exact this))])
     go_wp2
     go_roundw
     case rel => exact ⟨k + 1, A1, c1, r, by omega, by go_num, rfl, HN, HCW, HR1, HMW, HB2⟩
     case measure => simp [intOf]; omega
  ·obtain rfl : k = L.length := by omega
   have hltI : ¬ (L.length : Int) < (L.length : Int) := by omega
   rw [List.take_length] at HE
   go_wp2
   go_ret
   exact ⟨⟨A1, c1, r, rfl, HE.out, HC.out, HR1.out, HM1.out.1, HM1.out.2⟩, HBE.out⟩
end Go.Proofs.YtjpjdkdbgjipnaaDoor
