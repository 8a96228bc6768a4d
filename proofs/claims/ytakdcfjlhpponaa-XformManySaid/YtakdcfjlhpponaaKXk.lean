/- The contract of the statements' own awake: it answers true; what was there stays as it was. No condition. (Merged of 3 texts.) -/
import Derived.Test.YtakdcfjlhpponaaKPair
import Derived.Test.YtakdcfjlhpponaaKTm
import Derived.Test.YtakdcfjlhpponaaKAp
import Derived.Test.YtakdcfjlhpponaaKAl
import Derived.Test.YtakdcfjlhpponaaKOp
import Derived.Test.YtakdcfjlhpponaaKPt
import Derived.Test.YtakdcfjlhpponaaKTo
import Derived.Test.YtakdcfjlhpponaaKXt
/- The calls of the laws of edits, each told by a function. Conditions: what memory may hold. -/
namespace Go.Proofs.Ytakdcfjlhpponaa
open Go.RowKit Go.Deep

theorem Held1.max {l : List CompV} (h : Held1 l) : l.length ≤ maxLen := by have := h.len; unfold maxLen; omega
theorem held_of {l : List CompV} (hg : ∀ y ∈ l, y.Good) {k : Nat} (h : 2 * l.length + tlen l ≤ k) (hk : k ≤ 1073741824) : Held1 l := ⟨hg, by omega, by omega⟩
theorem kDo {s x : List Nat} {l : List CompV} {q : Nat} (hx : dTxt s l = x) (hq : dErr s l = q) (hb : ∀ y ∈ s, y < 256) (hs : s.length ≤ 1073741824) (hl : Held1 l) (A : Option Addr) (c : Nat) (w : World) (hA : CompsC w A c l) :
    Calls Try.prog 15 #[.string (bstr s), .slice A l.length c] w fun e w' => e = .returned (.tuple #[.string (bstr x), .int .i64 (q : Int)]) ∧ Below w.heap.size w w' := by
  refine (apDo_any s A c l hb hs hl.max hl.fine hl.text w hA.1).mono ?_
  rintro e w' ⟨hd, hb⟩
  rw [← hx, ← hq]
  exact ⟨hd.eq, hb⟩
theorem kCheck {l : List CompV} {q : Nat} (h : rCheck l = q) (hl : Held1 l) (A : Option Addr) (c : Nat) (w : World) (hA : CompsC w A c l) :
    Calls Try.prog 16 #[.slice A l.length c] w fun e w' => e = .returned (.int .i64 (q : Int)) ∧ Below w.heap.size w w' := by
  have := opCheck_any A c l hl.max hl.fine w hA.1
  rw [h] at this
  exact this
theorem kKeep (n : Int) (w : World) :
    Calls Try.prog 23 #[.int .i64 n] w fun e w' => (∃ A c, e = .returned (.slice A (keepL n).length c) ∧ CompsC w' A c (keepL n)) ∧ Below w.heap.size w w' := by
  refine (opKeepC_any n w).mono ?_
  rintro e w' ⟨A, c, h1, h2, h3⟩
  exact ⟨⟨A, c, h1, h2⟩, h3⟩
theorem kBase {l : List CompV} {n : Int} (h : rBase l = n) (hl : Held1 l) (A : Option Addr) (c : Nat) (w : World) (hA : CompsC w A c l) :
    Calls Try.prog 17 #[.slice A l.length c] w fun e w' => e = .returned (.int .i64 n) ∧ Below w.heap.size w w' := by
  have := opBase_any A c l hl.max w hA.1
  rw [h] at this
  exact this
theorem kSame {l : List CompV} (hl : Held1 l) (A : Option Addr) (ca : Nat) (B : Option Addr) (cb : Nat) (w : World) (hA : CompsC w A ca l) (hB : CompsC w B cb l) :
    Calls Try.prog 27 #[.slice A l.length ca, .slice B l.length cb] w fun e w' => e = .returned (.bool true) ∧ Below w.heap.size w w' := by
  have := opSame_any A B ca cb l l hl.max hl.max hl.good hl.good w hA.1 hB.1
  rw [sameB_self] at this
  exact this
theorem kRefSame {l : List CompV} (hl : Held1 l) (A : Option Addr) (ca : Nat) (B : Option Addr) (cb : Nat) (w : World) (hA : CompsC w A ca l) (hB : CompsC w B cb l) :
    Calls Try.prog 13 #[.slice A l.length ca, .slice B l.length cb] w fun e w' => e = .returned (.bool true) ∧ Below w.heap.size w w' := by
  have := refSame_any A B ca cb l l hl.max hl.max hl.good hl.good w hA.1 hB.1
  rw [sameB_self] at this
  exact this
theorem alikeComps_c {A : Option Addr} {l : List CompV} (limit : Nat) (cap : Nat) (hl : l.length ≤ maxLen) (hg : ∀ y ∈ l, y.Good) (w : World) (h : CompsC w A cap l) :
    Calls Try.prog 8 #[.slice A l.length cap, .int .i64 (limit : Int)] w fun e w' => e = .returned (.int .i64 (compsWeight limit l : Int)) ∧ Below w.heap.size w w' := alikeComps_at limit cap hl hg w h.1
/-- A text that Do made is not long. -/
theorem dTxt_small (s : List Nat) (l : List CompV) : (∀ y ∈ dTxt s l, y < 256) ∧ (dTxt s l).length ≤ 8000 := by
  by_cases h : dErr s l = 0
  · obtain ⟨hz, x, hx, hn⟩ := dErr_zero h
    have hok := ok_of hz
    have hb := hok.base
    have hlen := ed_length l x hok.wh (by omega)
    have ho := hok.out1
    have he := E_length_le4 (ed l x)
    rw [dTxt_ed hz hx hn]
    exact ⟨E_lt (ed_may l x hok.wh hx.may), by omega⟩
  · rw [dTxt, if_neg h]
    exact ⟨by simp, by simp⟩
/-- Two edits that were done one behind the other. -/
theorem does_two {s : List Nat} {a b : List CompV} (h1 : dErr s a = 0) (h2 : dErr (dTxt s a) b = 0) : Ok a ∧ Ok b ∧ outS a = inS b ∧ ∃ vs, V s vs ∧ vs.length = inS a ∧ dTxt s a = E (ed a vs) ∧ dTxt (dTxt s a) b = E (ed b (ed a vs)) := by
  obtain ⟨hz, x, hx, hn⟩ := dErr_zero h1
  obtain ⟨kz, y, ky, kn⟩ := dErr_zero h2
  have ha := ok_of hz
  have hb := ok_of kz
  have e1 := ha.base
  have e2 := hb.base
  have ht := dTxt_ed hz hx hn
  have hl := ed_length a x ha.wh (by omega)
  have hy : y = ed a x := by
    rw [ht] at ky
    exact ky.uniq (V.mk (ed_may a x ha.wh hx.may))
  subst hy
  exact ⟨ha, hb, by omega, x, hx, by omega, ht, dTxt_ed kz ky kn⟩
/-- What an edit that is checked does to a text of its length. -/
theorem does_ok {s vs : List Nat} {d : List CompV} (hd : Ok d) (hv : V s vs) (hn : vs.length = inS d) : dErr s d = 0 ∧ dTxt s d = E (ed d vs) := by
  have h : (vs.length : Int) = rBase d := by rw [hd.base, hn]
  exact ⟨dErr_ok hd.check hv h, dTxt_ed hd.check hv h⟩
end Go.Proofs.Ytakdcfjlhpponaa

/- The calls of the laws of xform, each told by a function. Conditions: what memory may hold. -/
namespace Go.Proofs.Ytakdcfjlhpponaa
open Go.RowKit Go.Deep

theorem kOver {f : Bool} {a b d : List CompV} {q : Nat} (h : rOver f a b = (d, q)) (ha : Held1 a) (hb : Held1 b) (A : Option Addr) (ca : Nat) (B : Option Addr) (cb : Nat) (w : World) (hA : CompsC w A ca a) (hB : CompsC w B cb b) :
    Calls Try.prog 10 #[.slice A a.length ca, .slice B b.length cb, .bool f] w fun e w' => ((∃ A c, e = .returned (.tuple #[.slice A d.length c, .int .i64 (q : Int)]) ∧ CompsC w' A c d) ∧ Held1 d) ∧ Below w.heap.size w w' := by
  have g := xformOver_told A ca a B cb b ha.max hb.max ha.fine hb.fine f w hA hB
  rw [h] at g
  refine g.mono ?_
  rintro e w' ⟨⟨A1, c1, rfl, ho⟩, hh, hb⟩
  exact ⟨⟨⟨A1, c1, rfl, CompsC.of_own ho⟩, hh⟩, hb⟩
theorem kRefOver {f : Bool} {a b d : List CompV} {q : Nat} (h : rOver f a b = (d, q)) (ha : Held1 a) (hb : Held1 b) (A : Option Addr) (ca : Nat) (B : Option Addr) (cb : Nat) (w : World) (hA : CompsC w A ca a) (hB : CompsC w B cb b) :
    Calls Try.prog 11 #[.slice A a.length ca, .slice B b.length cb, .bool f] w fun e w' => ((∃ A c, e = .returned (.tuple #[.slice A d.length c, .int .i64 (q : Int)]) ∧ CompsC w' A c d) ∧ Held1 d) ∧ Below w.heap.size w w' := by
  have g := refOver_told A ca a B cb b ha.max hb.max ha.fine hb.fine f w hA.1 hB.1
  rw [h] at g
  refine g.mono ?_
  rintro e w' ⟨⟨A1, c1, rfl, ho⟩, hh, hb⟩
  exact ⟨⟨⟨A1, c1, rfl, CompsC.of_own ho⟩, hh⟩, hb⟩
theorem kBoth {a b p q : List CompV} {u v : Nat} (h : rOver true a b = (p, u)) (h2 : rOver false b a = (q, v)) (ha : Held1 a) (hb : Held1 b) (A : Option Addr) (ca : Nat) (B : Option Addr) (cb : Nat) (w : World) (hA : CompsC w A ca a) (hB : CompsC w B cb b) :
    Calls Try.prog 12 #[.slice A a.length ca, .slice B b.length cb] w fun e w' => ((∃ A c B d, e = .returned (.tuple #[.slice A p.length c, .slice B q.length d, .int .i64 (u : Int)]) ∧ CompsC w' A c p ∧ CompsC w' B d q) ∧ Held1 p ∧ Held1 q) ∧ Below w.heap.size w w' := by
  have g := xformBoth_told A ca a B cb b ha.max hb.max ha.fine hb.fine w hA hB
  rw [h, h2] at g
  refine g.mono ?_
  rintro e w' ⟨h, hh, hk, hb⟩
  exact ⟨⟨h, hh, hk⟩, hb⟩
theorem kMany {f : Bool} {a d : List CompV} {L : List EditR} {q : Nat} (h : rMany f (a, 0) (edits L) = (d, q)) (ha : Held1 a) (A : Option Addr) (ca : Nat) (R : Option Addr) (c : Nat) (hL : L.length ≤ maxLen) (hf : ∀ x ∈ L, Held1 x.2.2) (w : World) (hA : CompsC w A ca a) (hR : RowsC w R L) :
    Calls Try.prog 14 #[.slice A a.length ca, .slice R L.length c, .bool f] w fun e w' => ((∃ A c, e = .returned (.tuple #[.slice A d.length c, .int .i64 (q : Int)]) ∧ CompsC w' A c d) ∧ Held1 d) ∧ Below w.heap.size w w' := by
  have g := xformMany_told A ca a ha R c L hL (fun x hx => ⟨(hf x hx).fine, (hf x hx).max⟩) f w hA hR
  rw [h] at g
  refine g.mono ?_
  rintro e w' ⟨⟨A1, c1, rfl, ho⟩, hh, hb⟩
  exact ⟨⟨⟨A1, c1, rfl, ho⟩, hh⟩, hb⟩
end Go.Proofs.Ytakdcfjlhpponaa

/- The contract of the statements' own awake: it answers true; what was there stays as it was. No condition. -/
namespace Go.Proofs.Ytakdcfjlhpponaa
open Go.RowKit Go.Deep

theorem put_ok (x : Nat) (hx : 0 < x ∧ x < 128) : rCheck [⟨2, 0, [x]⟩] = 0 ∧ rBase [⟨2, 0, [x]⟩] = 0 ∧ sz ⟨2, 0, [x]⟩ = 1 ∧ Held1 [⟨2, 0, [x]⟩] := by
  have h1 : Nrm [⟨2, 0, [x]⟩] := nrm_cons (.inr ⟨rfl, rfl, by simp, _, V_one x hx⟩) nrm_nil (fun d h => by simp at h)
  have h2 : rBase [⟨2, 0, [x]⟩] = 0 := by simp [rBase, baseStep]
  have h3 : rOut [⟨2, 0, [x]⟩] = 1 := by simp [rOut, outStep, hld01, (V_one x hx).loose]
  refine ⟨?_, h2, by rw [sz_two rfl, cps_of (V_one x hx)]; rfl, ⟨fun y hy => by rw [List.mem_singleton.1 hy]; exact good_of _ _ _ (by omega) (by omega) ⟨fun z hz => by rw [List.mem_singleton.1 hz]; omega, by simp⟩, by simp, by simp [tlen]⟩⟩
  rw [rCheck, nrmB_yes h1, h2, h3]
  simp
theorem aw10_first : rOver true [⟨2, 0, [120]⟩] [⟨2, 0, [121]⟩] = ([⟨2, 0, [120]⟩, ⟨1, 1, []⟩], 0) := by
  obtain ⟨a1, a2, _, _⟩ := put_ok 120 (by omega)
  obtain ⟨b1, b2, b3, _⟩ := put_ok 121 (by omega)
  have h := Ov.puts (f := true) ⟨2, 0, [120]⟩ [] [⟨2, 0, [121]⟩] _ rfl (.inl rfl) (.pass [] ⟨2, 0, [121]⟩ [] [] (fun h => by have := h.1; revert this; decide) rfl .nil)
  rw [b3] at h
  rw [rOver_yes a1 b1 (by rw [a2, b2]) h]
  simp [rNormal, nRun, nStep, nStart, NS.flush, keepOf, textOf, goneOf, hld01]
theorem aw10_second : rOver false [⟨2, 0, [120]⟩] [⟨2, 0, [121]⟩] = ([⟨1, 1, []⟩, ⟨2, 0, [120]⟩], 0) := by
  obtain ⟨a1, a2, _, _⟩ := put_ok 120 (by omega)
  obtain ⟨b1, b2, b3, _⟩ := put_ok 121 (by omega)
  have h := Ov.pass (f := false) [⟨2, 0, [120]⟩] ⟨2, 0, [121]⟩ [] _ (fun h => by have := h.2; revert this; decide) rfl (.puts ⟨2, 0, [120]⟩ [] [] [] rfl (.inr (by decide)) .nil)
  rw [b3] at h
  rw [rOver_yes a1 b1 (by rw [a2, b2]) h]
  simp [rNormal, nRun, nStep, nStart, NS.flush, keepOf, textOf, goneOf, hld01]
theorem aw10_not : ∃ l, rOver true [⟨2, 0, [120]⟩] (keepL 3) = (l, 11) := by
  obtain ⟨a1, a2, _, _⟩ := put_ok 120 (by omega)
  have h3 := (keep_ok (n := 3) (by omega)).1
  have e3 : rBase (keepL 3) = 3 := by have := h3.base; rw [(keep_ok (n := 3) (by omega)).2.1] at this; exact this
  refine ⟨[], ?_⟩
  rw [rOver, if_neg (by simp; exact a1), if_neg (by have := h3.check; simp; exact this), if_pos (by rw [a2, e3]; decide)]

set_option maxHeartbeats 2000000 in
set_option maxRecDepth 100000 in
theorem xfAwake_any (w : World) : Calls Try.prog 9 #[] w fun e w' => e = .returned (.bool true) ∧ Below w.heap.size w w' := by
  have hp := (put_ok 120 (by omega)).2.2.2
  have hq := (put_ok 121 (by omega)).2.2.2
  have hk3 := keep_held (n := 3) (by unfold Fit64; omega)
  obtain ⟨l11, h11⟩ := aw10_not
  have K3 := Lib.hid (fun w => kKeep 3 w)
  have G1 := Lib.hid (fun A ca B cb w h1 h2 => kOver aw10_first hp hq A ca B cb w h1 h2)
  have G2 := Lib.hid (fun A ca B cb w h1 h2 => kOver aw10_second hp hq A ca B cb w h1 h2)
  have G3 := Lib.hid (fun A ca B cb w h1 h2 => kOver h11 hp hk3 A ca B cb w h1 h2)
  have HR1 : Hid (CompsC _ (some ⟨w.heap.size, 0, none⟩) 1 [(⟨2, 0, [120]⟩ : CompV)]) := ⟨((row_one w w.heap.size rfl 2 0 [120]).below ((Below.refl _ _).alloc (Nat.le_refl _) (.cells #[.int .i64 2, .int .i64 0, .string (bstr [121])] 60))), Nat.le_refl _⟩
  have HR2 : Hid (CompsC _ (some ⟨w.heap.size + 1, 0, none⟩) 1 [(⟨2, 0, [121]⟩ : CompV)]) := ⟨row_one (w.alloc (.cells #[.int .i64 2, .int .i64 0, .string (bstr [120])] 60)) (w.heap.size + 1) (by simp) 2 0 [121], Nat.le_refl _⟩
  have HW1 : Hid (Below w.heap.size w ((w.alloc (.cells #[.int .i64 2, .int .i64 0, .string (bstr [120])] 60)).alloc (.cells #[.int .i64 2, .int .i64 0, .string (bstr [121])] 60))) := ((Below.refl _ w).alloc (Nat.le_refl _) _).alloc (by simp) _
  have e120 : (bstr [120]).toList = (({ data := #[120] } : ByteArray)).toList := rfl
  clear hp hq hk3 h11
  generalize keepL 3 = k3 at K3 G3
  go_enter Try.func9, Try.ntmps9
  go_wp2_with fail
  refine (G1.out _ _ _ _ _ HR1.out HR2.out).mono ?_
  rintro e w2 ⟨⟨⟨A1, c1, rfl, hk⟩, _⟩, hb⟩
  have HW2 : Hid (Below w.heap.size w w2) := HW1.out.trans (hb.mono HW1.out.size)
  replace HR1 := Lib.hid (HR1.out.below hb)
  replace HR2 := Lib.hid (HR2.out.below hb)
  have H1 := Lib.hid hk
  clear hk
  clear hb
  go_wp2_with fail
  refine (G2.out _ _ _ _ _ HR1.out HR2.out).mono ?_
  rintro e w3 ⟨⟨⟨A2, c2, rfl, hk⟩, _⟩, hb⟩
  have HW3 : Hid (Below w.heap.size w w3) := HW2.out.trans (hb.mono HW2.out.size)
  replace HR1 := Lib.hid (HR1.out.below hb)
  replace HR2 := Lib.hid (HR2.out.below hb)
  replace H1 := Lib.hid (H1.out.below hb)
  have H2 := Lib.hid hk
  clear hk
  clear hb
  go_wp2_with fail
  refine (K3.out _).mono ?_
  rintro e w4 ⟨⟨A3, c3, rfl, hk⟩, hb⟩
  have HW4 : Hid (Below w.heap.size w w4) := HW3.out.trans (hb.mono HW3.out.size)
  replace HR1 := Lib.hid (HR1.out.below hb)
  replace HR2 := Lib.hid (HR2.out.below hb)
  replace H1 := Lib.hid (H1.out.below hb)
  replace H2 := Lib.hid (H2.out.below hb)
  have H3 := Lib.hid hk
  clear hk
  clear hb
  go_wp2_with fail
  refine (G3.out _ _ _ _ _ HR1.out H3.out).mono ?_
  rintro e w5 ⟨⟨⟨A4, c4, rfl, _⟩, _⟩, hb⟩
  have HW5 : Hid (Below w.heap.size w w5) := HW4.out.trans (hb.mono HW4.out.size)
  replace HR1 := Lib.hid (HR1.out.below hb)
  replace HR2 := Lib.hid (HR2.out.below hb)
  replace H1 := Lib.hid (H1.out.below hb)
  replace H2 := Lib.hid (H2.out.below hb)
  replace H3 := Lib.hid (H3.out.below hb)
  clear hb
  obtain ⟨b1, o1, rfl, _⟩ := H1.out.1.form (by simp)
  obtain ⟨b2, o2, rfl, _⟩ := H2.out.1.form (by simp)
  obtain ⟨_, _, x2⟩ := H1.out.1.at_ (i := 0) (by simp)
  obtain ⟨_, _, y2⟩ := H2.out.1.at_ (i := 1) (by simp)
  simp only [List.getElem_cons_zero, List.getElem_cons_succ, Nat.zero_mul, Nat.add_zero, Nat.one_mul] at x2 y2
  go_wp2
  go_ret
  exact ⟨rfl, HW5.out⟩
end Go.Proofs.Ytakdcfjlhpponaa
