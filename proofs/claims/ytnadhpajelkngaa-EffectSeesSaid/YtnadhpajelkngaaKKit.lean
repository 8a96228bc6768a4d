/- The calls of EffectSees, each told by a function. Conditions: what memory may hold. (Merged of 2 texts.) -/
import Derived.Test.YtnadhpajelkngaaKEdit
import Derived.Test.YtnadhpajelkngaaKAl
import Derived.Test.YtnadhpajelkngaaKCs
import Derived.Test.YtnadhpajelkngaaKOp
import Derived.Test.YtnadhpajelkngaaKLnd
import Derived.Test.YtnadhpajelkngaaKTo
import Derived.Test.YtnadhpajelkngaaKRef
import Derived.Test.YtnadhpajelkngaaKTm
import Derived.Test.YtnadhpajelkngaaKXt
/- Calls of the laws of edits that most need, each told by a function. Conditions: what memory may hold. -/
namespace Go.Proofs.Ytnadhpajelkngaa
open Go.RowKit Go.Deep

theorem kCheck {l : List CompV} {q : Nat} (h : rCheck l = q) (hl : Held1 l) (A : Option Addr) (c : Nat) (w : World) (hA : CompsC w A c l) :
    Calls Try.prog 53 #[.slice A l.length c] w fun e w' => e = .returned (.int .i64 (q : Int)) ∧ Below w.heap.size w w' := by
  have := opCheck_any A c l hl.max hl.fine w hA.1
  rw [h] at this
  exact this
theorem kBase {l : List CompV} {n : Int} (h : rBase l = n) (hl : Held1 l) (A : Option Addr) (c : Nat) (w : World) (hA : CompsC w A c l) :
    Calls Try.prog 54 #[.slice A l.length c] w fun e w' => e = .returned (.int .i64 n) ∧ Below w.heap.size w w' := by
  have := opBase_any A c l hl.max w hA.1
  rw [h] at this
  exact this
theorem alikeComps_c {A : Option Addr} {l : List CompV} (limit : Nat) (cap : Nat) (hl : l.length ≤ maxLen) (hg : ∀ y ∈ l, y.Good) (w : World) (h : CompsC w A cap l) :
    Calls Try.prog 6 #[.slice A l.length cap, .int .i64 (limit : Int)] w fun e w' => e = .returned (.int .i64 (compsWeight limit l : Int)) ∧ Below w.heap.size w w' := alikeComps_at limit cap hl hg w h.1
end Go.Proofs.Ytnadhpajelkngaa

/- The calls of EffectSees, each told by a function. Conditions: what memory may hold. -/
namespace Go.Proofs.Ytnadhpajelkngaa
open Go.RowKit Go.Deep

theorem kRefDo {s x : List Nat} {l : List CompV} {q : Nat} (hx : dTxt s l = x) (hq : dErr s l = q) (hb : ∀ y ∈ s, y < 256) (hs : s.length ≤ 1073741824) (hl : Held1 l) (A : Option Addr) (c : Nat) (w : World) (hA : CompsAt w A l) :
    Calls Try.prog 8 #[.string (bstr s), .slice A l.length c] w fun e w' => e = .returned (.tuple #[.string (bstr x), .int .i64 (q : Int)]) ∧ Below w.heap.size w w' := by
  refine (refDo_any s A c l hb hs hl.max hl.fine hl.text w hA).mono ?_
  rintro e w' ⟨hd, hb⟩
  rw [← hx, ← hq]
  exact ⟨hd.eq, hb⟩
theorem kRefChk {l : List CompV} {q : Nat} (h : rCheck l = q) (hl : Held1 l) (A : Option Addr) (c : Nat) (w : World) (hA : CompsAt w A l) :
    Calls Try.prog 12 #[.slice A l.length c] w fun e w' => e = .returned (.int .i64 (q : Int)) ∧ Below w.heap.size w w' := by
  have := refCheck_any A c l hl.max hl.fine w hA
  rw [h] at this
  exact this
theorem kRefOv {f : Bool} {a b d : List CompV} {q : Nat} (h : rOver f a b = (d, q)) (ha : Held1 a) (hb : Held1 b) (A : Option Addr) (ca : Nat) (B : Option Addr) (cb : Nat) (w : World) (hA : CompsAt w A a) (hB : CompsAt w B b) :
    Calls Try.prog 11 #[.slice A a.length ca, .slice B b.length cb, .bool f] w fun e w' => ((∃ A c, e = .returned (.tuple #[.slice A d.length c, .int .i64 (q : Int)]) ∧ CompsAt w' A d) ∧ Held1 d) ∧ Below w.heap.size w w' := by
  have g := refOver_told A ca a B cb b ha.max hb.max ha.fine hb.fine f w hA hB
  rw [h] at g
  refine g.mono ?_
  rintro e w' ⟨⟨A1, c1, rfl, ho⟩, hh, hb⟩
  exact ⟨⟨⟨A1, c1, rfl, CellsAt.of_own ho⟩, hh⟩, hb⟩
/-- What an edit that is checked does to a text of its length. -/
theorem sees_ok {s vs : List Nat} {d : List CompV} (hd : Ok d) (hv : V s vs) (hn : vs.length = inS d) : dErr s d = 0 ∧ dTxt s d = E (ed d vs) := by
  have h : (vs.length : Int) = rBase d := by rw [hd.base, hn]
  exact ⟨dErr_ok hd.check hv h, dTxt_ed hd.check hv h⟩
/-- An edit of one. -/
def eE (id : Int) (A : Option Addr) (c : Nat) (a : List CompV) : ActV := ⟨4, id, 0, [], false, A, c, a⟩
theorem eE_ok {id : Int} (hid : Fit64 id) (A : Option Addr) {c : Nat} {a : List CompV} (ha : Held1 a) (hc : a.length ≤ c) (hm : c ≤ maxLen) : ActH (eE id A c a) := by
  refine ⟨⟨by show Fit64 4; unfold Fit64; omega, hid, by show Fit64 0; unfold Fit64; omega, ⟨by simp [eE], by simp [eE]⟩, ha.good, hc, hm⟩, ha, by simp [eE]⟩
theorem eff_edit (A : Option Addr) (c : Nat) (a : List CompV) : eff [eE 5 A c a] = [⟨5, a, true, false, false, false, 0, []⟩] := rfl
theorem over_edit {a b P : List CompV} (h : rOver true a b = (P, 0)) (h0 : a ≠ []) (B : Option Addr) (c : Nat) : overK [⟨5, a, true, false, false, false, 0, []⟩] [eE 5 B c b, eE 6 B c b] = [⟨5, P, true, false, false, false, 0, []⟩] := by
  unfold overK overOne
  rw [List.map_singleton, List.foldl_cons, List.foldl_cons, List.foldl_nil]
  have e1 : overStep ⟨5, a, true, false, false, false, 0, []⟩ (eE 5 B c b) = ⟨5, P, true, false, false, false, 0, []⟩ := by
    unfold overStep
    rw [if_pos ⟨⟨rfl, rfl⟩, h0, by show (rOver true a b).2 = 0; rw [h]⟩]
    show (⟨5, (rOver true a b).1, true, false, false, false, 0, []⟩ : OneK) = _
    rw [h]
  have e2 : overStep ⟨5, P, true, false, false, false, 0, []⟩ (eE 6 B c b) = ⟨5, P, true, false, false, false, 0, []⟩ := by
    unfold overStep
    rw [if_neg fun g => absurd g.1.2 (by show ¬ (6 : Int) = 5; decide)]
  rw [e1, e2]
theorem acts_e1 (x : World) (A : Option Addr) (c : Nat) (a : List CompV) (hc : CompsAt x A a) (g : Nat) (hg : g = x.heap.size) : ActsAt (x.alloc (.cells #[.int .i64 4, .int .i64 5, .int .i64 0, .string { data := #[] }, .bool false, .slice A a.length c] 31)) (some ⟨g, 0, none⟩) [eE 5 A c a] := by
  refine ⟨CellsAt.lit (fun j v h => by rw [← Array.getElem?_toList]; exact h) hg, fun y hy => ?_⟩
  rw [List.mem_singleton.1 hy]
  exact hc.below ((Below.refl _ _).alloc (Nat.le_refl _) _)
theorem acts_e2 (x : World) (A : Option Addr) (c : Nat) (a : List CompV) (hc : CompsAt x A a) (g : Nat) (hg : g = x.heap.size) : ActsAt (x.alloc (.cells #[.int .i64 4, .int .i64 5, .int .i64 0, .string { data := #[] }, .bool false, .slice A a.length c, .int .i64 4, .int .i64 6, .int .i64 0, .string { data := #[] }, .bool false, .slice A a.length c] 31)) (some ⟨g, 0, none⟩) [eE 5 A c a, eE 6 A c a] := by
  refine ⟨CellsAt.lit (fun j v h => by rw [← Array.getElem?_toList]; exact h) hg, fun y hy => ?_⟩
  have hy' : y = eE 5 A c a ∨ y = eE 6 A c a := by simpa using hy
  rcases hy' with rfl | rfl
  · exact hc.below ((Below.refl _ _).alloc (Nat.le_refl _) _)
  · exact hc.below ((Below.refl _ _).alloc (Nat.le_refl _) _)
end Go.Proofs.Ytnadhpajelkngaa
