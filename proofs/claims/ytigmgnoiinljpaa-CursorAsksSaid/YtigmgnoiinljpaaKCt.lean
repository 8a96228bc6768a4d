/- The landed Through: refused, or where both places go. Conditions: what memory may hold; each part of what is asked is a number, below 2^53 sixteenths or far from nought. -/
import Derived.Test.YtigmgnoiinljpaaKCb
import Derived.Test.YtigmgnoiinljpaaKRef
/- The landed Through: refused, or where both places go. Conditions: what memory may hold; each part of what is asked is a number, below 2^53 sixteenths or far from nought. -/
namespace Go.Proofs.Ytigmgnoiinljpaa
open Go.RowKit Go.Deep Ieee
attribute [-go_sem] binOp_float_cmp_eql binOp_float_cmp_neq binOp_float_cmp_lss binOp_float_cmp_leq binOp_float_cmp_gtr binOp_float_cmp_geq run_eql_complex run_neq_complex

theorem through_bad {a b : Nat} (after : Bool) (A : Option Addr) (c : Nat) (l : List CompV) {q : Nat} (hq : rCheck l = q) (h0 : q ≠ 0) (hh : Held1 l) (w : World) (hc : CompsC w A c l) :
    Calls Try.prog 15 #[.complex .f64 a b, .slice A l.length c, .bool after] w fun e w' => e = .returned (.tuple #[.complex .f64 0 0, .int .i64 (q : Int)]) ∧ Below w.heap.size w w' := by
  have GC := Lib.hid (fun w h => kCheck hq hh A c w h)
  have HC := Lib.hid hc
  clear hc hq hh
  go_enter Try.func15, Try.ntmps15
  go_wp2_with fail
  refine (GC.out _ HC.out).mono ?_
  rintro e w1 ⟨rfl, hb⟩
  have HB := Lib.hid hb
  clear hb
  go_wp2
  go_ret2
  exact ⟨rfl, HB.out⟩
theorem through_nosel {a b : Nat} (hs : NoSel a b) (after : Bool) (A : Option Addr) (c : Nat) (l : List CompV) (hq : rCheck l = 0) (hh : Held1 l) (w : World) (hc : CompsC w A c l) :
    Calls Try.prog 15 #[.complex .f64 a b, .slice A l.length c, .bool after] w fun e w' => e = .returned (.tuple #[.complex .f64 0 0, .int .i64 1]) ∧ Below w.heap.size w w' := by
  have GC := Lib.hid (fun w h => kCheck hq hh A c w h)
  have GS := Lib.hid (fun w => selection_no hs w)
  have HC := Lib.hid hc
  clear hc hq hh hs
  go_enter Try.func15, Try.ntmps15
  go_wp2_with fail
  refine (GC.out _ HC.out).mono ?_
  rintro e w1 ⟨rfl, hb⟩
  have HB := Lib.hid hb
  clear hb
  go_wp2_with fail
  refine (GS.out _).mono ?_
  rintro e w2 ⟨rfl, rfl⟩
  go_wp2
  go_ret2
  exact ⟨rfl, HB.out⟩
theorem through_far {a b : Nat} {x y n : Int} (hs : Sel a b x y) (after : Bool) (A : Option Addr) (c : Nat) (l : List CompV) (hq : rCheck l = 0) (hn : rBase l = n) (hf : ¬ max x y ≤ n) (hh : Held1 l) (w : World) (hc : CompsC w A c l) :
    Calls Try.prog 15 #[.complex .f64 a b, .slice A l.length c, .bool after] w fun e w' => e = .returned (.tuple #[.complex .f64 0 0, .int .i64 11]) ∧ Below w.heap.size w w' := by
  have GC := Lib.hid (fun w h => kCheck hq hh A c w h)
  have GS := Lib.hid (fun w => selection_yes hs w)
  have GN := Lib.hid (fun w h => kBase hn hh A c w h)
  have GW := Lib.hid (fun w => within_yes hs n w)
  rw [decide_eq_false hf] at GW
  have HC := Lib.hid hc
  clear hc hq hh hs hn hf
  go_enter Try.func15, Try.ntmps15
  go_wp2_with fail
  refine (GC.out _ HC.out).mono ?_
  rintro e w1 ⟨rfl, hb⟩
  have HB := Lib.hid hb
  clear hb
  go_wp2_with fail
  refine (GS.out _).mono ?_
  rintro e w2 ⟨rfl, rfl⟩
  go_wp2_with fail
  refine (GN.out _ (HC.out.below HB.out)).mono ?_
  rintro e w2 ⟨rfl, hb⟩
  have HB2 := Lib.hid (HB.out.trans (hb.mono HB.out.size))
  clear hb
  go_wp2_with fail
  refine (GW.out _).mono ?_
  rintro e w3 ⟨rfl, rfl⟩
  go_wp2
  go_ret2
  exact ⟨rfl, HB2.out⟩
theorem thr_sel {l : List CompV} (hq : rCheck l = 0) (after : Bool) (x : Int) : 0 ≤ rThrough x after l ∧ rThrough x after l ≤ 2000 := by
  have hok := ok_of hq
  have := thr_le after l x hok.wh
  have h2 := hok.out1
  rw [rThrough_thr]
  omega
theorem through_yes {a b : Nat} {x y n : Int} (hs : Sel a b x y) (after : Bool) (A : Option Addr) (c : Nat) (l : List CompV) (hq : rCheck l = 0) (hn : rBase l = n) (hf : max x y ≤ n) (hh : Held1 l) (w : World) (hc : CompsC w A c l) :
    Calls Try.prog 15 #[.complex .f64 a b, .slice A l.length c, .bool after] w fun e w' => (∃ p q, e = .returned (.tuple #[.complex .f64 p q, .int .i64 0]) ∧ Sel p q (rThrough x after l) (rThrough y after l)) ∧ Below w.heap.size w w' := by
  have GC := Lib.hid (fun w h => kCheck hq hh A c w h)
  have GS := Lib.hid (fun w => selection_yes hs w)
  have GN := Lib.hid (fun w h => kBase hn hh A c w h)
  have GW := Lib.hid (fun w => within_yes hs n w)
  rw [decide_eq_true hf] at GW
  have h20 := (check_zero hq).2.2.1
  rw [hn] at h20
  have hx0 := hs.x0
  have hy0 := hs.y0
  have GB := Lib.hid (fun w h => behind_any hx0 (by omega) hy0 (by omega) hs.re hs.im after A c l hq hh w h)
  have hx := thr_sel hq after x
  have hy := thr_sel hq after y
  have HSEL := Lib.hid (fun p q (h1 : FV p (16 * rThrough x after l)) (h2 : FV q (16 * rThrough y after l)) => (⟨h1, h2, by omega, by omega, by omega, by omega⟩ : Sel p q (rThrough x after l) (rThrough y after l)))
  have HC := Lib.hid hc
  clear hc hq hh hs hn hf hx hy h20 hx0 hy0
  go_enter Try.func15, Try.ntmps15
  go_wp2_with fail
  refine (GC.out _ HC.out).mono ?_
  rintro e w1 ⟨rfl, hb⟩
  have HB := Lib.hid hb
  clear hb
  go_wp2_with fail
  refine (GS.out _).mono ?_
  rintro e w2 ⟨rfl, rfl⟩
  go_wp2_with fail
  refine (GN.out _ (HC.out.below HB.out)).mono ?_
  rintro e w2 ⟨rfl, hb⟩
  have HB2 := Lib.hid (HB.out.trans (hb.mono HB.out.size))
  clear hb
  go_wp2_with fail
  refine (GW.out _).mono ?_
  rintro e w3 ⟨rfl, rfl⟩
  go_wp2_with fail
  refine (GB.out _ (HC.out.below HB2.out)).mono ?_
  rintro e w3 ⟨⟨p, q, rfl, h1, h2⟩, hb⟩
  have HB3 := Lib.hid (HB2.out.trans (hb.mono HB2.out.size))
  have HS := Lib.hid (HSEL.out p q h1 h2)
  clear hb h1 h2
  go_wp2
  go_ret2
  exact ⟨⟨_, _, rfl, HS.out⟩, HB3.out⟩
end Go.Proofs.Ytigmgnoiinljpaa
