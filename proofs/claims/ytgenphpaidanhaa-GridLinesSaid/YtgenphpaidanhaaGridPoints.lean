/- grid's points: the iterator over a text's places and their points: each place once, in order, with its column and its line. Condition: a text of no more than 2^40 bytes. -/
import Derived.RangeFuncFrom
import Derived.RangeFuncBound
import Derived.RangeFuncCalls
import Derived.RangeFuncLeaves
import Derived.Shelf.Abstract
import Derived.WalkKit
import Derived.OwnWalkIn
import Derived.TacticsInMore
import Derived.LoopNIn
import Derived.LoopIn
import Derived.Lib.OthersKept
import Derived.Test.YtgenphpaidanhaaGridBehind
import Derived.Test.YtgenphpaidanhaaGridMath
import Derived.Test.YtgenphpaidanhaaDecodeV
namespace Go.Proofs.Ytgenphpaidanhaa
open Go.RowKit Go.Deep Go.Shelf Ieee
attribute [local go_sem] Oper.semAt_some

/-- A place of the text, with the bits of its point. -/
abbrev Pt (vs : List Nat) := { x : Nat × Nat × Nat // x.1 ≤ vs.length ∧ PtV x.2.1 x.2.2 (col vs x.1 : Int) (lin vs x.1 : Int) }
def ptVals {vs : List Nat} (x : Pt vs) : Array Value := #[.int .i64 (x.1.1 : Int), .complex .f64 x.1.2.1 x.1.2.2]

theorem grownBy_iterAt (W : World) (k : Nat) (s : ByteArray) (p : Nat) : W.grownBy (W.iterAt k s p) (some k) :=
  ⟨rfl, rfl, rfl, by rw [Lib.iterAt_size]; exact Nat.le_refl _, fun i _ hi => Lib.iterAt_other W k i s p (fun e => hi (by rw [e]))⟩

set_option maxHeartbeats 4000000 in
set_option maxRecDepth 100000 in
theorem points1_in {l vs : List Nat} (hv : V l vs) (hl : l.length ≤ 1099511627776) (n : Nat) (hn : 1 ≤ n) (k Bn : Nat) (J Jx : List (Pt vs) → World → Prop)
    (hY : ∀ pre x W, J pre W → pre.length < vs.length + 1 → YieldAt Fence.wide (n - 1) Try.prog k (ptVals x) W fun e W' =>
      (e = .returned (.bool true) ∧ J (pre ++ [x]) W' ∧ KeepsWalks W W') ∨ (e = .returned (.bool false) ∧ Jx (pre ++ [x]) W'))
    (w : World) (hJ : AbidesFrom w.heap.size J) (hBn : w.cell? ⟨Bn, 0, none⟩ = some (.string (bstr l))) (h0 : J [] w) :
    CallsIn Fence.wide n Try.prog 32 #[.func (.yield k) #[] #[], .pointer (some ⟨Bn, 0, none⟩)] w fun e W' => (∃ v, e = .returned v) ∧
      ((∃ ys : List (Pt vs), ys.map (fun x => x.1.1) = List.range (vs.length + 1) ∧ J ys W') ∨ (∃ pre, True ∧ Jx pre W')) := by
  have hsz := bstr_size l
  have hvl := hv.length_le
  have HV := Lib.hid hv; clear hv
  have HJ := Lib.hid hJ; clear hJ
  have HY := Lib.hid hY; clear hY
  have HJ0 : Hid (J [] (w.iter (bstr l) 0)) := HJ.out _ _ _ none h0 (World.grownBy_alloc w _ none) (fun r e => by cases e)
  have HI0 := Lib.hid (World.iter_heap w (bstr l) 0)
  clear h0
  refine callsIn_of_wp Try.func32 rfl trivial ?_ rfl
  simp only [Try.ntmps32, List.size_toArray, List.length_cons, List.length_nil, Nat.reduceAdd, Nat.reduceSub, Array.replicate_succ, Array.replicate_zero, List.push_toArray, List.append_toArray, List.nil_append, List.cons_append]
  have HI00 : Hid ((w.iter (bstr l) 0).heap[w.heap.size]? = some (.stringIter (bstr l) (E (vs.take 0)).length)) := by
    show _ = _
    rw [List.take_zero, E_nil]
    exact HI0.out
  gi_wp2
  gi_loopw [3, 4] (fun p c wr => ∃ (j a b : Nat) (pre : List (Pt vs)), j ≤ vs.length ∧ p = .int .i64 (j : Int) ∧ c = .complex .f64 a b ∧ PtV a b (col vs j : Int) (lin vs j : Int) ∧
      pre.map (fun x => x.1.1) = List.range j ∧ Hid (J pre wr) ∧ Hid (wr.heap[w.heap.size]? = some (.stringIter (bstr l) (E (vs.take j)).length)))
    (fun p _ _ => vs.length - (intOf p).toNat)
  case atStart =>
    refine ⟨0, 0, 0, [], Nat.zero_le _, rfl, rfl, ?_, rfl, HJ0, HI00⟩
    rw [col_zero, lin_zero]
    exact ⟨FV.c0, FV.c0⟩
  case round =>
    obtain ⟨j, a, b, pre, hj, rfl, rfl, hp, hpre, HJ1, HI⟩ := hrel
    have hlen := congrArg List.length hpre
    rw [List.length_map, List.length_range] at hlen
    have HP := Lib.hid hp; clear hp
    have HPRE := Lib.hid hpre; clear hpre
    have hY1 := fun W (hw : J pre W) => HY.out pre ⟨(j, a, b), hj, HP.out⟩ W hw (by omega)
    have HPRE1 : Hid ((pre ++ [(⟨(j, a, b), hj, HP.out⟩ : Pt vs)]).map (fun x => x.1.1) = List.range (j + 1)) := by
      show _ = _
      rw [List.map_append, HPRE.out, List.range_succ]
      rfl
    by_cases hlt : j < vs.length
    · have HE := E_take_lt HV.out hlt
      have HS := E_take_succ hlt
      have hnx := fun ty => Lib.run_next_any_at (P := Try.prog) wr w.heap.size (bstr l) _ ty HI.out (by rw [hsz]; exact HE)
      rw [decode_val HV.out hlt] at hnx
      have HJ2 := HJ.out _ _ _ _ HJ1.out (grownBy_iterAt wr w.heap.size (bstr l) ((E (vs.take j)).length + (enc vs[j]).length)) (fun r e => by cases e; exact ⟨Nat.le_refl _, _, HI.out, rfl⟩)
      have hi2 := Lib.iterAt_heap wr w.heap.size (bstr l) _ ((E (vs.take j)).length + (enc vs[j]).length) HI.out
      generalize wr.iterAt w.heap.size (bstr l) ((E (vs.take j)).length + (enc vs[j]).length) = w1 at hnx HJ2 hi2
      rw [← HS] at hi2
      have HI2 := Lib.hid hi2
      clear hi2 HE HS
      obtain ⟨fn, tmps, assign, body, hy, hR⟩ := hY1 w1 HJ2
      dsimp only [ptVals] at hy
      clear hY1 HJ2
      have hjl : (j : Int) < 1099511627776 := by omega
      have HC := col_le vs j
      have HL := lin_le vs j
      have GB : Hid (∀ w, Calls Try.prog 33 #[.complex .f64 a b, .int .i32 (vs[j] : Int)] w fun e w' => (∃ c d, e = .returned (.complex .f64 c d) ∧ PtV c d (col vs (j + 1) : Int) (lin vs (j + 1) : Int)) ∧ w' = w) := by
        intro w
        by_cases h10 : vs[j] = 10
        · have hg : vs[j]? = some 10 := by rw [List.getElem?_eq_getElem hlt, h10]
          rw [h10, col_yes hg, lin_yes hg]
          exact behind_yes HP.out (by omega) (by omega) w
        · have hg : ¬ vs[j]? = some 10 := by rw [List.getElem?_eq_getElem hlt]; exact fun e => h10 (Option.some.inj e)
          rw [col_no hg, lin_no hg]
          exact behind_no HP.out (by omega) (by omega) (by omega) (by omega) h10 w
      clear HC HL
      generalize vs[j] = v at hnx GB
      gi_wp2
      refine hR.mono ?_
      clear hR hy
      rintro e w2 (⟨rfl, hJ3, hk3⟩ | ⟨rfl, hx⟩)
      · have HJ3 := Lib.hid hJ3
        have HI3 := Lib.hid (hk3.same _ _ HI2.out rfl)
        clear hJ3 hk3
        gi_wp2
        refine ⟨trivial, (callsIn_wide.2 (GB.out _)).mono ?_⟩
        rintro e w3 ⟨⟨c, d, rfl, hp2⟩, rfl⟩
        have HP2 := Lib.hid hp2
        clear hp2
        gi_wp2
        go_roundw
        case rel => exact ⟨j + 1, c, d, _, by omega, by go_num, rfl, HP2.out, HPRE1.out, HJ3, HI3⟩
        case measure => simp [intOf]; omega
      · have HX := Lib.hid hx
        clear hx
        gi_wp2
        refine bodyPost_ret (results_none rfl _ _ _) rfl ?_
        exact ⟨⟨_, rfl⟩, .inr ⟨_, trivial, HX.out⟩⟩
    · obtain rfl : j = vs.length := by omega
      have HEA := E_take_all HV.out
      have hnx := fun ty => Lib.run_next_end_at (P := Try.prog) wr w.heap.size (bstr l) _ ty HI.out (by rw [hsz, HEA]; omega)
      obtain ⟨fn, tmps, assign, body, hy, hR⟩ := hY1 wr HJ1.out
      dsimp only [ptVals] at hy
      clear hY1 HEA
      gi_wp2
      refine hR.mono ?_
      rintro e w2 (⟨rfl, hJ3, hk3⟩ | ⟨rfl, hx⟩)
      · gi_wp2
        go_end0
        exact ⟨⟨_, rfl⟩, .inl ⟨_, HPRE1.out, hJ3⟩⟩
      · gi_wp2
        go_end0
        exact ⟨⟨_, rfl⟩, .inr ⟨_, trivial, hx⟩⟩

/-- points: the text is boxed, the function value captures the box. -/
theorem points_any (n : Nat) (s : ByteArray) (w : World) : CallsIn Fence.wide n Try.prog 22 #[.string s] w fun e w' => e = .returned (.func (.func 32) #[] #[.pointer (some ⟨w.heap.size, 0, none⟩)]) ∧ w' = w.alloc (.cells #[.string s] 9) := by
  refine callsIn_of_wp Try.func22 rfl trivial ?_ rfl
  simp only [Try.ntmps22, List.size_toArray, List.length_cons, List.length_nil, Nat.reduceAdd, Nat.reduceSub, Array.replicate_succ, Array.replicate_zero, List.push_toArray, List.append_toArray, List.nil_append, List.cons_append]
  gi_wp2
  go_ret
  exact ⟨rfl, rfl⟩
theorem points_stops {l vs : List Nat} (hv : V l vs) (hl : l.length ≤ 1099511627776) (n : Nat) (hn : 1 ≤ n) (Bn : Nat) (w : World) (hB : Bn < w.heap.size) (hc : w.cell? ⟨Bn, 0, none⟩ = some (.string (bstr l))) :
    SeqStopsK Fence.wide n Try.prog 32 #[.pointer (some ⟨Bn, 0, none⟩)] (ptVals (vs := vs)) KeepsWalks (fun ys => ys.map (fun x => x.1.1) = List.range (vs.length + 1)) (fun _ => True) (vs.length + 1) w :=
  fun k J Jx W hW hJ _ hY h0 => points1_in hv hl n hn k Bn J Jx hY W hJ ((hW.cell (p := ⟨Bn, 0, none⟩) hB).trans hc) h0
end Go.Proofs.Ytgenphpaidanhaa
