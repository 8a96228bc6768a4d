/- slices.Backward over nodes: each place once, the last one first. Condition: no more than 2^20 nodes. -/
import Derived.RangeFuncFrom
import Derived.RangeFuncBound
import Derived.RangeFuncCalls
import Derived.RangeFuncLeaves
import Derived.Shelf.Abstract
import Derived.WalkKit
import Derived.OwnWalkIn
import Derived.TacticsInMore
import Derived.LoopNIn
import Derived.LoopIn
import Derived.Lib.OthersKept
import Derived.Test.YtkckgchohnkkpaaGreatMApp
import Derived.Test.YtkckgchohnkkpaaGreatMTBuildB
/- slices.Backward over nodes: each place once, the last one first. Condition: no more than 2^20 nodes. -/
namespace Go.Proofs.YtkckgchohnkkpaaGreat
open Go.RowKit Go.Deep Go.Shelf
attribute [local go_sem] Oper.semAt_some

/-- A place of nodes, with what stands there. -/
abbrev Bk (m : List NodeV) := { k : Nat // k < m.length }
def bkVals (m : List NodeV) (x : Bk m) : Array Value := #[.int .i64 (x.1 : Int), .agg (nodeCells m[x.1]).toArray]
/-- Nodes in a row of nodes, not in block b. -/
def NodeRow (b : Nat) (w : World) (A : Option Addr) (m : List NodeV) : Prop := m = [] ∨ ∃ g off cs fr, A = some ⟨g, off, none⟩ ∧ g ≠ b ∧ w.heap[g]? = some (.cells cs 32 fr) ∧ NodesAt w A m
theorem NodeRow.at_ {b : Nat} {w : World} {A : Option Addr} {m : List NodeV} (h : NodeRow b w A m) : NodesAt w A m := by
  rcases h with rfl | ⟨g, off, cs, fr, _, _, _, h⟩
  · exact .inl rfl
  · exact h
theorem NodeRow.keep {b : Nat} {w w' : World} {A : Option Addr} {m : List NodeV} (h : NodeRow b w A m) (k : KeepT b w w') : NodeRow b w' A m := by
  rcases h with rfl | ⟨g, off, cs, fr, rfl, hne, hg, h⟩
  · exact .inl rfl
  · have h2 := k g cs _ fr hne (by decide) hg
    refine .inr ⟨g, off, cs, fr, rfl, hne, h2, ?_⟩
    rcases h with h | ⟨g', off', e, hlt, h⟩
    · exact .inl h
    · injection e with e
      injection e with e1 e2 _
      subst e1 e2
      refine .inr ⟨g, off, rfl, (Array.getElem?_eq_some_iff.1 h2).1, fun j v hv => ?_⟩
      have := h j v hv
      unfold World.cell? at this ⊢
      simp only [hg, h2] at this ⊢
      exact this
theorem NodeRow.of_own {B b c : Nat} {w : World} {A : Option Addr} {m : List NodeV} (h : OwnN w B A c m) {cs : Array Value} {fr : Nat × Nat} (hb : w.heap[b]? = some (.cells cs 59 fr)) : NodeRow b w A m := by
  have hN := h.nodes.1
  rcases h.2 with ⟨_, h0⟩ | ⟨g, cap, cur, e, _, hg, _⟩
  · exact .inl (List.eq_nil_of_length_eq_zero h0)
  · injection e with e
    subst e
    refine .inr ⟨g, 0, _, _, rfl, ?_, hg, hN⟩
    rintro rfl
    rw [hb] at hg
    injection hg with hg
    injection hg with _ hT
    revert hT
    decide

set_option maxHeartbeats 4000000 in
set_option maxRecDepth 100000 in
theorem back1_in {m : List NodeV} (hm : m.length ≤ 1048576) (b : Nat) (A : Option Addr) (c n : Nat) (hn : 1 ≤ n) (k Bn : Nat) (hne : Bn ≠ b) (J Jx : List (Bk m) → World → Prop)
    (hY : ∀ pre x W, J pre W → pre.length < m.length → YieldAt Fence.wide (n - 1) Tryz.prog k (bkVals m x) W fun e W' =>
      (e = .returned (.bool true) ∧ J (pre ++ [x]) W' ∧ KeepT b W W') ∨ (e = .returned (.bool false) ∧ Jx (pre ++ [x]) W'))
    (w : World) (hBn : w.heap[Bn]? = some (.cells #[.slice A m.length c] 22 (0, 0))) (hR : NodeRow b w A m) (h0 : J [] w) :
    CallsIn Fence.wide n Tryz.prog 49 #[.func (.yield k) #[] #[], .pointer (some ⟨Bn, 0, none⟩)] w fun e W' => (∃ v, e = .returned v) ∧
      ((∃ ys : List (Bk m), ys.map (fun x => x.1) = (List.range m.length).reverse ∧ J ys W') ∨ (∃ pre, True ∧ Jx pre W')) := by
  have HY := Lib.hid hY; clear hY
  have HJ0 := Lib.hid h0; clear h0
  have HB0 := Lib.hid hBn; clear hBn
  have HR0 := Lib.hid hR; clear hR
  have hc0 : w.cell? ⟨Bn, 0, none⟩ = some (.slice A m.length c) := by rw [Lib.cell_of_heap HB0.out]; rfl
  refine callsIn_of_wp Tryz.func49 rfl trivial ?_ rfl
  simp only [Tryz.ntmps49, List.size_toArray, List.length_cons, List.length_nil, Nat.reduceAdd, Nat.reduceSub, Array.replicate_succ, Array.replicate_zero, List.push_toArray, List.append_toArray, List.nil_append, List.cons_append]
  gi_wp2
  gi_loopw [3] (fun i wr => ∃ (r : Nat) (z : Int) (pre : List (Bk m)), r ≤ m.length ∧ i = .int .i64 z ∧ z + 1 = (r : Int) ∧ Hid (pre.map (fun x => x.1) = (List.range' r (m.length - r)).reverse) ∧ Hid (J pre wr) ∧
      Hid (wr.heap[Bn]? = some (.cells #[.slice A m.length c] 22 (0, 0))) ∧ Hid (NodeRow b wr A m))
    (fun i _ => (intOf i + 1).toNat)
  case atStart =>
    refine ⟨m.length, (m.length : Int) - 1, [], Nat.le_refl _, by go_num, by omega, ?_, HJ0, HB0, HR0⟩
    show _ = _
    rw [Nat.sub_self]
    rfl
  case round =>
    obtain ⟨r, z, pre, hr, rfl, hz, HP, HJ, HB, HR⟩ := hrel
    clear HB0 HR0 HJ0 hc0
    have c9 : wr.cell? ⟨Bn, 0, none⟩ = some (.slice A m.length c) := by rw [Lib.cell_of_heap HB.out]; rfl
    rcases r with _ | q
    · obtain rfl : z = -1 := by omega
      have HP2 : Hid (pre.map (fun x => x.1) = (List.range m.length).reverse) := by
        show _ = _
        rw [HP.out, Nat.sub_zero, List.range_eq_range']
      gi_wp2
      go_end0
      exact ⟨⟨_, rfl⟩, .inl ⟨_, HP2.out, HJ.out⟩⟩
    · obtain rfl : z = (q : Int) := by omega
      have hq : q < m.length := hr
      have hlenp : pre.length < m.length := by
        have := congrArg List.length HP.out
        rw [List.length_map, List.length_reverse, List.length_range'] at this
        omega
      have HP2 : Hid ((pre ++ [(⟨q, hq⟩ : Bk m)]).map (fun x => x.1) = (List.range' q (m.length - q)).reverse) := by
        show _ = _
        rw [List.map_append, HP.out, show m.length - q = (m.length - (q + 1)) + 1 from by omega, List.range'_succ, List.reverse_cons]
        rfl
      have NA := HR.out.at_
      obtain ⟨g, off, rfl, _⟩ := NA.form (by omega)
      obtain ⟨c0, c1, c2, c3, c4⟩ := NA.at_ hq
      clear NA
      obtain ⟨fn, tmps, assign, body, hy, hRR⟩ := HY.out pre ⟨q, hq⟩ wr HJ.out hlenp
      dsimp only [bkVals] at hy
      generalize m[q] = y at c0 c1 c2 c3 c4 hy
      unfold nodeCells at hy
      have hqI : (q : Int) < (m.length : Int) := by omega
      gi_wp2
      refine hRR.mono ?_
      clear hRR hy
      rintro e w2 (⟨rfl, hJ3, hk3⟩ | ⟨rfl, hx⟩)
      · have HJ3 := Lib.hid hJ3
        have HB3 := Lib.hid (hk3 _ _ _ _ hne (by decide) HB.out)
        have HR3 := Lib.hid (HR.out.keep hk3)
        clear hJ3 hk3
        gi_wp2
        go_roundw
        case rel => exact ⟨q, (q : Int) - 1, _, by omega, by go_num, by omega, HP2, HJ3, HB3, HR3⟩
        case measure => simp [intOf]
      · have HX := Lib.hid hx
        clear hx
        gi_wp2
        refine bodyPost_ret (results_none rfl _ _ _) rfl ?_
        exact ⟨⟨_, rfl⟩, .inr ⟨_, trivial, HX.out⟩⟩

/-- Backward: the row is boxed, the function value captures the box. -/
theorem back_any (n : Nat) (A : Option Addr) (l c : Nat) (w : World) : CallsIn Fence.wide n Tryz.prog 27 #[.slice A l c] w fun e w' => e = .returned (.func (.func 49) #[] #[.pointer (some ⟨w.heap.size, 0, none⟩)]) ∧ w' = w.alloc (.cells #[.slice A l c] 22) := by
  refine callsIn_of_wp Tryz.func27 rfl trivial ?_ rfl
  simp only [Tryz.ntmps27, List.size_toArray, List.length_cons, List.length_nil, Nat.reduceAdd, Nat.reduceSub, Array.replicate_succ, Array.replicate_zero, List.push_toArray, List.append_toArray, List.nil_append, List.cons_append]
  gi_wp2
  go_ret
  exact ⟨rfl, rfl⟩
theorem back_stops {m : List NodeV} (hm : m.length ≤ 1048576) (b : Nat) (A : Option Addr) (c n : Nat) (hn : 1 ≤ n) (Bn : Nat) (hne : Bn ≠ b) (w : World) (hBn : w.heap[Bn]? = some (.cells #[.slice A m.length c] 22 (0, 0))) (hR : NodeRow b w A m) :
    SeqStopsK Fence.wide n Tryz.prog 49 #[.pointer (some ⟨Bn, 0, none⟩)] (bkVals m) (KeepT b) (fun ys => ys.map (fun x => x.1) = (List.range m.length).reverse) (fun _ => True) m.length w :=
  fun k J Jx W hW _ _ hY h0 => back1_in hm b A c n hn k Bn hne J Jx hY W (by rw [hW.block Bn (Array.getElem?_eq_some_iff.1 hBn).1]; exact hBn) (hR.keep (KeepT.of_below hW)) h0
end Go.Proofs.YtkckgchohnkkpaaGreat
