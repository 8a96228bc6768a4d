/- Where one stands: its names, from the root on. Condition: a tree. (Merged of 3 texts.) -/
import Derived.RangeFuncFrom
import Derived.RangeFuncBound
import Derived.RangeFuncCalls
import Derived.RangeFuncLeaves
import Derived.Shelf.Abstract
import Derived.WalkKit
import Derived.OwnWalkIn
import Derived.TacticsInMore
import Derived.LoopNIn
import Derived.LoopIn
import Derived.Lib.OthersKept
import Derived.Test.YtkckgchohnkkpaaGreatDoorMApp
import Derived.Test.YtkckgchohnkkpaaGreatDoorMTBuildB
import Derived.Test.YtkckgchohnkkpaaGreatDoorMRange
import Derived.Test.YtkckgchohnkkpaaGreatDoorMTTreeWithin
import Derived.Test.YtkckgchohnkkpaaGreatDoorMTm
/- slices.Backward over nodes: each place once, the last one first. Condition: no more than 2^20 nodes. -/
namespace Go.Proofs.YtkckgchohnkkpaaGreatDoor
open Go.RowKit Go.Deep Go.Shelf
attribute [local go_sem] Oper.semAt_some

/-- A place of nodes, with what stands there. -/
abbrev Bk (m : List NodeV) := { k : Nat // k < m.length }
def bkVals (m : List NodeV) (x : Bk m) : Array Value := #[.int .i64 (x.1 : Int), .agg (nodeCells m[x.1]).toArray]
/-- Nodes in a row of nodes, not in block b. -/
def NodeRow (b : Nat) (w : World) (A : Option Addr) (m : List NodeV) : Prop := m = [] ∨ ∃ g off cs fr, A = some ⟨g, off, none⟩ ∧ g ≠ b ∧ w.heap[g]? = some (.cells cs 44 fr) ∧ NodesAt w A m
theorem NodeRow.at_ {b : Nat} {w : World} {A : Option Addr} {m : List NodeV} (h : NodeRow b w A m) : NodesAt w A m := by
  rcases h with rfl | ⟨g, off, cs, fr, _, _, _, h⟩
  · exact .inl rfl
  · exact h
theorem NodeRow.keep {b : Nat} {w w' : World} {A : Option Addr} {m : List NodeV} (h : NodeRow b w A m) (k : KeepT b w w') : NodeRow b w' A m := by
  rcases h with rfl | ⟨g, off, cs, fr, rfl, hne, hg, h⟩
  · exact .inl rfl
  · have h2 := k g cs _ fr hne (by decide) hg
    refine .inr ⟨g, off, cs, fr, rfl, hne, h2, ?_⟩
    rcases h with h | ⟨g', off', e, hlt, h⟩
    · exact .inl h
    · injection e with e
      injection e with e1 e2 _
      subst e1 e2
      refine .inr ⟨g, off, rfl, (Array.getElem?_eq_some_iff.1 h2).1, fun j v hv => ?_⟩
      have := h j v hv
      unfold World.cell? at this ⊢
      simp only [hg, h2] at this ⊢
      exact this
theorem NodeRow.of_own {B b c : Nat} {w : World} {A : Option Addr} {m : List NodeV} (h : OwnN w B A c m) {cs : Array Value} {fr : Nat × Nat} (hb : w.heap[b]? = some (.cells cs 83 fr)) : NodeRow b w A m := by
  have hN := h.nodes.1
  rcases h.2 with ⟨_, h0⟩ | ⟨g, cap, cur, e, _, hg, _⟩
  · exact .inl (List.eq_nil_of_length_eq_zero h0)
  · injection e with e
    subst e
    refine .inr ⟨g, 0, _, _, rfl, ?_, hg, hN⟩
    rintro rfl
    rw [hb] at hg
    injection hg with hg
    injection hg with _ hT
    revert hT
    decide

set_option maxHeartbeats 4000000 in
set_option maxRecDepth 100000 in
theorem back1_in {m : List NodeV} (hm : m.length ≤ 1048576) (b : Nat) (A : Option Addr) (c n : Nat) (hn : 1 ≤ n) (k Bn : Nat) (hne : Bn ≠ b) (J Jx : List (Bk m) → World → Prop)
    (hY : ∀ pre x W, J pre W → pre.length < m.length → YieldAt Fence.wide (n - 1) Tryz.prog k (bkVals m x) W fun e W' =>
      (e = .returned (.bool true) ∧ J (pre ++ [x]) W' ∧ KeepT b W W') ∨ (e = .returned (.bool false) ∧ Jx (pre ++ [x]) W'))
    (w : World) (hBn : w.heap[Bn]? = some (.cells #[.slice A m.length c] 22 (0, 0))) (hR : NodeRow b w A m) (h0 : J [] w) :
    CallsIn Fence.wide n Tryz.prog 82 #[.func (.yield k) #[] #[], .pointer (some ⟨Bn, 0, none⟩)] w fun e W' => (∃ v, e = .returned v) ∧
      ((∃ ys : List (Bk m), ys.map (fun x => x.1) = (List.range m.length).reverse ∧ J ys W') ∨ (∃ pre, True ∧ Jx pre W')) := by
  have HY := Lib.hid hY; clear hY
  have HJ0 := Lib.hid h0; clear h0
  have HB0 := Lib.hid hBn; clear hBn
  have HR0 := Lib.hid hR; clear hR
  have hc0 : w.cell? ⟨Bn, 0, none⟩ = some (.slice A m.length c) := by rw [Lib.cell_of_heap HB0.out]; rfl
  refine callsIn_of_wp Tryz.func82 rfl trivial ?_ rfl
  simp only [Tryz.ntmps82, List.size_toArray, List.length_cons, List.length_nil, Nat.reduceAdd, Nat.reduceSub, Array.replicate_succ, Array.replicate_zero, List.push_toArray, List.append_toArray, List.nil_append, List.cons_append]
  gi_wp2
  gi_loopw [3] (fun i wr => ∃ (r : Nat) (z : Int) (pre : List (Bk m)), r ≤ m.length ∧ i = .int .i64 z ∧ z + 1 = (r : Int) ∧ Hid (pre.map (fun x => x.1) = (List.range' r (m.length - r)).reverse) ∧ Hid (J pre wr) ∧
      Hid (wr.heap[Bn]? = some (.cells #[.slice A m.length c] 22 (0, 0))) ∧ Hid (NodeRow b wr A m))
    (fun i _ => (intOf i + 1).toNat)
  case atStart =>
    refine ⟨m.length, (m.length : Int) - 1, [], Nat.le_refl _, by go_num, by omega, ?_, HJ0, HB0, HR0⟩
    show _ = _
    rw [Nat.sub_self]
    rfl
  case round =>
    obtain ⟨r, z, pre, hr, rfl, hz, HP, HJ, HB, HR⟩ := hrel
    clear HB0 HR0 HJ0 hc0
    have c9 : wr.cell? ⟨Bn, 0, none⟩ = some (.slice A m.length c) := by rw [Lib.cell_of_heap HB.out]; rfl
    rcases r with _ | q
    · obtain rfl : z = -1 := by omega
      have HP2 : Hid (pre.map (fun x => x.1) = (List.range m.length).reverse) := by
        show _ = _
        rw [HP.out, Nat.sub_zero, List.range_eq_range']
      gi_wp2
      go_end0
      exact ⟨⟨_, rfl⟩, .inl ⟨_, HP2.out, HJ.out⟩⟩
    · obtain rfl : z = (q : Int) := by omega
      have hq : q < m.length := hr
      have hlenp : pre.length < m.length := by
        have := congrArg List.length HP.out
        rw [List.length_map, List.length_reverse, List.length_range'] at this
        omega
      have HP2 : Hid ((pre ++ [(⟨q, hq⟩ : Bk m)]).map (fun x => x.1) = (List.range' q (m.length - q)).reverse) := by
        show _ = _
        rw [List.map_append, HP.out, show m.length - q = (m.length - (q + 1)) + 1 from by omega, List.range'_succ, List.reverse_cons]
        rfl
      have NA := HR.out.at_
      obtain ⟨g, off, rfl, _⟩ := NA.form (by omega)
      obtain ⟨c0, c1, c2, c3, c4⟩ := NA.at_ hq
      clear NA
      obtain ⟨fn, tmps, assign, body, hy, hRR⟩ := HY.out pre ⟨q, hq⟩ wr HJ.out hlenp
      dsimp only [bkVals] at hy
      generalize m[q] = y at c0 c1 c2 c3 c4 hy
      unfold nodeCells at hy
      have hqI : (q : Int) < (m.length : Int) := by omega
      gi_wp2
      refine hRR.mono ?_
      clear hRR hy
      rintro e w2 (⟨rfl, hJ3, hk3⟩ | ⟨rfl, hx⟩)
      · have HJ3 := Lib.hid hJ3
        have HB3 := Lib.hid (hk3 _ _ _ _ hne (by decide) HB.out)
        have HR3 := Lib.hid (HR.out.keep hk3)
        clear hJ3 hk3
        gi_wp2
        go_roundw
        case rel => exact ⟨q, (q : Int) - 1, _, by omega, by go_num, by omega, HP2, HJ3, HB3, HR3⟩
        case measure => simp [intOf]
      · have HX := Lib.hid hx
        clear hx
        gi_wp2
        refine bodyPost_ret (results_none rfl _ _ _) rfl ?_
        exact ⟨⟨_, rfl⟩, .inr ⟨_, trivial, HX.out⟩⟩

/-- Backward: the row is boxed, the function value captures the box. -/
theorem back_any (n : Nat) (A : Option Addr) (l c : Nat) (w : World) : CallsIn Fence.wide n Tryz.prog 53 #[.slice A l c] w fun e w' => e = .returned (.func (.func 82) #[] #[.pointer (some ⟨w.heap.size, 0, none⟩)]) ∧ w' = w.alloc (.cells #[.slice A l c] 22) := by
  refine callsIn_of_wp Tryz.func53 rfl trivial ?_ rfl
  simp only [Tryz.ntmps53, List.size_toArray, List.length_cons, List.length_nil, Nat.reduceAdd, Nat.reduceSub, Array.replicate_succ, Array.replicate_zero, List.push_toArray, List.append_toArray, List.nil_append, List.cons_append]
  gi_wp2
  go_ret
  exact ⟨rfl, rfl⟩
theorem back_stops {m : List NodeV} (hm : m.length ≤ 1048576) (b : Nat) (A : Option Addr) (c n : Nat) (hn : 1 ≤ n) (Bn : Nat) (hne : Bn ≠ b) (w : World) (hBn : w.heap[Bn]? = some (.cells #[.slice A m.length c] 22 (0, 0))) (hR : NodeRow b w A m) :
    SeqStopsK Fence.wide n Tryz.prog 82 #[.pointer (some ⟨Bn, 0, none⟩)] (bkVals m) (KeepT b) (fun ys => ys.map (fun x => x.1) = (List.range m.length).reverse) (fun _ => True) m.length w :=
  fun k J Jx W hW _ _ hY h0 => back1_in hm b A c n hn k Bn hne J Jx hY W (by rw [hW.block Bn (Array.getElem?_eq_some_iff.1 hBn).1]; exact hBn) (hR.keep (KeepT.of_below hW)) h0
end Go.Proofs.YtkckgchohnkkpaaGreatDoor

/- strings.Builder's String, told of all that holds no cells. No condition. -/
namespace Go.Proofs.YtkckgchohnkkpaaGreatDoor
open Go.RowKit Go.Deep

theorem others_freeze {g n : Nat} {cs : Array Value} {T : TypeId} {fr : Nat × Nat} {w : World} (h : w.heap[g]? = some (.cells cs T fr)) : KeepsOthers w (w.freeze ⟨g, 0, none⟩ n) := by
  have hb := Lib.below_freeze (B := 0) (Below.refl 0 w) (p := ⟨g, 0, none⟩) (Nat.zero_le _) n
  refine ⟨hb.size, fun k o hk ho => ?_⟩
  have hne : k ≠ g := by
    rintro rfl
    rw [h] at hk
    injection hk with hk
    subst hk
    cases ho
  rcases Nat.lt_or_ge k g with hlt | hge
  · have := Lib.below_freeze (B := g) (Below.refl g w) (p := ⟨g, 0, none⟩) (Nat.le_refl _) n
    rw [this.block k hlt]
    exact hk
  · unfold World.freeze
    split
    · exact hk
    · show (w.heap.modify g _)[k]? = some o
      rw [Array.getElem?_modify, if_neg (fun e => hne e.symm)]
      exact hk
theorem others_below {w w' : World} (h : Below w.heap.size w w') : KeepsOthers w w' := ⟨h.size, fun k o hk _ => by rw [h.block k (Array.getElem?_eq_some_iff.1 hk).1]; exact hk⟩
theorem byte_cells : Tryz.prog.cellsOf 5 = 1 := by kernel_rfl
set_option maxHeartbeats 1000000 in
set_option maxRecDepth 100000 in
theorem bldStrK_any (b : Nat) (l : List Nat) (w : World) (h : BldAt b b l w) (hbw : b ≤ w.heap.size) :
    Calls Tryz.prog 57 #[.pointer (some ⟨b, 0, none⟩)] w fun e w' => e = .returned (.string (bstr l)) ∧ Below b w w' ∧ KeepsOthers w w' := by
  have hstr : (⟨(l.map fun x : Nat => UInt8.ofNat x).toArray⟩ : ByteArray) = bstr l := bstr_of_data (by simp)
  unfold BldAt at h
  generalize l.map (fun x : Nat => UInt8.ofNat x) = u at h hstr
  obtain ⟨p, hB, v, hbk, hown, hne⟩ : ∃ p, Lib.BuilderAt 83 5 b b p (Lib.byteCells u) w := by
    rcases h with h | h
    · exact ⟨_, h⟩
    · exact ⟨_, h⟩
  rw [← hstr]
  clear h hstr
  rw [Lib.byteCells_length] at hown
  by_cases h0 : u = []
  · subst h0
    rcases hown.2 with ⟨rfl, _⟩ | ⟨g, cap, cur, rfl, hbg, hg, _, _, _, _⟩
    · refine (Any.Builder_String_nil Tryz.lays169 Tryz.Builder_Extra_169 w.heap.size b p w hbk).mono ?_
      rintro e w' ⟨rfl, hb⟩
      exact ⟨rfl, hb.mono hbw, others_below hb⟩
    · by_cases hc0 : cap = 0
      · subst hc0
        refine (Any.Builder_String_noroom Tryz.lays169 Tryz.Builder_Extra_169 w.heap.size b g p cur w (Nat.le_refl _) hbk hg).mono ?_
        rintro e w' ⟨rfl, hb⟩
        exact ⟨rfl, hb.mono hbw, others_below hb⟩
      · refine (Any.Builder_String_room Tryz.lays169 Tryz.Builder_Extra_169 w.heap.size b g cap p w hc0 hbk).mono ?_
        rintro e w' ⟨rfl, hb⟩
        exact ⟨rfl, hb.mono hbw, others_below hb⟩
  · have hl0 : u.length ≠ 0 := by simpa using h0
    obtain ⟨g, cap, cur, rfl, hbg, hg, hnc, hcm, hcs, htake⟩ : ∃ g cap cur, v = .slice (some ⟨g, 0, none⟩) u.length cap ∧ b ≤ g ∧ w.heap[g]? = some (.cells cur 5 (0, 0)) ∧ u.length ≤ cap ∧ cap ≤ maxLen ∧ cur.size = cap * 1 ∧ cur.toList.take (u.length * 1) = Lib.byteCells u := by
      rcases hown.2 with ⟨_, hz⟩ | ⟨g, cap, cur, hv, r⟩
      · exact absurd hz hl0
      · exact ⟨g, cap, cur, hv, r⟩
    have c1 : w.drew.cell? ⟨b, 1, none⟩ = some (.slice (some ⟨g, 0, none⟩) u.length cap) := by
      have : w.drew.heap[b]? = some (.cells #[p, .slice (some ⟨g, 0, none⟩) u.length cap] 83 (0, 0)) := hbk
      rw [Lib.cell_of_heap this]; rfl
    have hSD : (Builtin.unsafeSliceData_ #[66] 119 #[.slice (some ⟨g, 0, none⟩) u.length cap]).run Tryz.prog w.drew = .ok (.pointer (some ⟨g, 0, none⟩)) w.drew :=
      Lib.run_unsafeSliceData_row _ _ _ _ _ _ (by omega)
    have hUS : (Builtin.unsafeString_ #[119, 3] 9 #[.pointer (some ⟨g, 0, none⟩), .int .i64 u.length]).run Tryz.prog w.drew = .ok (.string ⟨u.toArray⟩) (w.drew.freeze ⟨g, 0, none⟩ u.length) := by
      refine Lib.run_unsafeString_row w.drew 119 3 9 5 Tryz.underlying119 byte_cells g cur.size (by have hg' : w.drew.heap[g]? = some (.cells cur 5 (0, 0)) := hg; simp [World.shape?, hg']) u h0 (by omega) (by unfold maxLen at hcm; omega) ?_
      intro j x hx
      have := hown.cells (g := g) rfl j (.int .u8 x.toNat) (by simp [Lib.byteCells, hx])
      exact this
    have mixed := Tryz.lays169.mixed
    go_enter Tryz.func57, Tryz.ntmps57
    go_wp2
    go_region_o
    all_goals (go_wp2; go_ret; exact ⟨rfl, Lib.below_freeze (Below.drew (Below.refl b w)) (p := ⟨g, 0, none⟩) hbg _, (KeepsOthers.drew w).trans (others_freeze (w := w.drew) hg)⟩)
end Go.Proofs.YtkckgchohnkkpaaGreatDoor

/- Where one stands: its names, from the root on. Condition: a tree. -/
namespace Go.Proofs.YtkckgchohnkkpaaGreatDoor
open Go.RowKit Go.Deep Go.Shelf
attribute [local go_sem] Oper.semAt_some

/-- The names so far, joined. -/
def nmsOf (r : List NodeV) (pre : List (Bk r)) : List Nat := (pre.map fun x => r[x.1].name).foldl jn []
theorem nmsOf_step (r : List NodeV) (pre : List (Bk r)) (x : Bk r) : nmsOf r (pre ++ [x]) = jn (nmsOf r pre) r[x.1].name := by
  unfold nmsOf
  rw [List.map_append, List.foldl_append]
  rfl
theorem nmsOf_len {r : List NodeV} (h : ∀ y ∈ r, y.name.length ≤ 20) : ∀ (pre : List (Bk r)), (nmsOf r pre).length ≤ 21 * pre.length := by
  intro pre
  unfold nmsOf
  suffices H : ∀ (ns : List (List Nat)) (acc : List Nat), (∀ n ∈ ns, n.length ≤ 20) → (ns.foldl jn acc).length ≤ acc.length + 21 * ns.length by
    have hh : ∀ n ∈ (pre.map fun x : Bk r => r[x.1].name), n.length ≤ 20 := by
      intro n hn
      obtain ⟨x, _, e⟩ := List.mem_map.1 hn
      have h2 := h r[x.1] (List.getElem_mem x.2)
      rw [e] at h2
      exact h2
    have := H (pre.map fun x => r[x.1].name) [] hh
    rw [List.length_map, List.length_nil] at this
    omega
  intro ns
  induction ns with
  | nil => intro acc _; simp
  | cons n ns ih =>
    intro acc hh
    have h1 := ih (jn acc n) fun m hm => hh m (by simp [hm])
    have h2 := hh n (by simp)
    have h3 : (jn acc n).length ≤ acc.length + 21 := by
      unfold jn
      by_cases e : acc = []
      · rw [if_pos e]; omega
      · rw [if_neg e]; simp; omega
    rw [List.foldl_cons, List.length_cons]
    omega
theorem nmsOf_all {r : List NodeV} {ys : List (Bk r)} (h : ys.map (fun x => x.1) = (List.range r.length).reverse) : nmsOf r ys = (r.reverse.map fun y => y.name).foldl jn [] := by
  unfold nmsOf
  congr 1
  have e1 : (ys.map fun x => r[x.1].name) = (ys.map fun x => x.1).map fun k => ((r[k]?).getD default).name := by
    rw [List.map_map]
    refine List.map_congr_left fun x _ => ?_
    show r[x.1].name = ((r[x.1]?).getD default).name
    rw [List.getElem?_eq_getElem x.2]
    rfl
  rw [e1, h, List.map_reverse, List.map_reverse]
  congr 1
  refine List.ext_getElem (by simp) fun i h1 h2 => ?_
  simp at h2
  simp [List.getElem?_eq_getElem h2]
/-- A path is the way up, from the root on. -/
theorem line_path {l : List NodeV} (hm : TreeM l) : ∀ (n : Nat) (id : Int) (acc r : List NodeV), lineF l n id acc = some r → ∃ s, r = acc ++ s ∧ (∀ y ∈ s, y ∈ l) ∧ rPath l id = some ((s.reverse.map fun y => y.name).foldl jn [])
  | n, id, acc, r, h => by
    by_cases e : id = 0
    · subst e
      rw [lineF_root] at h
      injection h with h
      exact ⟨[], by rw [h, List.append_nil], by simp, path_root l⟩
    · cases n with
      | zero => rw [lineF_stop e] at h; cases h
      | succ n =>
        cases hf : rFind l id with
        | none => rw [lineF_none e hf] at h; cases h
        | some k =>
          obtain ⟨hk, hid, _⟩ := rFind_some hf
          rw [lineF_up e hk hf] at h
          obtain ⟨s, h1, h2, h3⟩ := line_path hm n _ _ _ h
          refine ⟨l[k] :: s, by rw [h1]; simp, fun y hy => ?_, ?_⟩
          · rcases List.mem_cons.1 hy with rfl | hy
            · exact List.getElem_mem hk
            · exact h2 y hy
          · rw [← hid, hm.path_up (List.getElem_mem hk), h3, List.reverse_cons, List.map_append, List.foldl_append]
            rfl
theorem path_no {l : List NodeV} (hm : TreeM l) {id : Int} (h : lineF l l.length id [] = none) : rPath l id = none := by
  by_cases e : id = 0
  · subst e
    rw [lineF_root] at h
    cases h
  · cases hf : rFind l id with
    | none => exact path_none e hf
    | some k =>
      obtain ⟨hk, hid, _⟩ := rFind_some hf
      obtain ⟨r, hr⟩ := hm.line (List.getElem_mem hk)
      rw [hid, h] at hr
      cases hr

/-- What a round finds. -/
structure PathR (b : Nat) (w0 : World) (t : Nat × Nat × NodeV → Act) (r : List NodeV) (s : List (Bk r) × Bk r × Act) (W : World) : Prop where
  bld : BldAt b b (nmsOf r s.1) W
  bel : Below w0.heap.size w0 W
  box : ∃ B, s.2.2 = t (B, s.2.1.1, r[s.2.1.1]'s.2.1.2) ∧ B ≠ b ∧ W.heap[B]? = some (.cells (nodeCells (r[s.2.1.1]'s.2.1.2)).toArray 44 (0, 0))
theorem cells_kept {W W' : World} {row : Option Nat} {k : Nat} {cs : Array Value} {T : TypeId} {fr : Nat × Nat} (hk : W.heap[k]? = some (.cells cs T fr)) (hg : W.grownBy W' row) (hr : ∀ q, row = some q → ∃ o : Obj, W.heap[q]? = some o ∧ o.isCells = false) : W'.heap[k]? = some (.cells cs T fr) := by
  rw [hg.block k (Array.getElem?_eq_some_iff.1 hk).1 (fun e => ?_)]
  · exact hk
  · obtain ⟨o, h1, h2⟩ := hr k e.symm
    rw [hk] at h1
    injection h1 with h1
    subst h1
    cases h2
theorem PathR.own {b B : Nat} {w0 : World} {t : Nat × Nat × NodeV → Act} {r : List NodeV} (hB : w0.heap.size ≤ B) : OwnFrom B (PathR b w0 t r) := by
  intro s W W' row hs hg hr
  obtain ⟨h1, h2, Bx, h3, h4, h5⟩ := hs
  exact ⟨h1.kept hg (fun q e => (hr q e).2), ownFrom_below (β := Unit) (Nat.le_refl _) hB () W W' row h2 hg hr, Bx, h3, h4, cells_kept h5 hg (fun q e => (hr q e).2)⟩
set_option maxHeartbeats 4000000 in
set_option maxRecDepth 100000 in
theorem path_any (g : Nat) (l : List NodeV) (id : Int) (hm : TreeM l) (w : World) (h : TreeAt w g l) :
    Calls Tryz.prog 20 #[.pointer (some ⟨g, 0, none⟩), .int .i64 id] w fun e W' => e = .returned (.tuple #[.string (bstr ((rPath l id).getD [])), .bool (rPath l id).isSome]) ∧ Below w.heap.size w W' := by
  have GL := Lib.hid (line_any g l id hm.srt (by have := hm.len; omega) w h)
  cases hL : lineF l l.length id [] with
  | none =>
    rw [path_no hm hL]
    rw [hL] at GL
    clear h hm
    go_enter Tryz.func20, Tryz.ntmps20
    go_wp2_with fail
    refine GL.out.mono ?_
    rintro e w1 ⟨A, c, rfl, _, hb⟩
    go_wp2
    go_ret2
    exact ⟨rfl, hb⟩
  | some r =>
    obtain ⟨s, hs, hsl, hp⟩ := line_path hm _ _ _ _ hL
    obtain rfl : r = s := hs
    rw [hp]
    rw [hL] at GL
    have hrl : r.length ≤ 1048576 := by
      obtain ⟨s2, _, h3⟩ := line_len hL
      have := hm.len
      simp at h3
      omega
    have HNM : Hid (∀ y ∈ r, y.name.length ≤ 20 ∧ ∀ c ∈ y.name, c < 256) := fun y hy => by
      have := isName_iff.1 (hm.nd y (hsl y hy)).2.2.1
      exact ⟨this.2.1, fun c hc => by have := okByte_iff.1 (this.2.2.2.2 c hc); omega⟩
    obtain ⟨T, HT⟩ : ∃ T, Hid ((r.reverse.map fun y => y.name).foldl jn [] = T) := ⟨_, Lib.hid rfl⟩
    rw [HT.out]
    clear h hm hL hsl hp
    refine (callsIn_wide (n := 3)).1 ?_
    refine callsIn_of_wp_marks Tryz.func20 rfl trivial ?_ rfl
    simp only [Tryz.ntmps20, List.size_toArray, List.length_cons, List.length_nil, Nat.reduceAdd, Nat.reduceSub, Array.replicate_succ, Array.replicate_zero, List.push_toArray, List.append_toArray, List.nil_append, List.cons_append]
    gi_wp2_with (refine ⟨trivial, (callsIn_wide.2 GL.out).mono ?_⟩; rintro e w1 ⟨A, c, rfl, hown, hbw⟩)
    simp only [Option.getD_some] at hown ⊢
    have HB1 := Lib.hid hbw
    have HO1 := Lib.hid (hown.alloc (.cells #[.pointer none, .slice none 0 0] 83))
    clear hown hbw
    have hBld := Lib.hid (BldAt.start w1)
    gi_wp2_with fail
    refine ⟨trivial, (back_any _ _ _ _ _).mono ?_⟩
    rintro e w2 ⟨rfl, rfl⟩
    generalize hb0 : w1.heap.size = b at hBld
    have HWB : Hid (Below w.heap.size w (w1.alloc (.cells #[.pointer none, .slice none 0 0] 83))) := HB1.out.trans ((Below.refl _ _).alloc HB1.out.size _)
    have hSz : (w1.alloc (.cells #[.pointer none, .slice none 0 0] 83)).heap.size = b + 1 := by rw [World.size_alloc, hb0]
    have hBb : (w1.alloc (.cells #[.pointer none, .slice none 0 0] 83)).heap[b]? = some (.cells #[.pointer none, .slice none 0 0] 83 (0, 0)) := by rw [← hb0]; exact World.alloc_heap_new w1 _
    have hRow := NodeRow.of_own HO1.out hBb
    have hbw : w.heap.size ≤ b := by rw [← hb0]; exact HB1.out.size
    clear hBb HO1 HB1
    generalize w1.alloc (.cells #[.pointer none, .slice none 0 0] 83) = W0 at hBld HWB hSz hRow ⊢
    have hBn := World.alloc_heap_new W0 (.cells #[.slice A r.length c] 22)
    rw [hSz] at hBn ⊢
    have hRow2 := hRow.keep (KeepT.alloc b W0 (.cells #[.slice A r.length c] 22))
    have hI0 : BldAt b b [] (W0.alloc (.cells #[.slice A r.length c] 22)) := hBld.out.kept (World.grownBy_alloc _ _ none) (fun q e => by cases e)
    have hB2 : Below w.heap.size w (W0.alloc (.cells #[.slice A r.length c] 22)) := HWB.out.trans ((Below.refl _ _).alloc HWB.out.size _)
    have hSz2 : (W0.alloc (.cells #[.slice A r.length c] 22)).heap.size = b + 2 := by rw [World.size_alloc, hSz]
    clear hBld HWB hRow
    generalize W0.alloc (.cells #[.slice A r.length c] 22) = W1 at hBn hRow2 hI0 hB2 hSz2 ⊢
    have hseq := back_stops hrl b A c 2 (by omega) (b + 1) (by omega) W1 hBn hRow2
    clear hRow2 hBn hSz
    obtain ⟨t, ht⟩ : ∃ t : Nat × Nat × NodeV → Act, t = fun q => { tmps := #[.pointer (some ⟨g, 0, none⟩), .int .i64 id, undef, undef, .string { data := #[] }, .bool false, .slice A r.length c, .bool true, .pointer (some ⟨b, 0, none⟩), undef, .pointer (some ⟨q.1, 0, none⟩),
      .tuple #[.slice A r.length c, .bool true], .pointer (some ⟨g, 0, none⟩), .int .i64 id, .tuple #[.slice A r.length c, .bool true], .slice A r.length c, .bool true, .bool true, .bool false, .slice A r.length c,
      .func (.func 82) #[] #[.pointer (some ⟨b + 1, 0, none⟩)], .int .i64 (q.2.1 : Int), .agg (nodeCells q.2.2).toArray, undef, undef, undef, undef, undef, undef, undef], defers := [] } := ⟨_, rfl⟩
    gi_wp2
    refine wpIn_rangeFunc_box rfl (by omega) (gf := 82) (lb := #[.pointer (some ⟨b + 1, 0, none⟩)]) rfl trivial (enters_of Tryz.func82 (by kernel_rfl) rfl)
      hseq (fun h k => h.trans k) (fun W l o o' _ h hc _ => KeepT.put o' h hc) (Below.refl _ _) (fun _ => rfl)
      (fun pre W => BldAt b b (nmsOf r pre) W ∧ Below w.heap.size w W) (fun _ _ _ => False) (PathR b w t r)
      (OwnFrom.and (Own.from (fun s X Y row hs hg hr => hs.kept hg hr) _) (ownFrom_below (Nat.le_refl _) (by omega))) (PathR.own (by omega)) (fun _ _ _ _ _ hs => hs.elim)
      ⟨hI0, hB2⟩ ?assign ?body ?done ?stop
    case assign =>
      rintro k pre ⟨q, hq⟩ W K ⟨hB, hW⟩ hsz hK
      dsimp only [bkVals] at hK ⊢
      have hnew := World.alloc_heap_new W (.cells (nodeCells r[q]).toArray 44)
      have hK2 := hK (t (W.heap.size, q, r[q])) (W.alloc (.cells (nodeCells r[q]).toArray 44)) ⟨hB.kept (World.grownBy_alloc _ _ none) (fun q e => by cases e), hW.trans ((Below.refl _ _).alloc hW.size _), W.heap.size, rfl, by omega, hnew⟩ (KeepsOthers.alloc _ _) (KeepT.alloc b _ _)
      clear hK hnew
      rw [ht] at hK2
      dsimp only at hK2
      generalize r[q] = y at hK2 ⊢
      unfold nodeCells at hK2 ⊢
      gi_wp2
      exact hK2
    case body =>
      rintro k pre ⟨q, hq⟩ a1 W ⟨hB0, hW0, Bx, he0, hne, hbx0⟩ hlen
      have he : a1 = t (Bx, q, r[q]'hq) := he0
      have hbx : W.heap[Bx]? = some (.cells (nodeCells (r[q]'hq)).toArray 44 (0, 0)) := hbx0
      have hB : BldAt b b (nmsOf r pre) W := hB0
      have hW : Below w.heap.size w W := hW0
      clear he0 hbx0 hB0 hW0
      subst he
      have hn := HNM.out r[q] (List.getElem_mem hq)
      have hstep := nmsOf_step r pre ⟨q, hq⟩
      dsimp only at hstep
      have hlenP : (nmsOf r pre).length ≤ 21 * pre.length := nmsOf_len (fun y hy => (HNM.out y hy).1) pre
      obtain ⟨S, HS⟩ : ∃ S, Hid (nmsOf r pre = S) := ⟨_, Lib.hid rfl⟩
      rw [HS.out] at hB hstep hlenP
      have HSTEP := Lib.hid hstep
      clear hstep HS
      have hSl : S.length ≤ 30000000 := by omega
      have hbW : b ≤ W.heap.size := by
        rcases hB with h | h
        · exact Nat.le_of_lt h.lt
        · exact Nat.le_of_lt h.lt
      generalize r[q] = y at hbx hn HSTEP ⊢
      rw [ht]
      dsimp only
      have GL2 := Lib.hid (bldLen_any b b S W hB)
      have c2 : ∀ {X : World}, X.heap[Bx]? = some (.cells (nodeCells y).toArray 44 (0, 0)) → X.cell? ⟨Bx, 2, none⟩ = some (.string (bstr y.name)) := fun h => by rw [Lib.cell_of_heap h]; rfl
      by_cases hS : S = []
      · have hS0 : S.length = 0 := by rw [hS]; rfl
        rw [hS0] at GL2
        have GW := Lib.hid (writeStringK_any b b S y.name W hB (by omega) hbW)
        have d2 := c2 hbx
        have HW := Lib.hid hW
        clear hB hW hbx c2
        gi_wp2_with fail
        refine ⟨trivial, (callsIn_wide.2 GL2.out).mono ?_⟩
        rintro e w2 ⟨rfl, rfl⟩
        gi_wp2_with fail
        refine ⟨trivial, (callsIn_wide.2 GW.out).mono ?_⟩
        rintro e w3 ⟨rfl, hB3, hb3, hk3, ho3⟩
        have HF : Hid (KeepsOthers w2 w3 ∧ KeepT b w2 w3 ∧ BldAt b b (nmsOf r (pre ++ [⟨q, hq⟩])) w3 ∧ Below w.heap.size w w3) := ⟨ho3, hk3, by
          rw [HSTEP.out, hS]
          rw [hS, List.nil_append] at hB3
          exact hB3, HW.out.trans (hb3.mono hbw)⟩
        clear ho3 hk3 hB3 hb3
        gi_wp2
        exact HF.out
      · have hS0 : 0 < (S.length : Int) := by
          have := List.length_pos_iff.2 hS
          omega
        have GW := Lib.hid (writeByte_any b b S 47 (by omega) W hB (by omega) hbW)
        have HW := Lib.hid hW
        have HBX := Lib.hid hbx
        clear hB hW hbx
        gi_wp2_with fail
        refine ⟨trivial, (callsIn_wide.2 GL2.out).mono ?_⟩
        rintro e w2 ⟨rfl, rfl⟩
        gi_wp2_with fail
        refine ⟨trivial, (callsIn_wide.2 GW.out).mono ?_⟩
        rintro e w3 ⟨rfl, hB3, hb3, hk3, ho3⟩
        have GS := Lib.hid (writeStringK_any b b (S ++ [47]) y.name w3 hB3 (by simp; omega) (by have := hb3.size; omega))
        have d2 := c2 (hk3 Bx _ _ _ hne (by decide) HBX.out)
        have HF3 : Hid (KeepsOthers w2 w3 ∧ KeepT b w2 w3 ∧ Below w.heap.size w w3) := ⟨ho3, hk3, HW.out.trans (hb3.mono hbw)⟩
        clear ho3 hk3 hB3 hb3 c2
        gi_wp2_with fail
        refine ⟨trivial, (callsIn_wide.2 GS.out).mono ?_⟩
        rintro e w4 ⟨rfl, hB4, hb4, hk4, ho4⟩
        have HF : Hid (KeepsOthers w2 w4 ∧ KeepT b w2 w4 ∧ BldAt b b (nmsOf r (pre ++ [⟨q, hq⟩])) w4 ∧ Below w.heap.size w w4) := ⟨HF3.out.1.trans ho4, HF3.out.2.1.trans hk4, by
          rw [HSTEP.out]
          unfold jn
          rw [if_neg hS]
          rw [List.append_assoc] at hB4
          exact hB4, HF3.out.2.2.trans (hb4.mono hbw)⟩
        clear ho4 hk4 hB4 hb4
        gi_wp2
        exact HF.out
    case done =>
      rintro D ys W hD hys ⟨hB, hW⟩ hK
      rw [(nmsOf_all hys).trans HT.out] at hB
      have hbW : b ≤ W.heap.size := by
        rcases hB with h | h
        · exact Nat.le_of_lt h.lt
        · exact Nat.le_of_lt h.lt
      gi_wp2_with fail
      refine ⟨trivial, (callsIn_wide.2 (bldStrK_any b T W hB hbW)).mono ?_⟩
      rintro e w3 ⟨rfl, hb3, ho3⟩
      have hK3 := ho3.same D _ hK rfl
      gi_wp2
      refine ⟨by simp, .inl ⟨_, _, rfl, run_takeDeferred hK3, ?_⟩⟩
      exact ⟨.tuple #[.string (bstr T), .bool true], by simp [results, Tryz.f20, go_sem], rfl, (hW.trans (hb3.mono hbw)).trans (belowK_b (w := w) (Nat.le_refl _) _ D _ _ (by omega) hK3 rfl rfl)⟩
    case stop =>
      rintro D c' pre W _ _ hh _
      exact hh.elim
end Go.Proofs.YtkckgchohnkkpaaGreatDoor
