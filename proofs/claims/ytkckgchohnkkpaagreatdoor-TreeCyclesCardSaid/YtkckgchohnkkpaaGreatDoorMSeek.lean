/- A path leads to who has it. Condition: a tree. (Merged of 4 texts.) -/
import Derived.Test.YtkckgchohnkkpaaGreatDoorMPath
import Derived.Test.YtkckgchohnkkpaaGreatDoorMRk
import Derived.RangeFuncFrom
import Derived.RangeFuncBound
import Derived.RangeFuncCalls
import Derived.RangeFuncLeaves
import Derived.Shelf.Abstract
import Derived.WalkKit
import Derived.OwnWalkIn
import Derived.TacticsInMore
import Derived.LoopNIn
import Derived.LoopIn
import Derived.Lib.OthersKept
import Derived.Test.YtkckgchohnkkpaaGreatDoorMRange
import Derived.Test.YtkckgchohnkkpaaGreatDoorShelf
import Derived.Test.YtkckgchohnkkpaaGreatDoorMOwn
import Derived.Test.YtkckgchohnkkpaaGreatDoorMBase
import Derived.RegionIn
import Derived.BigRegionIn
import Derived.Test.YtkckgchohnkkpaaGreatDoorMFi
import Derived.Test.YtkckgchohnkkpaaGreatDoorMCells
/- Paths told over a tree; a tree and a list of its nodes beside it. Condition: a tree. -/
namespace Go.Proofs.YtkckgchohnkkpaaGreatDoor
open Go.RowKit Go.Deep

theorem path_told {l : List NodeV} (hm : TreeM l) {id : Int} {s : List Nat} (hs : rPath l id = some s) (g : Nat) (w : World) (h : TreeAt w g l) :
    Calls Tryz.prog 20 #[.pointer (some ⟨g, 0, none⟩), .int .i64 id] w fun e W' => e = .returned (.tuple #[.string (bstr s), .bool true]) ∧ Below w.heap.size w W' := by
  have := path_any g l id hm w h
  rw [hs] at this
  exact this
/-- The tree in block g shows l, which lies at A, too. -/
def OrdS (W : World) (g : Nat) (l : List NodeV) (A : Option Addr) (wr : World) : Prop := TreeAt wr g l ∧ NodesAt wr A l ∧ Below W.heap.size W wr
theorem OrdS.below {W : World} {g : Nat} {l : List NodeV} {A : Option Addr} {wr w2 : World} (h : OrdS W g l A wr) (hb : Below wr.heap.size wr w2) : OrdS W g l A w2 := ⟨h.1.below hb, h.2.1.below hb, h.2.2.trans (hb.mono h.2.2.size)⟩
theorem OrdS.drewN {W : World} {g : Nat} {l : List NodeV} {A : Option Addr} {wr : World} (h : OrdS W g l A wr) (n : Nat) : OrdS W g l A (wr.drewN n) := ⟨h.1, h.2.1, below_drewN h.2.2 n⟩
theorem path_len {l : List NodeV} (hm : TreeM l) {id : Int} {s : List Nat} (h : rPath l id = some s) : s.length ≤ 10000 := by
  cases hL : lineF l l.length id [] with
  | none => rw [path_no hm hL] at h; cases h
  | some r =>
    obtain ⟨s2, hs, hsl, hp⟩ := line_path hm _ _ _ _ hL
    obtain rfl : r = s2 := hs
    obtain ⟨_, _, h3⟩ := line_len hL
    have hl := hm.len
    rw [hp] at h
    injection h with h
    rw [← h]
    have hh : (nmsOf r ((List.finRange r.length).map fun k => (⟨k.1, k.2⟩ : Bk r)).reverse).length ≤ 21 * ((List.finRange r.length).map fun k => (⟨k.1, k.2⟩ : Bk r)).reverse.length := nmsOf_len (fun y hy => (isName_iff.1 (hm.nd y (hsl y hy)).2.2.1).2.1) _
    rw [nmsOf_all (by
      rw [List.map_reverse, List.map_map]
      congr 1
      refine List.ext_getElem (by simp) fun i h1 h2 => ?_
      simp)] at hh
    simp at h3
    rw [List.length_reverse, List.length_map, List.length_finRange] at hh
    omega
end Go.Proofs.YtkckgchohnkkpaaGreatDoor

/- strings.SplitSeq of a text at '/': its pieces, one by one. Condition: a text of no more than 2^20 bytes. -/
namespace Go.Proofs.YtkckgchohnkkpaaGreatDoor
open Go.RowKit Go.Deep Go.Shelf
attribute [local go_sem] Oper.semAt_some

/-- The pieces of a text, cut at '/'. -/
def pcs : List Nat → List (List Nat)
  | [] => [[]]
  | c :: s => if c = 47 then [] :: pcs s else match pcs s with
    | [] => [[c]]
    | p :: ps => (c :: p) :: ps
theorem pcs_nil : pcs [] = [[]] := rfl
theorem pcs_cut (s : List Nat) : pcs (47 :: s) = [] :: pcs s := by rw [pcs, if_pos rfl]
theorem pcs_some (s : List Nat) : ∃ p ps, pcs s = p :: ps := by
  cases s with
  | nil => exact ⟨_, _, rfl⟩
  | cons c s =>
    unfold pcs
    by_cases h : c = 47
    · rw [if_pos h]; exact ⟨_, _, rfl⟩
    · rw [if_neg h]
      split
      · exact ⟨_, _, rfl⟩
      · exact ⟨_, _, rfl⟩
theorem pcs_go {c : Nat} (h : c ≠ 47) {s p : List Nat} {ps : List (List Nat)} (e : pcs s = p :: ps) : pcs (c :: s) = (c :: p) :: ps := by rw [pcs, if_neg h, e]
theorem pcs_one : ∀ {s : List Nat}, (∀ x ∈ s, x ≠ 47) → pcs s = [s]
  | [], _ => rfl
  | c :: s, h => pcs_go (h c (by simp)) (pcs_one fun x hx => h x (by simp [hx]))
theorem pcs_app : ∀ (s t : List Nat), pcs (s ++ 47 :: t) = pcs s ++ pcs t
  | [], t => by rw [List.nil_append, pcs_cut, pcs_nil]; rfl
  | c :: s, t => by
    have ih := pcs_app s t
    by_cases h : c = 47
    · subst h
      rw [List.cons_append, pcs_cut, pcs_cut, ih]
      rfl
    · obtain ⟨p, ps, e⟩ := pcs_some s
      rw [e, List.cons_append] at ih
      rw [List.cons_append, pcs_go h ih, pcs_go h e]
      rfl
/-- Where the first '/' is. -/
theorem ix_split : ∀ (s : List Nat), (∀ x ∈ s, x < 256) → (Lib.indexByte (s.map UInt8.ofNat) 47 = -1 ∧ pcs s = [s]) ∨ ∃ i, i < s.length ∧ Lib.indexByte (s.map UInt8.ofNat) 47 = (i : Int) ∧ pcs s = s.take i :: pcs (s.drop (i + 1))
  | [], _ => .inl ⟨rfl, rfl⟩
  | c :: s, hb => by
    have hc := hb c (by simp)
    by_cases h : c = 47
    · subst h
      exact .inr ⟨0, by simp, by rw [List.map_cons]; rfl, pcs_cut s⟩
    · have hne : (UInt8.ofNat c == 47) = false := by
        rw [beq_eq_false_iff_ne]
        intro e
        have := congrArg UInt8.toNat e
        rw [UInt8.toNat_ofNat'] at this
        have e2 : (47 : UInt8).toNat = 47 := rfl
        rw [e2] at this
        omega
      rcases ix_split s (fun x hx => hb x (by simp [hx])) with ⟨h1, h2⟩ | ⟨i, hi, h1, h2⟩
      · refine .inl ⟨?_, pcs_go h h2⟩
        rw [List.map_cons, Lib.indexByte, hne, h1]
        rfl
      · refine .inr ⟨i + 1, by simp; omega, ?_, ?_⟩
        · rw [List.map_cons, Lib.indexByte, hne, h1]
          have : ((i : Int) == -1) = false := by rw [beq_eq_false_iff_ne]; omega
          simp [this]
        · rw [pcs_go h h2]
          rfl
attribute [irreducible] pcs
/-- A piece: bytes. -/
abbrev Bt := { x : List Nat // ∀ c ∈ x, c < 256 }
/-- The three boxes of the function value. -/
def KeepB3 (b : Nat) (W W' : World) : Prop := ∀ k, b ≤ k → k < b + 3 → W'.heap[k]? = W.heap[k]?
theorem KeepB3.trans {b : Nat} {x y z : World} (h : KeepB3 b x y) (k : KeepB3 b y z) : KeepB3 b x z := fun i h1 h2 => (k i h1 h2).trans (h i h1 h2)
/-- Its own step: what is left is written. -/
def LeftSet (b : Nat) (X Y : World) : Prop := ∃ v, Y = X.setCell ⟨b, 0, none⟩ v
structure Boxes (b : Nat) (rest : List Nat) (W : World) : Prop where
  c0 : W.heap[b]? = some (.cells #[.string (bstr rest)] 9 (0, 0))
  c1 : W.heap[b + 1]? = some (.cells #[.string { data := #[47] }] 9 (0, 0))
  c2 : W.heap[b + 2]? = some (.cells #[.int .i64 0] 3 (0, 0))
theorem Boxes.keep {b : Nat} {rest : List Nat} {W W' : World} (h : Boxes b rest W) (k : KeepB3 b W W') : Boxes b rest W' :=
  ⟨(k _ (by omega) (by omega)).trans h.c0, (k _ (by omega) (by omega)).trans h.c1, (k _ (by omega) (by omega)).trans h.c2⟩
theorem Boxes.set {b : Nat} {rest : List Nat} {W : World} (h : Boxes b rest W) (r2 : List Nat) : Boxes b r2 (W.setCell ⟨b, 0, none⟩ (.string (bstr r2))) :=
  ⟨by simp [World.setCell, Array.getElem?_modify, h.c0], by rw [Below.heap_setCell _ _ _ _ (by simp)]; exact h.c1, by rw [Below.heap_setCell _ _ _ _ (by simp)]; exact h.c2⟩
/-- How much is left. -/
def leftN (b : Nat) (W : World) : Nat := match W.cell? ⟨b, 0, none⟩ with
  | some (.string s) => s.size
  | _ => 0
theorem Boxes.left {b : Nat} {rest : List Nat} {W : World} (h : Boxes b rest W) : leftN b W = rest.length := by
  unfold leftN
  rw [Lib.cell_of_heap h.c0]
  show (bstr rest).size = _
  rw [bstr_size]
set_option maxHeartbeats 4000000 in
set_option maxRecDepth 100000 in
theorem split1_in {s : List Nat} (hb : ∀ x ∈ s, x < 256) (hs : s.length ≤ 1048576) (b n : Nat) (hn : 1 ≤ n) (k : Nat) (J Jx : List Bt → World → Prop)
    (hY : ∀ pre x W, J pre W → pre.length < (pcs s).length → YieldAt Fence.wide (n - 1) Tryz.prog k #[.string (bstr x.1)] W fun e W' =>
      (e = .returned (.bool true) ∧ J (pre ++ [x]) W' ∧ KeepB3 b W W') ∨ (e = .returned (.bool false) ∧ Jx (pre ++ [x]) W'))
    (w : World) (hJS : ∀ pre W1 W2, J pre W1 → LeftSet b W1 W2 → J pre W2) (hBn : Boxes b s w) (h0 : J [] w) :
    CallsIn Fence.wide n Tryz.prog 102 #[.func (.yield k) #[] #[], .pointer (some ⟨b + 1, 0, none⟩), .pointer (some ⟨b, 0, none⟩), .pointer (some ⟨b + 2, 0, none⟩)] w fun e W' => (∃ v, e = .returned v) ∧
      ((∃ ys : List Bt, ys.map (fun x => x.1) = pcs s ∧ J ys W') ∨ (∃ pre : List Bt, pre.map (fun x => x.1) <+: pcs s ∧ Jx pre W')) := by
  have HY := Lib.hid hY; clear hY
  have HJ0 := Lib.hid h0; clear h0
  have HB0 := Lib.hid hBn; clear hBn
  have HJS := Lib.hid hJS; clear hJS
  have hc1 : w.cell? ⟨b + 1, 0, none⟩ = some (.string { data := #[47] }) := by rw [Lib.cell_of_heap HB0.out.c1]; rfl
  refine callsIn_of_wp Tryz.func102 rfl trivial ?_ rfl
  simp only [Tryz.ntmps102, List.size_toArray, List.length_cons, List.length_nil, Nat.reduceAdd, Nat.reduceSub, Array.replicate_succ, Array.replicate_zero, List.push_toArray, List.append_toArray, List.nil_append, List.cons_append]
  gi_wp2
  gi_loopw [7, 8] (fun i x wr => ∃ (rest : List Nat) (pre : List Bt), i = i ∧ x = x ∧ Hid (pre.map (fun x => x.1) ++ pcs rest = pcs s) ∧ Hid (J pre wr) ∧ Hid (Boxes b rest wr) ∧ Hid ((∀ x ∈ rest, x < 256) ∧ rest.length ≤ 1048576))
    (fun _ _ wr => leftN b wr)
  case atStart => exact ⟨s, [], rfl, rfl, rfl, HJ0, HB0, Lib.hid ⟨hb, hs⟩⟩
  case round =>
    obtain ⟨rest, pre, _, _, HP, HJ, HB, HR⟩ := hrel
    clear HB0 HJ0 hc1
    have d0 : wr.cell? ⟨b, 0, none⟩ = some (.string (bstr rest)) := by rw [Lib.cell_of_heap HB.out.c0]; rfl
    have d1 : wr.cell? ⟨b + 1, 0, none⟩ = some (.string { data := #[47] }) := by rw [Lib.cell_of_heap HB.out.c1]; rfl
    have d2 : wr.cell? ⟨b + 2, 0, none⟩ = some (.int .i64 0) := by rw [Lib.cell_of_heap HB.out.c2]; rfl
    have GI := Lib.hid (Tryz.strings_Index_one (bstr rest) 47)
    have hrl := HR.out.2
    have hlenp : pre.length < (pcs s).length := by
      have := congrArg List.length HP.out
      obtain ⟨p, ps, e⟩ := pcs_some rest
      rw [e] at this
      simp at this
      omega
    rcases ix_split rest HR.out.1 with ⟨h1, h2⟩ | ⟨i, hi, h1, h2⟩
    · have HFIN : Hid ((pre ++ [(⟨rest, HR.out.1⟩ : Bt)]).map (fun x => x.1) = pcs s) := by show _ = _; rw [← HP.out, h2, List.map_append]; rfl
      have hidx : Lib.indexByte (bstr rest).data.toList 47 = -1 := by rw [bstr_data]; exact h1
      rw [hidx] at GI
      clear hidx h1 h2 hrl
      obtain ⟨fn, tmps, assign, body, hy, hRR⟩ := HY.out pre ⟨rest, HR.out.1⟩ wr HJ.out hlenp
      gi_wp2_with fail
      refine ⟨trivial, (callsIn_wide.2 (GI.out _)).mono ?_⟩
      rintro e w1 ⟨rfl, rfl⟩
      gi_wp2
      refine hRR.mono ?_
      clear hRR hy
      rintro e w2 (⟨rfl, hJ3, hk3⟩ | ⟨rfl, hx⟩)
      · have HJ3 := Lib.hid hJ3
        clear hJ3 hk3
        gi_wp2
        go_end0
        exact ⟨⟨_, rfl⟩, .inl ⟨_, HFIN.out, HJ3.out⟩⟩
      · have HX := Lib.hid hx
        clear hx
        gi_wp2
        go_end0
        exact ⟨⟨_, rfl⟩, .inr ⟨_, by rw [HFIN.out]; exact List.prefix_refl _, HX.out⟩⟩
    · have hidx : Lib.indexByte (bstr rest).data.toList 47 = (i : Int) := by rw [bstr_data]; exact h1
      rw [hidx] at GI
      obtain ⟨F, hF⟩ : ∃ F : Bt, F.1 = rest.take i := ⟨⟨rest.take i, fun x hx => HR.out.1 x (List.mem_of_mem_take hx)⟩, rfl⟩
      have HP2 : Hid ((pre ++ [F]).map (fun x => x.1) ++ pcs (rest.drop (i + 1)) = pcs s) := by show _ = _; rw [← HP.out, h2, List.map_append, List.append_assoc, List.map_cons, hF]; rfl
      have HR2 : Hid ((∀ x ∈ rest.drop (i + 1), x < 256) ∧ (rest.drop (i + 1)).length ≤ 1048576) := ⟨fun x hx => HR.out.1 x (List.mem_of_mem_drop hx), by rw [List.length_drop]; have := HR.out.2; omega⟩
      have HLT : Hid ((rest.drop (i + 1)).length < rest.length) := by show _ < _; rw [List.length_drop]; omega
      have ht := fun w => slice_bstr_to rest i (by omega) w
      rw [← hF] at ht
      clear hF
      have hf := fun w => slice_bstr_from rest (i + 1) (by omega) w
      have hil : (i : Int) ≤ 1048576 := by omega
      have hcast : ((i + 1 : Nat) : Int) = (i : Int) + 1 := by omega
      rw [hcast] at hf
      have HSET := Lib.hid (fun (X : World) (h : Boxes b rest X) => h.set (rest.drop (i + 1)))
      generalize rest.drop (i + 1) = r2 at HP2 HR2 hf HSET HLT
      obtain ⟨fn, tmps, assign, body, hy, hRR⟩ := HY.out pre F wr HJ.out hlenp
      clear hidx h1 h2 hi hcast
      gi_wp2_with fail
      refine ⟨trivial, (callsIn_wide.2 (GI.out _)).mono ?_⟩
      rintro e w1 ⟨rfl, rfl⟩
      gi_wp2
      refine hRR.mono ?_
      clear hRR hy
      rintro e w2 (⟨rfl, hJ3, hk3⟩ | ⟨rfl, hx⟩)
      · have HB3 := Lib.hid (HB.out.keep hk3)
        have HJ4 := Lib.hid (HJS.out _ _ _ hJ3 ⟨.string (bstr r2), rfl⟩)
        have HB4 := Lib.hid (HSET.out _ HB3.out)
        have HL4 : Hid (leftN b (w2.setCell ⟨b, 0, none⟩ (.string (bstr r2))) < leftN b w1) := by
          show _ < _
          rw [HB4.out.left, HB.out.left]
          exact HLT.out
        have e0 : w2.cell? ⟨b, 0, none⟩ = some (.string (bstr rest)) := by rw [Lib.cell_of_heap HB3.out.c0]; rfl
        have e1 : w2.cell? ⟨b + 1, 0, none⟩ = some (.string { data := #[47] }) := by rw [Lib.cell_of_heap HB3.out.c1]; rfl
        have f0 : w2.frozen? ⟨b, 0, none⟩ = false := Lib.frozen_of_heap HB3.out.c0 0
        clear hJ3 hk3
        gi_wp2
        go_roundw
        case rel => exact ⟨r2, _, trivial, trivial, HP2, HJ4, HB4, HR2⟩
        case measure => exact HL4.out
      · have HX := Lib.hid hx
        have HPX : Hid ((pre ++ [F]).map (fun x => x.1) <+: pcs s) := by show _ <+: _; rw [← HP2.out]; exact List.prefix_append _ _
        clear hx
        gi_wp2
        refine bodyPost_ret (results_none rfl _ _ _) rfl ?_
        exact ⟨⟨_, rfl⟩, .inr ⟨_, HPX.out, HX.out⟩⟩
/-- SplitSeq: the text, the cut and a number are boxed, the function value captures the boxes. -/
theorem split_any (n : Nat) (hn : 1 ≤ n) (s : ByteArray) (w : World) : CallsIn Fence.wide n Tryz.prog 58 #[.string s, .string { data := #[47] }] w fun e w' => e = .returned (.func (.func 102) #[] #[.pointer (some ⟨w.heap.size + 1, 0, none⟩), .pointer (some ⟨w.heap.size, 0, none⟩), .pointer (some ⟨w.heap.size + 2, 0, none⟩)]) ∧ w' = ((w.alloc (.cells #[.string s] 9)).alloc (.cells #[.string { data := #[47] }] 9)).alloc (.cells #[.int .i64 0] 3) := by
  refine callsIn_of_wp Tryz.func58 rfl trivial ?_ rfl
  simp only [Tryz.ntmps58, List.size_toArray, List.length_cons, List.length_nil, Nat.reduceAdd, Nat.reduceSub, Array.replicate_succ, Array.replicate_zero, List.push_toArray, List.append_toArray, List.nil_append, List.cons_append]
  gi_wp2_with fail
  refine ⟨trivial, CallsIn.mono (show CallsIn Fence.wide (n - 1) Tryz.prog 84 #[.string s, .string { data := #[47] }, .int .i64 0] w (fun e w' => e = .returned (.func (.func 102) #[] #[.pointer (some ⟨w.heap.size + 1, 0, none⟩), .pointer (some ⟨w.heap.size, 0, none⟩), .pointer (some ⟨w.heap.size + 2, 0, none⟩)]) ∧ w' = ((w.alloc (.cells #[.string s] 9)).alloc (.cells #[.string { data := #[47] }] 9)).alloc (.cells #[.int .i64 0] 3)) from ?_) ?_⟩
  · refine callsIn_of_wp Tryz.func84 rfl trivial ?_ rfl
    simp only [Tryz.ntmps84, List.size_toArray, List.length_cons, List.length_nil, Nat.reduceAdd, Nat.reduceSub, Array.replicate_succ, Array.replicate_zero, List.push_toArray, List.append_toArray, List.nil_append, List.cons_append]
    gi_wp2
    go_ret
    exact ⟨rfl, rfl⟩
  · rintro e w1 ⟨rfl, rfl⟩
    gi_wp2
    go_ret
    exact ⟨rfl, rfl⟩
theorem split_stops {s : List Nat} (hb : ∀ x ∈ s, x < 256) (hs : s.length ≤ 1048576) (b n : Nat) (hn : 1 ≤ n) (w : World) (hBn : Boxes b s w) :
    SeqStopsS Fence.wide n Tryz.prog 102 #[.pointer (some ⟨b + 1, 0, none⟩), .pointer (some ⟨b, 0, none⟩), .pointer (some ⟨b + 2, 0, none⟩)] (fun x : Bt => #[.string (bstr x.1)]) (KeepB3 b) (LeftSet b) (fun ys => ys.map (fun x => x.1) = pcs s) (fun pre => pre.map (fun x => x.1) <+: pcs s) (pcs s).length w :=
  fun k J Jx W hW _ _ hJS hY h0 => split1_in hb hs b n hn k J Jx hY W hJS (hBn.keep fun q _ h2 => hW.block q (Nat.lt_of_lt_of_le h2 (by
    have := (Array.getElem?_eq_some_iff.1 hBn.c2).1
    omega))) h0
end Go.Proofs.YtkckgchohnkkpaaGreatDoor

/- Who stands at a path: the pieces, one child after the other. Conditions: nodes that may be; a text of no more than 2^20 bytes. -/
namespace Go.Proofs.YtkckgchohnkkpaaGreatDoor
open Go.RowKit Go.Deep Go.Shelf
attribute [local go_sem] Oper.semAt_some

/-- One child after the other. -/
def wlk (l : List NodeV) (st : Int × Bool) (ns : List (List Nat)) : Int × Bool := ns.foldl (fun st n => if st.2 = true then (chI l st.1 n, chB l st.1 n) else st) st
theorem wlk_snoc (l : List NodeV) (st : Int × Bool) (ns : List (List Nat)) (n : List Nat) (h : (wlk l st ns).2 = true) : wlk l st (ns ++ [n]) = (chI l (wlk l st ns).1 n, chB l (wlk l st ns).1 n) := by
  unfold wlk at h ⊢
  rw [List.foldl_append]
  show (if _ then _ else _) = _
  rw [if_pos h]
theorem wlk_stop (l : List NodeV) : ∀ (ns : List (List Nat)) (st : Int × Bool), st.2 = false → wlk l st ns = st
  | [], _, _ => rfl
  | n :: ns, st, h => by
    show wlk l (if st.2 = true then _ else st) ns = st
    rw [if_neg (by rw [h]; simp)]
    exact wlk_stop l ns st h
theorem wlk_pre (l : List NodeV) (st : Int × Bool) {pre ns : List (List Nat)} (hp : pre <+: ns) (h : (wlk l st pre).2 = false) : wlk l st ns = wlk l st pre := by
  obtain ⟨r, rfl⟩ := hp
  show List.foldl _ _ _ = _
  rw [List.foldl_append]
  exact wlk_stop l r _ h
/-- What is held: both results in boxes, the tree in a third one. -/
structure SeekB (w0 : World) (p : Option Addr) (b it th : Nat) (st : Int × Bool) (W : World) : Prop where
  bel : Below w0.heap.size w0 W
  ct : W.heap[b]? = some (.cells #[.pointer p] 25 (0, 0))
  ci : W.heap[it]? = some (.cells #[.int .i64 st.1] 3 (0, 0))
  ch : W.heap[th]? = some (.cells #[.bool st.2] 4 (0, 0))
theorem heap_kept {W W' : World} {row : Option Nat} {k : Nat} {cs : Array Value} {T : TypeId} {fr : Nat × Nat} (hk : W.heap[k]? = some (.cells cs T fr)) (hg : W.grownBy W' row) (hr : ∀ q, row = some q → ∃ o : Obj, W.heap[q]? = some o ∧ o.isCells = false) : W'.heap[k]? = some (.cells cs T fr) := by
  rw [hg.block k (Array.getElem?_eq_some_iff.1 hk).1 (fun e => ?_)]
  · exact hk
  · obtain ⟨o, h1, h2⟩ := hr k e.symm
    rw [hk] at h1
    injection h1 with h1
    subst h1
    cases h2
theorem SeekB.kept {w0 : World} {p : Option Addr} {b it th : Nat} {st : Int × Bool} {W W' : World} {row : Option Nat} {B : Nat} (h : SeekB w0 p b it th st W) (hB : w0.heap.size ≤ B) (hg : W.grownBy W' row) (hr : ∀ q, row = some q → B ≤ q ∧ ∃ o : Obj, W.heap[q]? = some o ∧ o.isCells = false) : SeekB w0 p b it th st W' :=
  ⟨ownFrom_below (β := Unit) (Nat.le_refl _) hB () W W' row h.bel hg hr, heap_kept h.ct hg (fun q e => (hr q e).2), heap_kept h.ci hg (fun q e => (hr q e).2), heap_kept h.ch hg (fun q e => (hr q e).2)⟩
theorem SeekB.other {w0 : World} {p : Option Addr} {b it th k : Nat} {st : Int × Bool} {W : World} (h : SeekB w0 p b it th st W) (hk : w0.heap.size ≤ k) (h1 : k ≠ b) (h2 : k ≠ it) (h3 : k ≠ th) (v : Value) : SeekB w0 p b it th st (W.setCell ⟨k, 0, none⟩ v) :=
  ⟨h.bel.setCell (p := ⟨k, 0, none⟩) hk v, by rw [Below.heap_setCell _ _ _ _ (Ne.symm h1)]; exact h.ct, by rw [Below.heap_setCell _ _ _ _ (Ne.symm h2)]; exact h.ci, by rw [Below.heap_setCell _ _ _ _ (Ne.symm h3)]; exact h.ch⟩
theorem SeekB.later {w0 : World} {p : Option Addr} {b it th : Nat} {st : Int × Bool} {W W' : World} (h : SeekB w0 p b it th st W) (hb : Below W.heap.size W W') : SeekB w0 p b it th st W' :=
  ⟨h.bel.trans (hb.mono h.bel.size), by rw [hb.block b (Array.getElem?_eq_some_iff.1 h.ct).1]; exact h.ct, by rw [hb.block it (Array.getElem?_eq_some_iff.1 h.ci).1]; exact h.ci, by rw [hb.block th (Array.getElem?_eq_some_iff.1 h.ch).1]; exact h.ch⟩
theorem SeekB.put {w0 : World} {p : Option Addr} {b it th : Nat} {st : Int × Bool} {W : World} (h : SeekB w0 p b it th st W) (h1 : w0.heap.size ≤ it) (h2 : w0.heap.size ≤ th) (d1 : it ≠ b) (d2 : th ≠ b) (d3 : it ≠ th) (i : Int) (f : Bool) :
    SeekB w0 p b it th (i, f) ((W.setCell ⟨it, 0, none⟩ (.int .i64 i)).setCell ⟨th, 0, none⟩ (.bool f)) :=
  ⟨(h.bel.setCell (p := ⟨it, 0, none⟩) h1 _).setCell (p := ⟨th, 0, none⟩) h2 _,
    by rw [Below.heap_setCell _ _ _ _ (Ne.symm d2), Below.heap_setCell _ _ _ _ (Ne.symm d1)]; exact h.ct,
    by rw [Below.heap_setCell _ _ _ _ d3]; simp [World.setCell, Array.getElem?_modify, h.ci],
    by have := h.ch; simp [World.setCell, Array.getElem?_modify, this, d3]⟩
/-- The boxes of what is ranged over lie there, too; the second result is told once a round is done. -/
structure SeekC (w0 : World) (p : Option Addr) (l : List NodeV) (b it th : Nat) (pre : List Bt) (W : World) : Prop where
  yes : (wlk l (0, true) (pre.map fun x => x.1)).2 = true
  box : ∃ f, (pre = [] ∨ f = true) ∧ SeekB w0 p b it th ((wlk l (0, true) (pre.map fun x => x.1)).1, f) W
  siz : b + 6 ≤ W.heap.size
theorem SeekC.kept {w0 : World} {p : Option Addr} {l : List NodeV} {b it th : Nat} {pre : List Bt} {W W' : World} {row : Option Nat} {B : Nat} (h : SeekC w0 p l b it th pre W) (hB : w0.heap.size ≤ B) (hg : W.grownBy W' row) (hr : ∀ q, row = some q → B ≤ q ∧ ∃ o : Obj, W.heap[q]? = some o ∧ o.isCells = false) : SeekC w0 p l b it th pre W' := by
  obtain ⟨f, h1, h2⟩ := h.box
  exact ⟨h.yes, ⟨f, h1, h2.kept hB hg hr⟩, Nat.le_trans h.siz hg.size⟩
/-- What a round finds. -/
def SeekR (w0 : World) (p : Option Addr) (l : List NodeV) (b it th : Nat) (t : Bt → Act) (s : List Bt × Bt × Act) (W : World) : Prop := s.2.2 = t s.2.1 ∧ SeekC w0 p l b it th s.1 W
theorem keep3_below {b : Nat} {X Y : World} (h : Below X.heap.size X Y) (hs : b + 3 ≤ X.heap.size) : KeepB3 b X Y := fun k _ h2 => h.block k (by omega)
theorem keep3_set {b k : Nat} (hk : k < b) (X : World) (v : Value) : KeepB3 b X (X.setCell ⟨k, 0, none⟩ v) := fun i h1 _ => Below.heap_setCell _ _ _ _ (by show i ≠ k; omega)
theorem seek_new (w : World) (p : Option Addr) : SeekB w p w.heap.size (w.heap.size + 1) (w.heap.size + 1 + 1) (0, p.isSome) (((w.alloc (.cells #[.pointer p] 25)).alloc (.cells #[.int .i64 0] 3)).alloc (.cells #[.bool p.isSome] 4)).drew := by
  refine ⟨?_, ?_, ?_, ?_⟩
  · exact Below.drew ((((Below.refl _ w).alloc (Nat.le_refl _) _).alloc (by simp) _).alloc (by simp; omega) _)
  · show (((w.alloc (.cells #[.pointer p] 25)).alloc (.cells #[.int .i64 0] 3)).alloc (.cells #[.bool p.isSome] 4)).heap[w.heap.size]? = _
    rw [Below.heap_alloc _ _ _ (by simp; omega), Below.heap_alloc _ _ _ (by simp)]
    exact World.alloc_heap_new w _
  · show (((w.alloc (.cells #[.pointer p] 25)).alloc (.cells #[.int .i64 0] 3)).alloc (.cells #[.bool p.isSome] 4)).heap[w.heap.size + 1]? = _
    rw [Below.heap_alloc _ _ _ (by simp)]
    have := World.alloc_heap_new (w.alloc (.cells #[.pointer p] 25)) (.cells #[.int .i64 0] 3)
    rwa [World.size_alloc] at this
  · have := World.alloc_heap_new ((w.alloc (.cells #[.pointer p] 25)).alloc (.cells #[.int .i64 0] 3)) (.cells #[.bool p.isSome] 4)
    rwa [World.size_alloc, World.size_alloc] at this
theorem seek_new2 (w : World) (p : Option Addr) : SeekB w p w.heap.size (w.heap.size + 1 + 1) (w.heap.size + 1) (0, p.isSome) (((w.alloc (.cells #[.pointer p] 25)).alloc (.cells #[.bool p.isSome] 4)).alloc (.cells #[.int .i64 0] 3)).drew := by
  refine ⟨?_, ?_, ?_, ?_⟩
  · exact Below.drew ((((Below.refl _ w).alloc (Nat.le_refl _) _).alloc (by simp) _).alloc (by simp; omega) _)
  · show (((w.alloc (.cells #[.pointer p] 25)).alloc (.cells #[.bool p.isSome] 4)).alloc (.cells #[.int .i64 0] 3)).heap[w.heap.size]? = _
    rw [Below.heap_alloc _ _ _ (by simp; omega), Below.heap_alloc _ _ _ (by simp)]
    exact World.alloc_heap_new w _
  · have := World.alloc_heap_new ((w.alloc (.cells #[.pointer p] 25)).alloc (.cells #[.bool p.isSome] 4)) (.cells #[.int .i64 0] 3)
    rwa [World.size_alloc, World.size_alloc] at this
  · show (((w.alloc (.cells #[.pointer p] 25)).alloc (.cells #[.bool p.isSome] 4)).alloc (.cells #[.int .i64 0] 3)).heap[w.heap.size + 1]? = _
    rw [Below.heap_alloc _ _ _ (by simp)]
    have := World.alloc_heap_new (w.alloc (.cells #[.pointer p] 25)) (.cells #[.bool p.isSome] 4)
    rwa [World.size_alloc] at this
set_option maxHeartbeats 4000000 in
set_option maxRecDepth 100000 in
theorem find_any (p : Option Addr) (l : List NodeV) (hl : l.length ≤ 1048576) (hg : ∀ y ∈ l, y.Good) (s : List Nat) (hb : ∀ x ∈ s, x < 256) (hs : s.length ≤ 1048576) (hne : s ≠ []) (w : World) (h : TPtr w p l) :
    Calls Tryz.prog 21 #[.pointer p, .string (bstr s)] w fun e W' => e = .returned (.tuple #[.int .i64 (wlk l (0, true) (pcs s)).1, .bool (wlk l (0, true) (pcs s)).2]) ∧ Below w.heap.size w W' := by
  have HH := Lib.hid h; clear h
  have HB := Lib.hid hb
  have hem := empty_no hne
  have HG := Lib.hid hg; clear hg
  have hpp := pcs_some s
  obtain ⟨r1, HR1⟩ : ∃ r, Hid ((wlk l (0, true) (pcs s)).1 = r) := ⟨_, Lib.hid rfl⟩
  obtain ⟨r2, HR2⟩ : ∃ r, Hid ((wlk l (0, true) (pcs s)).2 = r) := ⟨_, Lib.hid rfl⟩
  rw [HR1.out, HR2.out]
  refine (callsIn_wide (n := 4)).1 ?_
  refine callsIn_of_wp_marks Tryz.func21 rfl trivial ?_ rfl
  simp only [Tryz.ntmps21, List.size_toArray, List.length_cons, List.length_nil, Nat.reduceAdd, Nat.reduceSub, Array.replicate_succ, Array.replicate_zero, List.push_toArray, List.append_toArray, List.nil_append, List.cons_append]
  gi_wp2_with fail
  rename_i Q' K ha
  have key : ∀ (it th : Nat) (W : World), SeekB w p w.heap.size it th (0, p.isSome) W → (w.heap.size < it ∧ it < w.heap.size + 3) → (w.heap.size < th ∧ th < w.heap.size + 3) → it ≠ th → W.heap.size = w.heap.size + 3 →
      K { tmps := #[.pointer p, .string (bstr s), .pointer (some ⟨w.heap.size, 0, none⟩), undef, .int .i64 0, .bool false, .pointer (some ⟨it, 0, none⟩), .pointer (some ⟨th, 0, none⟩), undef, .pointer p, .bool p.isSome, undef, undef, undef, undef, undef, undef, undef, undef, undef, undef, undef, undef, undef, undef, undef, undef, undef, undef], defers := [] } W := by
    intro it th W hW hit hth hd hsz
    refine ha _ _ ?_
    generalize hbe : w.heap.size = b at hW hit hth hsz ⊢
    have HS := Lib.hid hW
    clear hW ha
    gi_wp2_with fail
    refine ⟨trivial, (split_any _ (by omega) _ _).mono ?_⟩
    rintro e w2 ⟨rfl, rfl⟩
    rw [hsz]
    have c0 := World.alloc_heap_new W (.cells #[.string (bstr s)] 9)
    have HW3 : Hid (Below W.heap.size W (((W.alloc (.cells #[.string (bstr s)] 9)).alloc (.cells #[.string { data := #[47] }] 9)).alloc (.cells #[.int .i64 0] 3))) := (((Below.refl _ W).alloc (Nat.le_refl _) _).alloc (by simp) _).alloc (by simp; omega) _
    have HBX : Hid (Boxes (b + 3) s (((W.alloc (.cells #[.string (bstr s)] 9)).alloc (.cells #[.string { data := #[47] }] 9)).alloc (.cells #[.int .i64 0] 3))) := by
      have e1 := World.alloc_heap_new (W.alloc (.cells #[.string (bstr s)] 9)) (.cells #[.string { data := #[47] }] 9)
      have e2 := World.alloc_heap_new ((W.alloc (.cells #[.string (bstr s)] 9)).alloc (.cells #[.string { data := #[47] }] 9)) (.cells #[.int .i64 0] 3)
      simp only [World.size_alloc, hsz] at c0 e1 e2
      refine ⟨?_, ?_, e2⟩
      · rw [Below.heap_alloc _ _ _ (by simp [hsz]), Below.heap_alloc _ _ _ (by simp [hsz])]; exact c0
      · rw [Below.heap_alloc _ _ _ (by simp [hsz])]; exact e1
    have hsz3 : (((W.alloc (.cells #[.string (bstr s)] 9)).alloc (.cells #[.string { data := #[47] }] 9)).alloc (.cells #[.int .i64 0] 3)).heap.size = b + 6 := by simp [hsz]
    have HS3 := Lib.hid (HS.out.later HW3.out)
    clear c0 HW3
    generalize ((W.alloc (.cells #[.string (bstr s)] 9)).alloc (.cells #[.string { data := #[47] }] 9)).alloc (.cells #[.int .i64 0] 3) = W1 at HBX hsz3 HS3 ⊢
    have hseq := split_stops HB.out hs (b + 3) 3 (by omega) W1 HBX.out
    clear HS HBX
    obtain ⟨t, ht⟩ : ∃ t : Bt → Act, t = fun x => { tmps := #[.pointer p, .string (bstr s), .pointer (some ⟨b, 0, none⟩), undef, .int .i64 0, .bool false, .pointer (some ⟨it, 0, none⟩), .pointer (some ⟨th, 0, none⟩), .string (bstr x.1), .pointer p, .bool p.isSome, .string (bstr s), .bool false, undef, undef, .string (bstr s),
      .func (.func 102) #[] #[.pointer (some ⟨b + 3 + 1, 0, none⟩), .pointer (some ⟨b + 3, 0, none⟩), .pointer (some ⟨b + 3 + 2, 0, none⟩)], .string (bstr x.1), undef, undef, undef, undef, undef, undef, undef, undef, undef, undef, undef], defers := [] } := ⟨_, rfl⟩
    gi_wp2
    refine wpIn_rangeFunc_step rfl (by omega) (gf := 102) (lb := #[.pointer (some ⟨b + 3 + 1, 0, none⟩), .pointer (some ⟨b + 3, 0, none⟩), .pointer (some ⟨b + 3 + 2, 0, none⟩)]) rfl trivial (enters_of Tryz.func102 (by kernel_rfl) rfl)
      hseq (fun h k => h.trans k) (fun X q o o' hq _ _ _ => fun i _ h2 => World.putObj_heap_other (by omega)) (Below.refl _ _) (fun _ => rfl)
      (SeekC w p l b it th) (fun (c : Code) (pre : List Bt) X => c = .exit 0 ∧ SeekB w p b it th (wlk l (0, true) (pre.map (fun x : Bt => x.1))) X ∧ (wlk l (0, true) (pre.map (fun x : Bt => x.1))).2 = false) (SeekR w p l b it th t)
      (fun q X Y row hs hg hr => hs.kept (by omega) hg hr) (fun q X Y row hs hg hr => ⟨hs.1, hs.2.kept (by omega) hg hr⟩) (fun c q X Y row hs hg hr => ⟨hs.1, hs.2.1.kept (by omega) hg hr, hs.2.2⟩)
      ⟨rfl, ⟨_, .inl rfl, HS3.out⟩, by omega⟩ (fun h => by obtain ⟨v, rfl⟩ := h; exact KeepsOthers.setCell _ _ _) (fun h k => by
        obtain ⟨v, rfl⟩ := k
        obtain ⟨h1, ⟨f, h2, hf⟩, h3⟩ := h
        exact ⟨h1, ⟨f, h2, hf.other (by omega) (by omega) (by omega) (by omega) v⟩, by simpa [World.setCell] using h3⟩) ?assign ?body ?done ?stop
    case assign =>
      rintro k pre ⟨x, hx⟩ X K2 hC hsz' hK
      have := hK (t ⟨x, hx⟩) X ⟨rfl, hC⟩ (KeepsOthers.refl _) (fun _ _ _ => rfl)
      rw [ht] at this
      dsimp only at this ⊢
      gi_wp2
      exact this
    case body =>
      rintro k pre ⟨x, hx⟩ a1 X ⟨he0, hC⟩ hlen
      have he : a1 = t ⟨x, hx⟩ := he0
      clear he0
      subst he
      rw [ht]
      dsimp only
      obtain ⟨hy, ⟨f, _, hf⟩, hz⟩ := hC
      have HSN := Lib.hid (wlk_snoc l (0, true) (pre.map fun x => x.1) x hy)
      generalize (wlk l (0, true) (pre.map fun x => x.1)).1 = i0 at hf HSN
      have GC := Lib.hid (child_any p l i0 x (by omega) HG.out hx X (HH.out.below hf.bel))
      generalize chI l i0 x = J1 at GC HSN
      generalize chB l i0 x = B1 at GC HSN
      have c0 : X.cell? ⟨b, 0, none⟩ = some (.pointer p) := by rw [Lib.cell_of_heap hf.ct]; rfl
      have c1 : X.cell? ⟨it, 0, none⟩ = some (.int .i64 i0) := by rw [Lib.cell_of_heap hf.ci]; rfl
      have HF := Lib.hid hf
      have HMAP : Hid ((pre ++ [(⟨x, hx⟩ : Bt)]).map (fun x => x.1) = pre.map (fun x => x.1) ++ [x]) := by show _ = _; rw [List.map_append]; rfl
      clear hf hy
      gi_wp2_with fail
      refine ⟨trivial, (callsIn_wide.2 GC.out).mono ?_⟩
      rintro e w5 ⟨rfl, hb5⟩
      have HF5 := Lib.hid (HF.out.later hb5)
      have HK5 : Hid (KeepsOthers X ((w5.setCell ⟨it, 0, none⟩ (.int .i64 J1)).setCell ⟨th, 0, none⟩ (.bool B1))) := ((others_below hb5).trans (KeepsOthers.setCell _ _ _)).trans (KeepsOthers.setCell _ _ _)
      have HT5 : Hid (KeepB3 (b + 3) X ((w5.setCell ⟨it, 0, none⟩ (.int .i64 J1)).setCell ⟨th, 0, none⟩ (.bool B1))) := ((keep3_below hb5 (by omega)).trans (keep3_set (by omega) _ _)).trans (keep3_set (by omega) _ _)
      have HP5 := Lib.hid (HF5.out.put (by omega) (by omega) (by omega) (by omega) hd J1 B1)
      have HZ5 : Hid (b + 6 ≤ ((w5.setCell ⟨it, 0, none⟩ (.int .i64 J1)).setCell ⟨th, 0, none⟩ (.bool B1)).heap.size) := by
        show _ ≤ _
        have := hb5.size
        simp [World.setCell]
        omega
      have d1 : w5.cell? ⟨it, 0, none⟩ = some (.int .i64 i0) := by rw [Lib.cell_of_heap HF5.out.ci]; rfl
      have d2 : w5.cell? ⟨th, 0, none⟩ = some (.bool f) := by rw [Lib.cell_of_heap HF5.out.ch]; rfl
      have f1 : w5.frozen? ⟨it, 0, none⟩ = false := Lib.frozen_of_heap HF5.out.ci 0
      have f2 : w5.frozen? ⟨th, 0, none⟩ = false := Lib.frozen_of_heap HF5.out.ch 0
      have d3 : ((w5.setCell ⟨it, 0, none⟩ (.int .i64 J1)).setCell ⟨th, 0, none⟩ (.bool B1)).cell? ⟨th, 0, none⟩ = some (.bool B1) := by rw [Lib.cell_of_heap HP5.out.ch]; rfl
      clear hb5 HF5 HF
      cases B1 with
      | true =>
        have HEND : Hid (SeekC w p l b it th (pre ++ [⟨x, hx⟩]) ((w5.setCell ⟨it, 0, none⟩ (.int .i64 J1)).setCell ⟨th, 0, none⟩ (.bool true))) := ⟨by rw [HMAP.out, HSN.out], ⟨true, .inr rfl, by rw [HMAP.out, HSN.out]; exact HP5.out⟩, HZ5.out⟩
        gi_wp2
        exact ⟨HK5.out, HT5.out, HEND.out⟩
      | false =>
        have HEND : Hid (SeekB w p b it th (wlk l (0, true) ((pre ++ [(⟨x, hx⟩ : Bt)]).map fun x => x.1)) ((w5.setCell ⟨it, 0, none⟩ (.int .i64 J1)).setCell ⟨th, 0, none⟩ (.bool false)) ∧ (wlk l (0, true) ((pre ++ [(⟨x, hx⟩ : Bt)]).map fun x => x.1)).2 = false) := ⟨by rw [HMAP.out, HSN.out]; exact HP5.out, by rw [HMAP.out, HSN.out]⟩
        gi_wp2
        exact ⟨HK5.out, rfl, HEND.out⟩
    case done =>
      rintro D ys X hD hys ⟨hy, ⟨f, h1, hf⟩, hz⟩ hK
      rw [hys] at hf hy
      have hf1 : f = true := by
        rcases h1 with rfl | h1
        · obtain ⟨q, qs, e⟩ := hpp
          rw [e] at hys
          cases hys
        · exact h1
      subst hf1
      have E2 : r2 = true := HR2.out.symm.trans hy
      have E1 : r1 = (wlk l (0, true) (pcs s)).1 := HR1.out.symm
      generalize (wlk l (0, true) (pcs s)).1 = i0 at hf E1
      clear hy
      have c1 : X.cell? ⟨it, 0, none⟩ = some (.int .i64 i0) := by rw [Lib.cell_of_heap hf.ci]; rfl
      have c2 : X.cell? ⟨th, 0, none⟩ = some (.bool true) := by rw [Lib.cell_of_heap hf.ch]; rfl
      gi_wp2_with fail
      gi_region
      gi_wp2
      have hb2 : Below w.heap.size w X := hf.bel
      refine ⟨by simp, .inl ⟨_, _, rfl, run_takeDeferred hK, ?_⟩⟩
      exact ⟨.tuple #[.int .i64 i0, .bool true], by simp [results, Tryz.f21, go_sem], by rw [E1, E2], (Below.drew hb2).trans (belowK_b (w := w) (Nat.le_refl _) X.drew D _ _ (by omega) hK rfl rfl)⟩
    case stop =>
      rintro D c' pre X hD hp ⟨rfl, hf, h2⟩ hK
      have hw := wlk_pre l (0, true) hp h2
      have E2 : r2 = false := by rw [← HR2.out, hw]; exact h2
      have E1 : r1 = (wlk l (0, true) (pre.map (fun x : Bt => x.1))).1 := by rw [← HR1.out, hw]
      have c1 : X.cell? ⟨it, 0, none⟩ = some (.int .i64 (wlk l (0, true) (pre.map (fun x : Bt => x.1))).1) := by rw [Lib.cell_of_heap hf.ci]; rfl
      have c2 : X.cell? ⟨th, 0, none⟩ = some (.bool false) := by rw [Lib.cell_of_heap hf.ch, h2]; rfl
      generalize (wlk l (0, true) (pre.map (fun x : Bt => x.1))).1 = i0 at c1 E1
      clear h2 hw
      gi_wp2_with fail
      gi_region
      gi_wp2
      have hb2 : Below w.heap.size w X := hf.bel
      refine ⟨by simp, .inl ⟨_, _, rfl, run_takeDeferred hK, ?_⟩⟩
      exact ⟨.tuple #[.int .i64 i0, .bool false], by simp [results, Tryz.f21, go_sem], by rw [E1, E2], (Below.drew hb2).trans (belowK_b (w := w) (Nat.le_refl _) X.drew D _ _ (by omega) hK rfl rfl)⟩
  gi_region
  · exact key (w.heap.size + 1) (w.heap.size + 1 + 1) _ (seek_new w p) (by omega) (by omega) (by omega) (by simp)
  · exact key (w.heap.size + 1 + 1) (w.heap.size + 1) _ (seek_new2 w p) (by omega) (by omega) (by omega) (by simp)
set_option maxHeartbeats 1000000 in
set_option maxRecDepth 100000 in
theorem find_empty (p : Option Addr) (w : World) :
    Calls Tryz.prog 21 #[.pointer p, .string (bstr [])] w fun e W' => e = .returned (.tuple #[.int .i64 0, .bool p.isSome]) ∧ Below w.heap.size w W' := by
  have hem := empty_yes
  go_enter Tryz.func21, Tryz.ntmps21
  go_wp2_with fail
  rename_i Q' K ha
  have key : ∀ (it th : Nat) (W : World), SeekB w p w.heap.size it th (0, p.isSome) W →
      K { tmps := #[.pointer p, .string (bstr []), .pointer (some ⟨w.heap.size, 0, none⟩), undef, .int .i64 0, .bool false, .pointer (some ⟨it, 0, none⟩), .pointer (some ⟨th, 0, none⟩), undef, .pointer p, .bool p.isSome, undef, undef, undef, undef, undef, undef, undef, undef, undef, undef, undef, undef, undef, undef, undef, undef, undef, undef], defers := [] } W := by
    intro it th W hW
    refine ha _ _ ?_
    have HB := Lib.hid hW.bel
    have c1 : W.cell? ⟨it, 0, none⟩ = some (.int .i64 0) := by rw [Lib.cell_of_heap hW.ci]; rfl
    have c2 : W.cell? ⟨th, 0, none⟩ = some (.bool p.isSome) := by rw [Lib.cell_of_heap hW.ch]; rfl
    clear hW ha
    go_wp2
    go_quiet (fail)
    go_wp2
    go_ret2
    exact ⟨rfl, below_drewN HB.out _⟩
  go_region
  · exact key (w.heap.size + 1) (w.heap.size + 1 + 1) _ (seek_new w p)
  · exact key (w.heap.size + 1 + 1) (w.heap.size + 1) _ (seek_new2 w p)
end Go.Proofs.YtkckgchohnkkpaaGreatDoor

/- A path leads to who has it. Condition: a tree. -/
namespace Go.Proofs.YtkckgchohnkkpaaGreatDoor
open Go.RowKit Go.Deep

theorem child_of {l : List NodeV} (hm : TreeM l) {x : NodeV} (hx : x ∈ l) : chB l x.parent x.name = true ∧ chI l x.parent x.name = x.id := by
  have h1 := chB_yes hx ⟨rfl, rfl⟩
  obtain ⟨y, hy, e1, e2, e3⟩ := child_some ⟨x, hx, rfl, rfl⟩
  refine ⟨h1, ?_⟩
  unfold chI
  rw [if_pos h1, e3, hm.uniq y hy x hx e1 e2]
theorem name_cut {s : List Nat} (h : IsName s) : pcs s = [s] := pcs_one fun c hc e => by
  have := okByte_iff.1 ((isName_iff.1 h).2.2.2.2 c hc)
  omega
theorem name_bytes {s : List Nat} (h : IsName s) : ∀ c ∈ s, c < 256 := fun c hc => by
  have := okByte_iff.1 ((isName_iff.1 h).2.2.2.2 c hc)
  omega
theorem seek_path {l : List NodeV} (h : TreeM l) {x : NodeV} (hx : x ∈ l) : ∃ s, rPath l x.id = some s ∧ s ≠ [] ∧ (∀ c ∈ s, c < 256) ∧ wlk l (0, true) (pcs s) = (x.id, true) := by
  obtain ⟨n, hn⟩ := h.ends x hx
  induction n generalizing x with
  | zero =>
    have h' : up l x.id = none := hn
    exact absurd rfl (up_no.1 h' x hx)
  | succ n ih =>
    have hp := hn x.parent ((up_iff h.srt).2 ⟨x, hx, rfl, rfl⟩)
    have hx2 := h.named x hx
    have hnm := (h.nd x hx).2.2.1
    obtain ⟨c1, c2⟩ := child_of h hx
    rw [h.path_up hx]
    rcases h.dirs x hx with g | ⟨q, hq, e, _⟩
    · rw [g, path_root]
      rw [g] at c1 c2
      refine ⟨x.name, congrArg some (jn_nil _), hx2, name_bytes hnm, ?_⟩
      rw [name_cut hnm]
      show (if (true : Bool) = true then (chI l 0 x.name, chB l 0 x.name) else (0, true)) = _
      rw [if_pos rfl, c1, c2]
    · obtain ⟨s, hs, hs2, hsb, hw⟩ := ih hq (e ▸ hp)
      rw [← e, hs]
      rw [← e] at c1 c2
      refine ⟨s ++ 47 :: x.name, ?_, by simp, fun c hc => ?_, ?_⟩
      · show some (jn s x.name) = _
        unfold jn
        rw [if_neg hs2]
      · rcases List.mem_append.1 hc with hc | hc
        · exact hsb c hc
        · rcases List.mem_cons.1 hc with rfl | hc
          · omega
          · exact name_bytes hnm c hc
      · rw [pcs_app, name_cut hnm, wlk_snoc _ _ _ _ (by rw [hw]), hw]
        show (chI l q.id x.name, chB l q.id x.name) = _
        rw [c1, c2]
theorem find_path {l : List NodeV} (hm : TreeM l) {x : NodeV} (hx : x ∈ l) {s : List Nat} (hs : rPath l x.id = some s) (g : Nat) (w : World) (h : TreeAt w g l) :
    Calls Tryz.prog 21 #[.pointer (some ⟨g, 0, none⟩), .string (bstr s)] w fun e W' => e = .returned (.tuple #[.int .i64 x.id, .bool true]) ∧ Below w.heap.size w W' := by
  obtain ⟨s2, h1, h2, h3, h4⟩ := seek_path hm hx
  rw [hs] at h1
  injection h1 with h1
  subst h1
  have hl := hm.len
  have hsl := path_len hm hs
  have := find_any (some ⟨g, 0, none⟩) l (by omega) hm.good s h3 (by omega) h2 w h.ptr
  rw [h4] at this
  exact this
end Go.Proofs.YtkckgchohnkkpaaGreatDoor
