/- Slices of nodes, cut: l[:k], l[k:]. Condition: the places are within. (Merged of 3 texts.) -/
import Derived.Test.YtmedaimndaaiiaaGreatMCells
import Derived.Test.YtmedaimndaaiiaaGreatMMono
import Derived.Test.YtmedaimndaaiiaaGreatMOwn
import Derived.Deep.OwnRows
/- The document's own Find, Child, within: the place of an ID, a parent's child, what stands within what. Conditions: no slice is longer than memory; nodes that may be. -/
namespace Go.Proofs.YtmedaimndaaiiaaGreat
open Go.RowKit Go.Deep

/-- Nodes that lie in a slice with room for c of them. -/
def NodesC (w : World) (A : Option Addr) (c : Nat) (l : List NodeV) : Prop := NodesAt w A l ∧ l.length ≤ c
theorem NodesC.below {w w' : World} {A : Option Addr} {c : Nat} {l : List NodeV} (h : NodesC w A c l) (hb : Below w.heap.size w w') : NodesC w' A c l := ⟨h.1.below hb, h.2⟩
theorem NodesC.drew {w : World} {A : Option Addr} {c : Nat} {l : List NodeV} (h : NodesC w A c l) : NodesC w.drew A c l := ⟨h.1.drew, h.2⟩

set_option maxHeartbeats 1000000 in
set_option maxRecDepth 100000 in
theorem refFind_any (A : Option Addr) (c : Nat) (l : List NodeV) (id : Int) (hl : l.length ≤ maxLen) (w : World) (hA : NodesAt w A l) :
    Calls Tryz.prog 27 #[.slice A l.length c, .int .i64 id] w fun e w' => e = .returned (.int .i64 (findI (rFind l id))) ∧ w = w' := by
  unfold maxLen at hl
  have HA := Lib.hid hA; clear hA
  obtain ⟨T, HT⟩ : ∃ T, Hid (rFind l id = T) := ⟨_, Lib.hid rfl⟩
  rw [HT.out]
  go_enter Tryz.func27, Tryz.ntmps27
  go_wp2
  go_loopw [4, 5] (fun r i wr => ∃ k : Nat, k ≤ l.length ∧ r = .int .i64 0 ∧ i = .int .i64 (k : Int) ∧ wr = w ∧ Hid (∀ (j : Nat) (hj : j < l.length), j < k → l[j].id ≠ id)) (fun _ i _ => l.length - (intOf i).toNat)
  case atStart => exact ⟨0, Nat.zero_le _, rfl, rfl, rfl, Lib.hid (fun j _ h => by omega)⟩
  case round =>
    obtain ⟨k, hk, rfl, rfl, rfl, HN⟩ := hrel
    by_cases hlt : k < l.length
    · obtain ⟨b, off, rfl, _⟩ := HA.out.form (by omega)
      have hc0 := (HA.out.at_ hlt).1
      have HE : Hid (l[k].id = id → T = some k) := fun h => by rw [← HT.out]; exact rFind_yes hlt h HN.out
      have HNN : Hid (l[k].id ≠ id → ∀ (j : Nat) (hj : j < l.length), j < k + 1 → l[j].id ≠ id) := fun h j hj hjk => by
        rcases Nat.lt_or_ge j k with g | g
        · exact HN.out j hj g
        · obtain rfl : j = k := by omega
          exact h
      generalize l[k].id = y at hc0 HE HNN
      by_cases he : y = id
      · have HR := Lib.hid (HE.out he)
        subst he
        clear HNN HE
        go_wp2
        go_ret
        exact ⟨by rw [HR.out]; rfl, rfl⟩
      · have hne : (y == id) = false := beq_eq_false_iff_ne.2 he
        have HR := Lib.hid (HNN.out he)
        clear HNN HE he
        go_wp2
        go_roundw
        case rel => exact ⟨k + 1, by omega, rfl, by go_num, trivial, HR⟩
        case measure => simp [intOf]; omega
    · have HR : Hid (T = none) := by
        show T = none
        rw [← HT.out]
        refine rFind_no fun y hy => ?_
        obtain ⟨j, hj⟩ := List.getElem?_of_mem hy
        obtain ⟨h1, h2⟩ := List.getElem?_eq_some_iff.1 hj
        rw [← h2]
        exact HN.out j h1 (by omega)
      go_wp2
      go_ret
      exact ⟨by rw [HR.out]; rfl, rfl⟩

set_option maxHeartbeats 1000000 in
set_option maxRecDepth 100000 in
theorem refChild_any (A : Option Addr) (c : Nat) (l : List NodeV) (parent : Int) (name : List Nat) (hl : l.length ≤ maxLen) (hg : ∀ y ∈ l, y.Good) (hn : ∀ x ∈ name, x < 256) (w : World) (hA : NodesAt w A l) :
    Calls Tryz.prog 49 #[.slice A l.length c, .int .i64 parent, .string (bstr name)] w fun e w' => e = .returned (.int .i64 (rChild l parent name)) ∧ w = w' := by
  unfold maxLen at hl
  have HA := Lib.hid hA; clear hA
  have HG := Lib.hid hg; clear hg
  have HNM := Lib.hid hn; clear hn
  obtain ⟨T, HT⟩ : ∃ T, Hid (rChild l parent name = T) := ⟨_, Lib.hid rfl⟩
  rw [HT.out]
  go_enter Tryz.func49, Tryz.ntmps49
  go_wp2
  go_loopw [6, 7] (fun r i wr => ∃ k : Nat, k ≤ l.length ∧ r = .int .i64 0 ∧ i = .int .i64 (k : Int) ∧ wr = w ∧ Hid (∀ (j : Nat) (hj : j < l.length), j < k → ¬ (l[j].parent = parent ∧ l[j].name = name))) (fun _ i _ => l.length - (intOf i).toNat)
  case atStart => exact ⟨0, Nat.zero_le _, rfl, rfl, rfl, Lib.hid (fun j _ h => by omega)⟩
  case round =>
    obtain ⟨k, hk, rfl, rfl, rfl, HN⟩ := hrel
    by_cases hlt : k < l.length
    · obtain ⟨b, off, rfl, _⟩ := HA.out.form (by omega)
      obtain ⟨hc0, hc1, hc2, _, _⟩ := HA.out.at_ hlt
      have HGK := Lib.hid (HG.out _ (List.getElem_mem hlt)).2.2.1.1
      have HE : Hid (l[k].parent = parent ∧ l[k].name = name → T = l[k].id) := fun h => by rw [← HT.out]; exact rChild_at hlt h HN.out
      have HNN : Hid (¬ (l[k].parent = parent ∧ l[k].name = name) → ∀ (j : Nat) (hj : j < l.length), j < k + 1 → ¬ (l[j].parent = parent ∧ l[j].name = name)) := fun h j hj hjk => by
        rcases Nat.lt_or_ge j k with g | g
        · exact HN.out j hj g
        · obtain rfl : j = k := by omega
          exact h
      generalize l[k].id = y at hc0 HE
      generalize l[k].parent = p at hc1 HE HNN
      generalize l[k].name = nm at hc2 HE HNN HGK
      by_cases he : p = parent
      · by_cases hm : nm = name
        · have HR := Lib.hid (HE.out ⟨he, hm⟩)
          subst he hm
          clear HNN HE
          go_wp2
          go_ret
          exact ⟨by rw [HR.out]; rfl, rfl⟩
        · have HR := Lib.hid (HNN.out fun h => hm h.2)
          have hne : ((bstr nm).toList == (bstr name).toList) = false := bstr_neq fun h => hm (bstr_inj _ _ HGK.out HNM.out h)
          subst he
          clear HNN HE hm
          go_wp2
          go_roundw
          case rel => exact ⟨k + 1, by omega, rfl, by go_num, trivial, HR⟩
          case measure => simp [intOf]; omega
      · have hne : (p == parent) = false := beq_eq_false_iff_ne.2 he
        have HR := Lib.hid (HNN.out fun h => he h.1)
        clear HNN HE he
        go_wp2
        go_roundw
        case rel => exact ⟨k + 1, by omega, rfl, by go_num, trivial, HR⟩
        case measure => simp [intOf]; omega
    · have HR : Hid (T = -1) := by
        show T = -1
        rw [← HT.out]
        refine rChild_none fun y hy => ?_
        obtain ⟨j, hj⟩ := List.getElem?_of_mem hy
        obtain ⟨h1, h2⟩ := List.getElem?_eq_some_iff.1 hj
        rw [← h2]
        exact HN.out j h1 (by omega)
      go_wp2
      go_ret
      exact ⟨by rw [HR.out]; rfl, rfl⟩

set_option maxHeartbeats 1000000 in
set_option maxRecDepth 100000 in
theorem refWithin_any (A : Option Addr) (c : Nat) (l : List NodeV) (id top : Int) (hl : l.length ≤ 1099511627776) (w : World) (hA : NodesAt w A l) :
    Calls Tryz.prog 51 #[.slice A l.length c, .int .i64 id, .int .i64 top] w fun e w' => e = .returned (.bool (rWithin l id top)) ∧ w = w' := by
  have HA := Lib.hid hA; clear hA
  obtain ⟨T, HT⟩ : ∃ T, Hid (rWithin l id top = T) := ⟨_, Lib.hid rfl⟩
  rw [HT.out]
  have HF := Lib.hid (fun (x : Int) => refFind_any A c l x (by unfold maxLen; omega) w HA.out)
  go_enter Tryz.func51, Tryz.ntmps51
  go_wp2
  go_loopw [1, 6, 7] (fun x r i wr => ∃ (k n : Nat) (y : Int), k + n = l.length + 1 ∧ x = .int .i64 y ∧ r = .bool false ∧ i = .int .i64 (k : Int) ∧ wr = w ∧ Hid (wthn l top n y = T)) (fun _ _ i _ => l.length + 1 - (intOf i).toNat)
  case atStart => exact ⟨0, l.length + 1, id, by omega, rfl, rfl, rfl, rfl, by show _ = _; rw [← HT.out, rWithin_def]⟩
  case round =>
    obtain ⟨k, n, y, hkn, rfl, rfl, rfl, rfl, HR⟩ := hrel
    cases n with
    | zero =>
      have hki : (l.length : Int) < (k : Int) := by omega
      have HE : Hid (T = true) := by show T = true; rw [← HR.out, wthn_zero]
      go_wp2
      go_ret
      exact ⟨by rw [HE.out]; rfl, rfl⟩
    | succ n =>
      have hki : (k : Int) ≤ (l.length : Int) := by omega
      have hkn' : k ≤ l.length := by omega
      by_cases hy : y = top
      · subst hy
        have HE : Hid (T = true) := by show T = true; rw [← HR.out, wthn_top]
        go_wp2
        go_ret
        exact ⟨by rw [HE.out]; rfl, rfl⟩
      · have hne : (y == top) = false := beq_eq_false_iff_ne.2 hy
        have HFY := Lib.hid (HF.out y)
        cases hf : rFind l y with
        | none =>
          have HE : Hid (T = false) := by show T = false; rw [← HR.out, wthn_none hy hf]
          rw [hf] at HFY
          clear hf hy
          go_wp2_with fail
          refine (HFY.out).mono ?_
          rintro e v ⟨rfl, rfl⟩
          rw [show findI none = -1 from rfl]
          go_wp2
          go_ret
          exact ⟨by rw [HE.out]; rfl, rfl⟩
        | some q =>
          obtain ⟨hq, _, _⟩ := rFind_some hf
          have HE : Hid (wthn l top n l[q].parent = T) := by show _ = T; rw [← HR.out, wthn_up hy hq hf]
          rw [hf] at HFY
          obtain ⟨b, off, rfl, _⟩ := HA.out.form (by omega)
          have hc1 := (HA.out.at_ hq).2.1
          generalize l[q].parent = p at hc1 HE
          clear hf hy
          have hql : (q : Int) < (l.length : Int) := by omega
          go_wp2_with fail
          refine (HFY.out).mono ?_
          rintro e v ⟨rfl, rfl⟩
          rw [show findI (some q) = (q : Int) from rfl]
          go_wp2
          go_roundw
          case rel => exact ⟨k + 1, n, p, by omega, rfl, rfl, by go_num, trivial, HE⟩
          case measure => simp [intOf]; omega
end Go.Proofs.YtmedaimndaaiiaaGreat

/- The landed tree behind a pointer: the nodes that it shows; what stays when only it is written. No condition. -/
namespace Go.Proofs.YtmedaimndaaiiaaGreat
open Go.RowKit Go.Deep

/-- The tree in block g shows the nodes l. -/
def TreeAt (w : World) (g : Nat) (l : List NodeV) : Prop := ∃ A c, w.rowIs g 74 1 (fun _ => .slice A l.length c) ∧ NodesC w A c l
theorem TreeAt.lt {w : World} {g : Nat} {l : List NodeV} (h : TreeAt w g l) : g < w.heap.size := by
  obtain ⟨_, _, h, _⟩ := h
  exact h.lt
theorem TreeAt.below {w w' : World} {g : Nat} {l : List NodeV} (h : TreeAt w g l) (hb : Below w.heap.size w w') : TreeAt w' g l := by
  obtain ⟨A, c, h, hn⟩ := h
  exact ⟨A, c, h.of_block (hb.block g h.lt), hn.below hb⟩
theorem TreeAt.drew {w : World} {g : Nat} {l : List NodeV} (h : TreeAt w g l) : TreeAt w.drew g l := by
  obtain ⟨A, c, h, hn⟩ := h
  exact ⟨A, c, h.drew, hn.drew⟩
theorem TreeAt.new {w : World} {A : Option Addr} {c : Nat} {l : List NodeV} (h : NodesC w A c l) {g : Nat} (hg : g = w.heap.size) : TreeAt (w.alloc (.cells #[.slice A l.length c] 74)) g l := by
  subst hg
  refine ⟨A, c, World.rowIs_alloc w #[.slice A l.length c] _ _ (fun i hi => ?_), h.below ((Below.refl _ _).alloc (Nat.le_refl _) _)⟩
  obtain rfl : i = 0 := by simpa using hi
  rfl
/-- Who holds cells of a first number lies not in the tree's own block. -/
theorem CellsAt.only {w w' : World} {g : Nat} {t : List NodeV} (h : TreeAt w g t) (ho : Only g w w') {A : Option Addr} {l : List Value} (hc : CellsAt w A l) (hl : ∀ v, l[0]? = some v → ∀ B n c, v ≠ .slice B n c) : CellsAt w' A l := by
  rcases hc with hc | ⟨b, off, rfl, hlt, hc⟩
  · exact .inl hc
  by_cases h0 : l = []
  · exact .inl h0
  obtain ⟨At, ct, hr, _⟩ := h
  have hne : b ≠ g := by
    intro e
    subst e
    obtain ⟨v, l', rfl⟩ := List.exists_cons_of_ne_nil h0
    have h1 := hc 0 v rfl
    obtain ⟨cs, hh, hsz, hv⟩ := hr
    rw [Nat.add_zero] at h1
    have h2 := cell_of_row w b off _ _ _ hh
    rw [h1] at h2
    rcases Nat.lt_or_ge off 1 with h3 | h3
    · obtain rfl : off = 0 := by omega
      rw [hv 0 (by omega)] at h2
      injection h2 with h2
      exact hl v rfl _ _ _ h2
    · rw [Array.getElem?_eq_none (by omega)] at h2
      cases h2
  refine .inr ⟨b, off, rfl, Nat.lt_of_lt_of_le hlt ho.size, fun j v hj => ?_⟩
  have := hc j v hj
  unfold World.cell? at this ⊢
  simp only [ho.block b hlt hne] at this ⊢
  exact this
theorem NodesAt.only {w w' : World} {g : Nat} {t : List NodeV} (h : TreeAt w g t) (ho : Only g w w') {A : Option Addr} {l : List NodeV} (hc : NodesAt w A l) : NodesAt w' A l := by
  refine CellsAt.only h ho hc fun v hv B n c e => ?_
  cases l with
  | nil => cases hv
  | cons y l =>
    rw [List.flatMap_cons] at hv
    injection hv with hv
    rw [e] at hv
    cases hv
theorem NodesC.only {w w' : World} {g : Nat} {t : List NodeV} (h : TreeAt w g t) (ho : Only g w w') {A : Option Addr} {c : Nat} {l : List NodeV} (hc : NodesC w A c l) : NodesC w' A c l := ⟨NodesAt.only h ho hc.1, hc.2⟩
/-- Another tree stays. -/
theorem TreeAt.other {w w' : World} {g k : Nat} {t l : List NodeV} (h : TreeAt w g t) (hk : TreeAt w k l) (hne : k ≠ g) (ho : Only g w w') : TreeAt w' k l := by
  obtain ⟨A, c, hr, hn⟩ := hk
  exact ⟨A, c, hr.of_block (ho.block k hr.lt hne), NodesC.only h ho hn⟩
/-- The tree's one cell is written. -/
theorem TreeAt.put {w : World} {g : Nat} {t l : List NodeV} (h : TreeAt w g t) {A : Option Addr} {c : Nat} (hn : NodesC w A c l) : TreeAt (w.setCell ⟨g, 0, none⟩ (.slice A l.length c)) g l := by
  have ho : Only g w (w.setCell ⟨g, 0, none⟩ (.slice A l.length c)) := (Only.refl g w).set 0 _
  obtain ⟨A0, c0, hr, h0⟩ := h
  refine ⟨A, c, (hr.set 0 _).congr (fun i hi => ?_), NodesC.only ⟨A0, c0, hr, h0⟩ ho hn⟩
  rw [if_pos (by omega)]
/-- A pointer to a tree, nil among them: nil has no nodes. -/
def TPtr (w : World) (p : Option Addr) (l : List NodeV) : Prop := (p = none ∧ l = []) ∨ ∃ g, p = some ⟨g, 0, none⟩ ∧ TreeAt w g l
theorem TPtr.below {w w' : World} {p : Option Addr} {l : List NodeV} (h : TPtr w p l) (hb : Below w.heap.size w w') : TPtr w' p l := by
  rcases h with h | ⟨g, rfl, h⟩
  · exact .inl h
  · exact .inr ⟨g, rfl, h.below hb⟩
theorem TreeAt.ptr {w : World} {g : Nat} {l : List NodeV} (h : TreeAt w g l) : TPtr w (some ⟨g, 0, none⟩) l := .inr ⟨g, rfl, h⟩
end Go.Proofs.YtmedaimndaaiiaaGreat

/- Slices of nodes, cut: l[:k], l[k:]. Condition: the places are within. -/
namespace Go.Proofs.YtmedaimndaaiiaaGreat
open Go.RowKit Go.Deep

theorem elem_nodes : Tryz.prog.elem 38 = 52 := by kernel_rfl
theorem size_nodes (w : World) : (sizeOf 52).run Tryz.prog w = .ok 5 w := Tryz.sizeOf52 w
/-- The place behind l[:k], l[k:]. -/
def nHigh (A : Option Addr) (c : Nat) : Option Addr := if c = 0 then A else A.map (·.add (0 * 5))
def nLow (A : Option Addr) (k c : Nat) : Option Addr := if c = k then A else A.map (·.add (k * 5))
theorem ncut_high (A : Option Addr) (n c k : Nat) (hk : k ≤ c) (w : World) : (Instr.slice 38 (.slice A n c) none (some (.int .i64 (k : Int))) none).run Tryz.prog w = .ok (.slice (nHigh A c) k c) w := by
  rw [run_slice_h (P := Tryz.prog) (w := w) 38 A n c (by rw [elem_nodes]; exact Tryz.underlying38) .i64 (k : Int) (by omega) (by omega), elem_nodes, size_nodes]
  simp [Result.andThen, sliced, nHigh]
theorem ncut_low (A : Option Addr) (n c k : Nat) (hk : k ≤ n) (w : World) : (Instr.slice 38 (.slice A n c) (some (.int .i64 (k : Int))) none none).run Tryz.prog w = .ok (.slice (nLow A k c) (n - k) (c - k)) w := by
  rw [run_slice_l (P := Tryz.prog) (w := w) 38 A n c (by rw [elem_nodes]; exact Tryz.underlying38) .i64 (k : Int) (by omega) (by omega), elem_nodes, size_nodes]
  simp [Result.andThen, sliced, nLow]
theorem flatMap_take (l : List NodeV) (k : Nat) : (l.take k).flatMap nodeCells = (l.flatMap nodeCells).take (k * 5) := by
  induction l generalizing k with
  | nil => simp
  | cons y l ih =>
    cases k with
    | zero => simp
    | succ k =>
      have e5 : (k + 1) * 5 = (nodeCells y).length + k * 5 := by
        rw [show (nodeCells y).length = 5 from rfl]
        omega
      rw [List.take_succ_cons, List.flatMap_cons, List.flatMap_cons, ih, e5, List.take_length_add_append]
theorem flatMap_drop (l : List NodeV) (k : Nat) : (l.drop k).flatMap nodeCells = (l.flatMap nodeCells).drop (k * 5) := by
  induction l generalizing k with
  | nil => simp
  | cons y l ih =>
    cases k with
    | zero => simp
    | succ k =>
      have e5 : (k + 1) * 5 = (nodeCells y).length + k * 5 := by
        rw [show (nodeCells y).length = 5 from rfl]
        omega
      rw [List.drop_succ_cons, List.flatMap_cons, ih, e5, List.drop_length_add_append]
theorem NodesAt.high {w : World} {A : Option Addr} {l : List NodeV} (h : NodesAt w A l) (c k : Nat) : NodesAt w (nHigh A c) (l.take k) := by
  have ht : NodesAt w A (l.take k) := by
    rcases h with h | ⟨b, off, rfl, hlt, hc⟩
    · left; rw [flatMap_take, h]; simp
    · right
      refine ⟨b, off, rfl, hlt, fun j v hj => hc j v ?_⟩
      rw [flatMap_take, List.getElem?_take] at hj
      split at hj
      · exact hj
      · cases hj
  unfold nHigh
  split
  · exact ht
  · rcases ht with h | ⟨b, off, rfl, hlt, hc⟩
    · exact .inl h
    · have e : (some (⟨b, off, none⟩ : Addr)).map (·.add (0 * 5)) = some ⟨b, off, none⟩ := rfl
      rw [e]
      exact .inr ⟨b, off, rfl, hlt, hc⟩
theorem NodesAt.low {w : World} {A : Option Addr} {l : List NodeV} (h : NodesAt w A l) (c k : Nat) (hc : l.length ≤ c) : NodesAt w (nLow A k c) (l.drop k) := by
  unfold nLow
  split
  · left; rw [List.drop_eq_nil_of_le (by omega)]; rfl
  · rcases h with h | ⟨b, off, rfl, hlt, hcc⟩
    · left; rw [flatMap_drop, h]; simp
    · have e : (some (⟨b, off, none⟩ : Addr)).map (·.add (k * 5)) = some ⟨b, off + k * 5, none⟩ := by
        show some ((⟨b, off, none⟩ : Addr).add (k * 5)) = _
        rw [Go.WideShapes.add_plain]
      rw [e]
      right
      refine ⟨b, off + k * 5, rfl, hlt, fun j v hj => ?_⟩
      rw [flatMap_drop, List.getElem?_drop] at hj
      rw [Nat.add_assoc]
      exact hcc _ v hj
attribute [irreducible] nHigh nLow
end Go.Proofs.YtmedaimndaaiiaaGreat
