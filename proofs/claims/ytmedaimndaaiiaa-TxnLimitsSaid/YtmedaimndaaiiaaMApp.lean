/- The document's own with: nodes, where one stands for what it was. Condition: no more than 2^20 nodes. (Merged of 4 texts.) -/
import Derived.Test.YtmedaimndaaiiaaMPt
import Derived.Test.YtmedaimndaaiiaaMOwn
import Derived.Deep.DeepAppendWide
import Derived.Laws.OwnMore
import Derived.Deep.AppendLies
import Derived.Test.YtmedaimndaaiiaaMCells
import Derived.Test.YtmedaimndaaiiaaMBase
/- append of nodes, any number, nil among them, onto a row of nodes of the call's own; a node written over; slices of nodes cut. Condition: no more than 2^40 nodes. -/
namespace Go.Proofs.Ytmedaimndaaiiaa
open Go.RowKit Go.Deep

theorem node_info : (Try.prog.info? 57).map (fun i => (i.zero, i.size, i.bytes)) = some (some (.agg #[.int .i64 0, .int .i64 0, .string { data := #[] }, .bool false, .string { data := #[] }]), 5, 56) := by kernel_rfl
/-- A row of nodes of the call's own, in blocks from B on. -/
def OwnN (w : World) (B : Nat) (A : Option Addr) (c : Nat) (l : List NodeV) : Prop := w.ownsRow B 57 5 (.slice A l.length c) l.length (l.flatMap nodeCells)
theorem node_one (l : List NodeV) : ∀ u ∈ l.flatMap nodeCells, u.oneCell' = true := by
  intro u hu
  obtain ⟨y, _, hy⟩ := List.mem_flatMap.1 hu
  simp [nodeCells] at hy
  rcases hy with rfl | rfl | rfl | rfl | rfl <;> rfl
theorem OwnN.nodes {w : World} {B c : Nat} {A : Option Addr} {l : List NodeV} (h : OwnN w B A c l) : NodesC w A c l := by
  refine ⟨CellsAt.of_own h, ?_⟩
  rcases h.2 with ⟨e, h0⟩ | ⟨g, cap, cur, e, _, _, hn, _⟩
  · omega
  · injection e with _ _ e
    omega
theorem OwnN.empty (w : World) {B : Nat} (h : B ≤ w.heap.size) : OwnN (w.alloc (.cells #[] 57)) B (some ⟨w.heap.size, 0, none⟩) 0 [] := World.ownsRow_lit w #[] 0 h (by simp [maxLen]) rfl
theorem OwnN.nil (w : World) (B : Nat) : OwnN w B none 0 [] := World.ownsRow_nil _ _ _ _
theorem OwnN.alloc {w : World} {B c : Nat} {A : Option Addr} {l : List NodeV} (h : OwnN w B A c l) (o : Obj) : OwnN (w.alloc o) B A c l := World.ownsRow.alloc h o
theorem OwnN.below {w w' : World} {B c : Nat} {A : Option Addr} {l : List NodeV} (h : OwnN w B A c l) (hb : Below w.heap.size w w') : OwnN w' B A c l := own_below h hb
theorem OwnN.drew {w : World} {B c : Nat} {A : Option Addr} {l : List NodeV} (h : OwnN w B A c l) : OwnN w.drew B A c l := h

theorem append_none_any {w : World} (base : Nat) (t ty e : TypeId) (i : TypeInfo) (size : Nat) (ht : Try.prog.underlying t = some (.slice e)) (hi : Try.prog.info? e = some i) (v : Value) (n : Nat) (xs : List Value) (c : Nat) (hown : w.ownsRow base e size v n xs) :
    (Builtin.append_ #[t, t] ty #[v, .slice none 0 c]).run Try.prog w = .ok v w := by
  rcases hown.2 with ⟨rfl, rfl⟩ | ⟨g, cap, cur, rfl, _, _, hnc, _⟩
  · simp [Builtin.append_, run_underlying ht, sizeOf, typeInfo, hi, Builtin.lenOf, Builtin.firstCells]
  · simp [Builtin.append_, run_underlying ht, sizeOf, typeInfo, hi, Builtin.lenOf, Builtin.firstCells, hnc, storeCells]
set_option maxRecDepth 100000 in
theorem run_nodes_lies {w : World} {B c0 : Nat} {A0 : Option Addr} {out : List NodeV} (hown : OwnN w B A0 c0 out) (hB : B ≤ w.heap.size) {A : Option Addr} {m : List NodeV} (c : Nat) (hA : NodesAt w A m) (hlen : out.length + m.length ≤ 1099511627776) (ty : TypeId) :
    ∃ A' c' w', (Builtin.append_ #[38, 38] ty #[.slice A0 out.length c0, .slice A m.length c]).run Try.prog w = .ok (.slice A' (out ++ m).length c') w' ∧ OwnN w' B A' c' (out ++ m) ∧ Below B w w' ∧ ∀ (g : Nat) (l : List NodeV), g < w.heap.size → (∀ b, A0 = some b → b.block ≠ g) → NodesAt w (some ⟨g, 0, none⟩) l → NodesAt w' (some ⟨g, 0, none⟩) l := by
  obtain ⟨i0, hi0, hz0, hz1, hz2⟩ := info_parts node_info
  cases A with
  | none =>
    have hm : m = [] := by
      cases m with
      | nil => rfl
      | cons y m =>
        obtain ⟨b, off, e, _⟩ := hA.form (by simp)
        cases e
    subst hm
    refine ⟨A0, c0, w, ?_, ?_, Below.refl _ _, fun _ _ _ _ h => h⟩
    · rw [List.append_nil]
      exact append_none_any B _ ty _ i0 5 Try.underlying38 hi0 _ _ _ c hown
    · rw [List.append_nil]
      exact hown
  | some ad =>
    obtain ⟨v', w', hr, h2, h3, _⟩ := run_append_own_wide (P := Try.prog) w B 38 ty 57 i0 (.agg #[.int .i64 0, .int .i64 0, .string { data := #[] }, .bool false, .string { data := #[] }]) 5 56 Try.underlying38 hi0 hz0 hz1 hz2 rfl (by omega)
      _ out.length (out.flatMap nodeCells) hown ad m.length c (m.flatMap nodeCells) (flat_length nodeCells 5 nodeCells_length m) (fun j u hu => by
        rcases hA with h0 | ⟨b, off, e, _, hc⟩
        · rw [h0] at hu; cases hu
        · injection e with e
          subst e
          rw [Go.WideShapes.add_plain]
          exact hc j u hu) (node_one m) (by simp only [maxLen]; omega) (by omega) hB
    have e : out.flatMap nodeCells ++ m.flatMap nodeCells = (out ++ m).flatMap nodeCells := List.flatMap_append.symm
    rw [e, ← List.length_append] at h2
    obtain ⟨A', c', rfl⟩ := own_slice h2
    refine ⟨A', c', w', hr, h2, (Below.refl B w).grown h3 hB (fun k hk => (hown.lt k hk).1), fun g l hg hne h => ?_⟩
    rcases h with h | ⟨b, off, e, hlt, hc⟩
    · exact .inl h
    · injection e with e
      injection e with e1 e2
      subst e1 e2
      refine .inr ⟨g, 0, rfl, Nat.lt_of_lt_of_le hlt h3.size, fun j v hj => (h3.cell_far ⟨g, 0 + j, none⟩ hlt ?_).trans (hc j v hj)⟩
      cases A0 with
      | none => intro e; cases e
      | some a =>
        intro e
        injection e with e
        exact hne a rfl e.symm
theorem run_nodes_app {w : World} {B c0 : Nat} {A0 : Option Addr} {out : List NodeV} (hown : OwnN w B A0 c0 out) (hB : B ≤ w.heap.size) {A : Option Addr} {m : List NodeV} (c : Nat) (hA : NodesAt w A m) (hlen : out.length + m.length ≤ 1099511627776) (ty : TypeId) :
    ∃ A' c' w', (Builtin.append_ #[38, 38] ty #[.slice A0 out.length c0, .slice A m.length c]).run Try.prog w = .ok (.slice A' (out ++ m).length c') w' ∧ OwnN w' B A' c' (out ++ m) ∧ Below B w w' := by
  obtain ⟨A', c', w', h1, h2, h3, _⟩ := run_nodes_lies hown hB c hA hlen ty
  exact ⟨A', c', w', h1, h2, h3⟩
theorem wp_nodes_app {w : World} {o : Oper} {a : Act} {K : Act → World → Prop} {Q : Exit → Act → World → Prop} (s x : Operand)
    (ho : o.op = .call { callee := .builtin .append, args := #[s, x], argTypes := #[38, 38] })
    {B c0 : Nat} {A0 : Option Addr} {out : List NodeV} (hown : OwnN w B A0 c0 out) (hB : B ≤ w.heap.size) {A : Option Addr} {m : List NodeV} (c : Nat) (hA : NodesAt w A m) (hlen : out.length + m.length ≤ 1099511627776)
    (hs : a.eval s = .slice A0 out.length c0) (hx : a.eval x = .slice A m.length c)
    (hK : ∀ A' c' w', OwnN w' B A' c' (out ++ m) → Below B w w' → K (a.put o.dst (.slice A' (out ++ m).length c')) w') : o.wp Try.prog a w K Q := by
  obtain ⟨A', c', w', hrun, h1, h2⟩ := run_nodes_app hown hB c hA hlen o.type
  unfold Oper.wp execOp
  simp only [ho, resolve, invoke, builtin, Sem.run_bind, Sem.run_pure, Result.andThen_ok, List.map_toArray, List.map_cons, List.map_nil, hs, hx, hrun]
  exact hK A' c' w' h1 h2
theorem wp_nodes_lies {w : World} {o : Oper} {a : Act} {K : Act → World → Prop} {Q : Exit → Act → World → Prop} (s x : Operand)
    (ho : o.op = .call { callee := .builtin .append, args := #[s, x], argTypes := #[38, 38] })
    {B c0 : Nat} {A0 : Option Addr} {out : List NodeV} (hown : OwnN w B A0 c0 out) (hB : B ≤ w.heap.size) {A : Option Addr} {m : List NodeV} (c : Nat) (hA : NodesAt w A m) (hlen : out.length + m.length ≤ 1099511627776)
    (hs : a.eval s = .slice A0 out.length c0) (hx : a.eval x = .slice A m.length c)
    (hK : ∀ A' c' w', OwnN w' B A' c' (out ++ m) → Below B w w' → (∀ (g : Nat) (l : List NodeV), g < w.heap.size → (∀ b, A0 = some b → b.block ≠ g) → NodesAt w (some ⟨g, 0, none⟩) l → NodesAt w' (some ⟨g, 0, none⟩) l) → K (a.put o.dst (.slice A' (out ++ m).length c')) w') : o.wp Try.prog a w K Q := by
  obtain ⟨A', c', w', hrun, h1, h2, h3⟩ := run_nodes_lies hown hB c hA hlen o.type
  unfold Oper.wp execOp
  simp only [ho, resolve, invoke, builtin, Sem.run_bind, Sem.run_pure, Result.andThen_ok, List.map_toArray, List.map_cons, List.map_nil, hs, hx, hrun]
  exact hK A' c' w' h1 h2 h3
theorem wpList_nodes_app {w : World} {ops : Array Oper} {rest : List Oper} {o : Oper} {a : Act} {Q : Exit → Act → World → Prop} (hgd : o.guard = none) (s x : Operand)
    (ho : o.op = .call { callee := .builtin .append, args := #[s, x], argTypes := #[38, 38] })
    {B c0 : Nat} {A0 : Option Addr} {out : List NodeV} (hown : OwnN w B A0 c0 out) (hB : B ≤ w.heap.size) {A : Option Addr} {m : List NodeV} (c : Nat) (hA : NodesAt w A m) (hlen : out.length + m.length ≤ 1099511627776)
    (hs : a.eval s = .slice A0 out.length c0) (hx : a.eval x = .slice A m.length c)
    (h : ∀ A' c' w', OwnN w' B A' c' (out ++ m) → Below B w w' → wpList Try.prog ops Q rest (a.put o.dst (.slice A' (out ++ m).length c')) w') : wpList Try.prog ops Q (o :: rest) a w :=
  wpList_plain hgd fun _ hK => wp_nodes_app s x ho hown hB c hA hlen hs hx fun A' c' w' h1 h2 => hK _ _ (h A' c' w' h1 h2)

/-- A node that was just laid. -/
theorem node_lit (x : World) (n : NodeV) (g : Nat) (hg : g = x.heap.size) : NodesAt (x.alloc (.cells (nodeCells n).toArray 57)) (some ⟨g, 0, none⟩) [n] := by
  subst hg
  refine .inr ⟨_, 0, rfl, by simp, fun j v hj => ?_⟩
  rw [cell_of_row _ _ _ _ _ _ (heap_alloc_new x _)]
  simpa using hj

/-! ### A node written over -/
theorem set_cells {l : List NodeV} {k : Nat} (hk : k < l.length) (y : NodeV) :
    (((((l.flatMap nodeCells).set (k * 5) (.int .i64 y.id)).set (k * 5 + 1) (.int .i64 y.parent)).set (k * 5 + 2) (.string (bstr y.name))).set (k * 5 + 3) (.bool y.dir)).set (k * 5 + 4) (.string (bstr y.text)) = (l.set k y).flatMap nodeCells := by
  have hl : (l.flatMap nodeCells).length = l.length * 5 := flat_length nodeCells 5 nodeCells_length l
  have hl2 : ((l.set k y).flatMap nodeCells).length = l.length * 5 := by rw [flat_length nodeCells 5 nodeCells_length, List.length_set]
  apply List.ext_getElem?
  intro j
  by_cases hj : j < l.length * 5
  · obtain ⟨i, f, hf, rfl⟩ : ∃ i f, f < 5 ∧ j = i * 5 + f := ⟨j / 5, j % 5, Nat.mod_lt _ (by omega), by omega⟩
    have hi : i < l.length := by omega
    have hi2 : i < (l.set k y).length := by rw [List.length_set]; exact hi
    rw [flat_get nodeCells 5 nodeCells_length (l.set k y) i hi2 f hf]
    by_cases hik : i = k
    · subst hik
      rw [List.getElem_set_self]
      match f, hf with
      | 0, _ => simp only [List.getElem?_set, List.length_set, hl]; simp [nodeCells]; omega
      | 1, _ => simp only [List.getElem?_set, List.length_set, hl]; simp [nodeCells]; omega
      | 2, _ => simp only [List.getElem?_set, List.length_set, hl]; simp [nodeCells]; omega
      | 3, _ => simp only [List.getElem?_set, List.length_set, hl]; simp [nodeCells]; omega
      | 4, _ => simp only [List.getElem?_set, List.length_set, hl]; simp [nodeCells]; omega
    · rw [List.getElem_set_ne (fun e => hik e.symm)]
      rw [List.getElem?_set_ne (by omega), List.getElem?_set_ne (by omega), List.getElem?_set_ne (by omega), List.getElem?_set_ne (by omega), List.getElem?_set_ne (by omega), flat_get nodeCells 5 nodeCells_length l i hi f hf]
  · rw [List.getElem?_eq_none (by simp only [List.length_set, hl]; omega), List.getElem?_eq_none (by rw [hl2]; omega)]
/-- The world behind the store of a node. -/
def putNode (w : World) (g off : Nat) (y : NodeV) : World :=
  ((((w.setCell ⟨g, off, none⟩ (.int .i64 y.id)).setCell ⟨g, off + 1, none⟩ (.int .i64 y.parent)).setCell ⟨g, off + 2, none⟩ (.string (bstr y.name))).setCell ⟨g, off + 3, none⟩ (.bool y.dir)).setCell ⟨g, off + 4, none⟩ (.string (bstr y.text))
theorem OwnN.put {w : World} {B g n c : Nat} {l : List NodeV} (h : w.ownsRow B 57 5 (.slice (some ⟨g, 0, none⟩) n c) n (l.flatMap nodeCells)) (hn : n = l.length) {k : Nat} (hk : k < l.length) (y : NodeV) :
    OwnN (putNode w g (k * 5) y) B (some ⟨g, 0, none⟩) c (l.set k y) := by
  subst hn
  have h5 := ((((h.stored (k * 5) (.int .i64 y.id)).1.stored (k * 5 + 1) (.int .i64 y.parent)).1.stored (k * 5 + 2) (.string (bstr y.name))).1.stored (k * 5 + 3) (.bool y.dir)).1.stored (k * 5 + 4) (.string (bstr y.text))
  rw [set_cells hk y] at h5
  unfold OwnN putNode
  rw [List.length_set]
  exact h5.1
end Go.Proofs.Ytmedaimndaaiiaa

/- Rows of strs of the call's own: append, cut. Condition: no more than 2^40 of them. -/
namespace Go.Proofs.Ytmedaimndaaiiaa
open Go.RowKit Go.Deep

def strCells (y : List Nat) : List Value := [.string (bstr y)]
theorem strCells_length (y : List Nat) : (strCells y).length = 1 := rfl
def TextsAt (w : World) (A : Option Addr) (l : List (List Nat)) : Prop := CellsAt w A (l.flatMap strCells)
theorem TextsAt.below {w w' : World} {A : Option Addr} {l : List (List Nat)} (h : TextsAt w A l) (hb : Below w.heap.size w w') : TextsAt w' A l := CellsAt.below h hb
theorem TextsAt.drew {w : World} {A : Option Addr} {l : List (List Nat)} (h : TextsAt w A l) : TextsAt w.drew A l := CellsAt.drew h
theorem TextsAt.form {w : World} {A : Option Addr} {l : List (List Nat)} (h : TextsAt w A l) (h0 : 0 < l.length) : ∃ b off, A = some ⟨b, off, none⟩ ∧ b < w.heap.size :=
  CellsAt.form h (by intro e; have h1 := flat_length strCells 1 strCells_length l; rw [e, List.length_nil] at h1; omega)
theorem TextsAt.get {w : World} {b off : Nat} {l : List (List Nat)} (h : TextsAt w (some ⟨b, off, none⟩) l) {i : Nat} (hi : i < l.length) : w.cell? ⟨b, off + i, none⟩ = some (.string (bstr l[i])) := by
  have := CellsAt.cell h (j := i * 1 + 0) (by rw [flat_get strCells 1 strCells_length l i hi 0 (by omega)]; rfl)
  simpa using this
theorem str_inf : (Try.prog.info? 9).map (fun i => (i.zero, i.size, i.bytes)) = some (some (.string { data := #[] }), 1, 16) := by kernel_rfl
/-- A row of nodes of the call's own, in blocks from B on. -/
def OwnS (w : World) (B : Nat) (A : Option Addr) (c : Nat) (l : List (List Nat)) : Prop := w.ownsRow B 9 1 (.slice A l.length c) l.length (l.flatMap strCells)
theorem str_one (l : List (List Nat)) : ∀ u ∈ l.flatMap strCells, u.oneCell' = true := by
  intro u hu
  obtain ⟨y, _, hy⟩ := List.mem_flatMap.1 hu
  simp [strCells] at hy
  subst hy
  rfl
theorem OwnS.at_ {w : World} {B c : Nat} {A : Option Addr} {l : List (List Nat)} (h : OwnS w B A c l) : TextsAt w A l := CellsAt.of_own h
theorem OwnS.cap {w : World} {B c : Nat} {A : Option Addr} {l : List (List Nat)} (h : OwnS w B A c l) : l.length ≤ c := by
  rcases h.2 with ⟨e, h0⟩ | ⟨g, cap, cur, e, _, _, hn, _⟩
  · omega
  · injection e with _ _ e
    omega
theorem OwnS.empty (w : World) {B : Nat} (h : B ≤ w.heap.size) : OwnS (w.alloc (.cells #[] 9)) B (some ⟨w.heap.size, 0, none⟩) 0 [] := World.ownsRow_lit w #[] 0 h (by simp [maxLen]) rfl
theorem OwnS.nil (w : World) (B : Nat) : OwnS w B none 0 [] := World.ownsRow_nil _ _ _ _
theorem OwnS.alloc {w : World} {B c : Nat} {A : Option Addr} {l : List (List Nat)} (h : OwnS w B A c l) (o : Obj) : OwnS (w.alloc o) B A c l := World.ownsRow.alloc h o
theorem OwnS.below {w w' : World} {B c : Nat} {A : Option Addr} {l : List (List Nat)} (h : OwnS w B A c l) (hb : Below w.heap.size w w') : OwnS w' B A c l := own_below h hb
theorem OwnS.drew {w : World} {B c : Nat} {A : Option Addr} {l : List (List Nat)} (h : OwnS w B A c l) : OwnS w.drew B A c l := h

theorem append_none_str {w : World} (base : Nat) (t ty e : TypeId) (i : TypeInfo) (size : Nat) (ht : Try.prog.underlying t = some (.slice e)) (hi : Try.prog.info? e = some i) (v : Value) (n : Nat) (xs : List Value) (c : Nat) (hown : w.ownsRow base e size v n xs) :
    (Builtin.append_ #[t, t] ty #[v, .slice none 0 c]).run Try.prog w = .ok v w := by
  rcases hown.2 with ⟨rfl, rfl⟩ | ⟨g, cap, cur, rfl, _, _, hnc, _⟩
  · simp [Builtin.append_, run_underlying ht, sizeOf, typeInfo, hi, Builtin.lenOf, Builtin.firstCells]
  · simp [Builtin.append_, run_underlying ht, sizeOf, typeInfo, hi, Builtin.lenOf, Builtin.firstCells, hnc, storeCells]
/-- A node that was just laid. -/
theorem str_lit (x : World) (n : List Nat) (g : Nat) (hg : g = x.heap.size) : TextsAt (x.alloc (.cells (strCells n).toArray 9)) (some ⟨g, 0, none⟩) [n] := by
  subst hg
  refine .inr ⟨_, 0, rfl, by simp, fun j v hj => ?_⟩
  rw [cell_of_row _ _ _ _ _ _ (heap_alloc_new x _)]
  simpa using hj

/-! ### Cut -/
theorem size_strs (w : World) : (sizeOf 9).run Try.prog w = .ok 1 w := Try.sizeOf9 w
/-- The place behind l[:k], l[k:]. -/
def strHigh (A : Option Addr) (c : Nat) : Option Addr := if c = 0 then A else A.map (·.add (0 * 1))
def strLow (A : Option Addr) (k c : Nat) : Option Addr := if c = k then A else A.map (·.add (k * 1))
theorem strMap_take (l : List (List Nat)) (k : Nat) : (l.take k).flatMap strCells = (l.flatMap strCells).take (k * 1) := by
  induction l generalizing k with
  | nil => simp
  | cons y l ih =>
    cases k with
    | zero => simp
    | succ k =>
      have e5 : (k + 1) * 1 = (strCells y).length + k * 1 := by
        rw [show (strCells y).length = 1 from rfl]
        omega
      rw [List.take_succ_cons, List.flatMap_cons, List.flatMap_cons, ih, e5, List.take_length_add_append]
theorem strMap_drop (l : List (List Nat)) (k : Nat) : (l.drop k).flatMap strCells = (l.flatMap strCells).drop (k * 1) := by
  induction l generalizing k with
  | nil => simp
  | cons y l ih =>
    cases k with
    | zero => simp
    | succ k =>
      have e5 : (k + 1) * 1 = (strCells y).length + k * 1 := by
        rw [show (strCells y).length = 1 from rfl]
        omega
      rw [List.drop_succ_cons, List.flatMap_cons, ih, e5, List.drop_length_add_append]
theorem TextsAt.high {w : World} {A : Option Addr} {l : List (List Nat)} (h : TextsAt w A l) (c k : Nat) : TextsAt w (strHigh A c) (l.take k) := by
  have ht : TextsAt w A (l.take k) := by
    rcases h with h | ⟨b, off, rfl, hlt, hc⟩
    · left; rw [strMap_take, h]; simp
    · right
      refine ⟨b, off, rfl, hlt, fun j v hj => hc j v ?_⟩
      rw [strMap_take, List.getElem?_take] at hj
      split at hj
      · exact hj
      · cases hj
  unfold strHigh
  split
  · exact ht
  · rcases ht with h | ⟨b, off, rfl, hlt, hc⟩
    · exact .inl h
    · have e : (some (⟨b, off, none⟩ : Addr)).map (·.add (0 * 1)) = some ⟨b, off, none⟩ := rfl
      rw [e]
      exact .inr ⟨b, off, rfl, hlt, hc⟩
theorem TextsAt.low {w : World} {A : Option Addr} {l : List (List Nat)} (h : TextsAt w A l) (c k : Nat) (hc : l.length ≤ c) : TextsAt w (strLow A k c) (l.drop k) := by
  unfold strLow
  split
  · left; rw [List.drop_eq_nil_of_le (by omega)]; rfl
  · rcases h with h | ⟨b, off, rfl, hlt, hcc⟩
    · left; rw [strMap_drop, h]; simp
    · have e : (some (⟨b, off, none⟩ : Addr)).map (·.add (k * 1)) = some ⟨b, off + k * 1, none⟩ := by
        show some ((⟨b, off, none⟩ : Addr).add (k * 1)) = _
        rw [Go.WideShapes.add_plain]
      rw [e]
      right
      refine ⟨b, off + k * 1, rfl, hlt, fun j v hj => ?_⟩
      rw [strMap_drop, List.getElem?_drop] at hj
      rw [Nat.add_assoc]
      exact hcc _ v hj
attribute [irreducible] strHigh strLow
end Go.Proofs.Ytmedaimndaaiiaa

/- Rows of ints of the call's own: append, cut. Condition: no more than 2^40 of them. -/
namespace Go.Proofs.Ytmedaimndaaiiaa
open Go.RowKit Go.Deep

def intCells (y : Int) : List Value := [.int .i64 y]
theorem intCells_length (y : Int) : (intCells y).length = 1 := rfl
def NumsAt (w : World) (A : Option Addr) (l : List (Int)) : Prop := CellsAt w A (l.flatMap intCells)
theorem NumsAt.below {w w' : World} {A : Option Addr} {l : List (Int)} (h : NumsAt w A l) (hb : Below w.heap.size w w') : NumsAt w' A l := CellsAt.below h hb
theorem NumsAt.drew {w : World} {A : Option Addr} {l : List (Int)} (h : NumsAt w A l) : NumsAt w.drew A l := CellsAt.drew h
theorem NumsAt.form {w : World} {A : Option Addr} {l : List (Int)} (h : NumsAt w A l) (h0 : 0 < l.length) : ∃ b off, A = some ⟨b, off, none⟩ ∧ b < w.heap.size :=
  CellsAt.form h (by intro e; have h1 := flat_length intCells 1 intCells_length l; rw [e, List.length_nil] at h1; omega)
theorem NumsAt.get {w : World} {b off : Nat} {l : List (Int)} (h : NumsAt w (some ⟨b, off, none⟩) l) {i : Nat} (hi : i < l.length) : w.cell? ⟨b, off + i, none⟩ = some (.int .i64 l[i]) := by
  have := CellsAt.cell h (j := i * 1 + 0) (by rw [flat_get intCells 1 intCells_length l i hi 0 (by omega)]; rfl)
  simpa using this
theorem num_inf : (Try.prog.info? 3).map (fun i => (i.zero, i.size, i.bytes)) = some (some (.int .i64 0), 1, 8) := by kernel_rfl
/-- A row of nodes of the call's own, in blocks from B on. -/
def OwnK (w : World) (B : Nat) (A : Option Addr) (c : Nat) (l : List (Int)) : Prop := w.ownsRow B 3 1 (.slice A l.length c) l.length (l.flatMap intCells)
theorem num_one (l : List (Int)) : ∀ u ∈ l.flatMap intCells, u.oneCell' = true := by
  intro u hu
  obtain ⟨y, _, hy⟩ := List.mem_flatMap.1 hu
  simp [intCells] at hy
  subst hy
  rfl
theorem OwnK.at_ {w : World} {B c : Nat} {A : Option Addr} {l : List (Int)} (h : OwnK w B A c l) : NumsAt w A l := CellsAt.of_own h
theorem OwnK.cap {w : World} {B c : Nat} {A : Option Addr} {l : List (Int)} (h : OwnK w B A c l) : l.length ≤ c := by
  rcases h.2 with ⟨e, h0⟩ | ⟨g, cap, cur, e, _, _, hn, _⟩
  · omega
  · injection e with _ _ e
    omega
theorem OwnK.empty (w : World) {B : Nat} (h : B ≤ w.heap.size) : OwnK (w.alloc (.cells #[] 3)) B (some ⟨w.heap.size, 0, none⟩) 0 [] := World.ownsRow_lit w #[] 0 h (by simp [maxLen]) rfl
theorem OwnK.nil (w : World) (B : Nat) : OwnK w B none 0 [] := World.ownsRow_nil _ _ _ _
theorem OwnK.alloc {w : World} {B c : Nat} {A : Option Addr} {l : List (Int)} (h : OwnK w B A c l) (o : Obj) : OwnK (w.alloc o) B A c l := World.ownsRow.alloc h o
theorem OwnK.below {w w' : World} {B c : Nat} {A : Option Addr} {l : List (Int)} (h : OwnK w B A c l) (hb : Below w.heap.size w w') : OwnK w' B A c l := own_below h hb
theorem OwnK.drew {w : World} {B c : Nat} {A : Option Addr} {l : List (Int)} (h : OwnK w B A c l) : OwnK w.drew B A c l := h

theorem append_none_num {w : World} (base : Nat) (t ty e : TypeId) (i : TypeInfo) (size : Nat) (ht : Try.prog.underlying t = some (.slice e)) (hi : Try.prog.info? e = some i) (v : Value) (n : Nat) (xs : List Value) (c : Nat) (hown : w.ownsRow base e size v n xs) :
    (Builtin.append_ #[t, t] ty #[v, .slice none 0 c]).run Try.prog w = .ok v w := by
  rcases hown.2 with ⟨rfl, rfl⟩ | ⟨g, cap, cur, rfl, _, _, hnc, _⟩
  · simp [Builtin.append_, run_underlying ht, sizeOf, typeInfo, hi, Builtin.lenOf, Builtin.firstCells]
  · simp [Builtin.append_, run_underlying ht, sizeOf, typeInfo, hi, Builtin.lenOf, Builtin.firstCells, hnc, storeCells]
set_option maxRecDepth 100000 in
theorem run_nums_lies {w : World} {B c0 : Nat} {A0 : Option Addr} {out : List (Int)} (hown : OwnK w B A0 c0 out) (hB : B ≤ w.heap.size) {A : Option Addr} {m : List (Int)} (c : Nat) (hA : NumsAt w A m) (hlen : out.length + m.length ≤ 1099511627776) (ty : TypeId) :
    ∃ A' c' w', (Builtin.append_ #[71, 71] ty #[.slice A0 out.length c0, .slice A m.length c]).run Try.prog w = .ok (.slice A' (out ++ m).length c') w' ∧ OwnK w' B A' c' (out ++ m) ∧ Below B w w' ∧ ∀ (g : Nat) (l : List (Int)), g < w.heap.size → (∀ b, A0 = some b → b.block ≠ g) → NumsAt w (some ⟨g, 0, none⟩) l → NumsAt w' (some ⟨g, 0, none⟩) l := by
  obtain ⟨i0, hi0, hz0, hz1, hz2⟩ := info_parts num_inf
  cases A with
  | none =>
    have hm : m = [] := by
      cases m with
      | nil => rfl
      | cons y m =>
        obtain ⟨b, off, e, _⟩ := hA.form (by simp)
        cases e
    subst hm
    refine ⟨A0, c0, w, ?_, ?_, Below.refl _ _, fun _ _ _ _ h => h⟩
    · rw [List.append_nil]
      exact append_none_num B _ ty _ i0 1 Try.underlying71 hi0 _ _ _ c hown
    · rw [List.append_nil]
      exact hown
  | some ad =>
    obtain ⟨v', w', hr, h2, h3, _⟩ := run_append_own_wide (P := Try.prog) w B 71 ty 3 i0 (.int .i64 0) 1 8 Try.underlying71 hi0 hz0 hz1 hz2 rfl (by omega)
      _ out.length (out.flatMap intCells) hown ad m.length c (m.flatMap intCells) (flat_length intCells 1 intCells_length m) (fun j u hu => by
        rcases hA with h0 | ⟨b, off, e, _, hc⟩
        · rw [h0] at hu; cases hu
        · injection e with e
          subst e
          rw [Go.WideShapes.add_plain]
          exact hc j u hu) (num_one m) (by simp only [maxLen]; omega) (by omega) hB
    have e : out.flatMap intCells ++ m.flatMap intCells = (out ++ m).flatMap intCells := List.flatMap_append.symm
    rw [e, ← List.length_append] at h2
    obtain ⟨A', c', rfl⟩ := own_slice h2
    refine ⟨A', c', w', hr, h2, (Below.refl B w).grown h3 hB (fun k hk => (hown.lt k hk).1), fun g l hg hne h => ?_⟩
    rcases h with h | ⟨b, off, e, hlt, hc⟩
    · exact .inl h
    · injection e with e
      injection e with e1 e2
      subst e1 e2
      refine .inr ⟨g, 0, rfl, Nat.lt_of_lt_of_le hlt h3.size, fun j v hj => (h3.cell_far ⟨g, 0 + j, none⟩ hlt ?_).trans (hc j v hj)⟩
      cases A0 with
      | none => intro e; cases e
      | some a =>
        intro e
        injection e with e
        exact hne a rfl e.symm
theorem run_nums_app {w : World} {B c0 : Nat} {A0 : Option Addr} {out : List (Int)} (hown : OwnK w B A0 c0 out) (hB : B ≤ w.heap.size) {A : Option Addr} {m : List (Int)} (c : Nat) (hA : NumsAt w A m) (hlen : out.length + m.length ≤ 1099511627776) (ty : TypeId) :
    ∃ A' c' w', (Builtin.append_ #[71, 71] ty #[.slice A0 out.length c0, .slice A m.length c]).run Try.prog w = .ok (.slice A' (out ++ m).length c') w' ∧ OwnK w' B A' c' (out ++ m) ∧ Below B w w' := by
  obtain ⟨A', c', w', h1, h2, h3, _⟩ := run_nums_lies hown hB c hA hlen ty
  exact ⟨A', c', w', h1, h2, h3⟩
theorem wp_nums_app {w : World} {o : Oper} {a : Act} {K : Act → World → Prop} {Q : Exit → Act → World → Prop} (s x : Operand)
    (ho : o.op = .call { callee := .builtin .append, args := #[s, x], argTypes := #[71, 71] })
    {B c0 : Nat} {A0 : Option Addr} {out : List (Int)} (hown : OwnK w B A0 c0 out) (hB : B ≤ w.heap.size) {A : Option Addr} {m : List (Int)} (c : Nat) (hA : NumsAt w A m) (hlen : out.length + m.length ≤ 1099511627776)
    (hs : a.eval s = .slice A0 out.length c0) (hx : a.eval x = .slice A m.length c)
    (hK : ∀ A' c' w', OwnK w' B A' c' (out ++ m) → Below B w w' → K (a.put o.dst (.slice A' (out ++ m).length c')) w') : o.wp Try.prog a w K Q := by
  obtain ⟨A', c', w', hrun, h1, h2⟩ := run_nums_app hown hB c hA hlen o.type
  unfold Oper.wp execOp
  simp only [ho, resolve, invoke, builtin, Sem.run_bind, Sem.run_pure, Result.andThen_ok, List.map_toArray, List.map_cons, List.map_nil, hs, hx, hrun]
  exact hK A' c' w' h1 h2
theorem wp_nums_lies {w : World} {o : Oper} {a : Act} {K : Act → World → Prop} {Q : Exit → Act → World → Prop} (s x : Operand)
    (ho : o.op = .call { callee := .builtin .append, args := #[s, x], argTypes := #[71, 71] })
    {B c0 : Nat} {A0 : Option Addr} {out : List (Int)} (hown : OwnK w B A0 c0 out) (hB : B ≤ w.heap.size) {A : Option Addr} {m : List (Int)} (c : Nat) (hA : NumsAt w A m) (hlen : out.length + m.length ≤ 1099511627776)
    (hs : a.eval s = .slice A0 out.length c0) (hx : a.eval x = .slice A m.length c)
    (hK : ∀ A' c' w', OwnK w' B A' c' (out ++ m) → Below B w w' → (∀ (g : Nat) (l : List (Int)), g < w.heap.size → (∀ b, A0 = some b → b.block ≠ g) → NumsAt w (some ⟨g, 0, none⟩) l → NumsAt w' (some ⟨g, 0, none⟩) l) → K (a.put o.dst (.slice A' (out ++ m).length c')) w') : o.wp Try.prog a w K Q := by
  obtain ⟨A', c', w', hrun, h1, h2, h3⟩ := run_nums_lies hown hB c hA hlen o.type
  unfold Oper.wp execOp
  simp only [ho, resolve, invoke, builtin, Sem.run_bind, Sem.run_pure, Result.andThen_ok, List.map_toArray, List.map_cons, List.map_nil, hs, hx, hrun]
  exact hK A' c' w' h1 h2 h3
theorem wpList_nums_app {w : World} {ops : Array Oper} {rest : List Oper} {o : Oper} {a : Act} {Q : Exit → Act → World → Prop} (hgd : o.guard = none) (s x : Operand)
    (ho : o.op = .call { callee := .builtin .append, args := #[s, x], argTypes := #[71, 71] })
    {B c0 : Nat} {A0 : Option Addr} {out : List (Int)} (hown : OwnK w B A0 c0 out) (hB : B ≤ w.heap.size) {A : Option Addr} {m : List (Int)} (c : Nat) (hA : NumsAt w A m) (hlen : out.length + m.length ≤ 1099511627776)
    (hs : a.eval s = .slice A0 out.length c0) (hx : a.eval x = .slice A m.length c)
    (h : ∀ A' c' w', OwnK w' B A' c' (out ++ m) → Below B w w' → wpList Try.prog ops Q rest (a.put o.dst (.slice A' (out ++ m).length c')) w') : wpList Try.prog ops Q (o :: rest) a w :=
  wpList_plain hgd fun _ hK => wp_nums_app s x ho hown hB c hA hlen hs hx fun A' c' w' h1 h2 => hK _ _ (h A' c' w' h1 h2)

/-- A node that was just laid. -/
theorem num_lit (x : World) (n : Int) (g : Nat) (hg : g = x.heap.size) : NumsAt (x.alloc (.cells (intCells n).toArray 3)) (some ⟨g, 0, none⟩) [n] := by
  subst hg
  refine .inr ⟨_, 0, rfl, by simp, fun j v hj => ?_⟩
  rw [cell_of_row _ _ _ _ _ _ (heap_alloc_new x _)]
  simpa using hj

/-! ### Cut -/
theorem elem_nums : Try.prog.elem 71 = 3 := by kernel_rfl
theorem size_nums (w : World) : (sizeOf 3).run Try.prog w = .ok 1 w := Try.sizeOf3 w
/-- The place behind l[:k], l[k:]. -/
def numHigh (A : Option Addr) (c : Nat) : Option Addr := if c = 0 then A else A.map (·.add (0 * 1))
def numLow (A : Option Addr) (k c : Nat) : Option Addr := if c = k then A else A.map (·.add (k * 1))
theorem numcut_high (A : Option Addr) (n c k : Nat) (hk : k ≤ c) (w : World) : (Instr.slice 71 (.slice A n c) none (some (.int .i64 (k : Int))) none).run Try.prog w = .ok (.slice (numHigh A c) k c) w := by
  rw [run_slice_h (P := Try.prog) (w := w) 71 A n c (by rw [elem_nums]; exact Try.underlying71) .i64 (k : Int) (by omega) (by omega), elem_nums, size_nums]
  simp [Result.andThen, sliced, numHigh]
theorem numcut_low (A : Option Addr) (n c k : Nat) (hk : k ≤ n) (w : World) : (Instr.slice 71 (.slice A n c) (some (.int .i64 (k : Int))) none none).run Try.prog w = .ok (.slice (numLow A k c) (n - k) (c - k)) w := by
  rw [run_slice_l (P := Try.prog) (w := w) 71 A n c (by rw [elem_nums]; exact Try.underlying71) .i64 (k : Int) (by omega) (by omega), elem_nums, size_nums]
  simp [Result.andThen, sliced, numLow]
theorem numMap_take (l : List (Int)) (k : Nat) : (l.take k).flatMap intCells = (l.flatMap intCells).take (k * 1) := by
  induction l generalizing k with
  | nil => simp
  | cons y l ih =>
    cases k with
    | zero => simp
    | succ k =>
      have e5 : (k + 1) * 1 = (intCells y).length + k * 1 := by
        rw [show (intCells y).length = 1 from rfl]
        omega
      rw [List.take_succ_cons, List.flatMap_cons, List.flatMap_cons, ih, e5, List.take_length_add_append]
theorem numMap_drop (l : List (Int)) (k : Nat) : (l.drop k).flatMap intCells = (l.flatMap intCells).drop (k * 1) := by
  induction l generalizing k with
  | nil => simp
  | cons y l ih =>
    cases k with
    | zero => simp
    | succ k =>
      have e5 : (k + 1) * 1 = (intCells y).length + k * 1 := by
        rw [show (intCells y).length = 1 from rfl]
        omega
      rw [List.drop_succ_cons, List.flatMap_cons, ih, e5, List.drop_length_add_append]
theorem NumsAt.high {w : World} {A : Option Addr} {l : List (Int)} (h : NumsAt w A l) (c k : Nat) : NumsAt w (numHigh A c) (l.take k) := by
  have ht : NumsAt w A (l.take k) := by
    rcases h with h | ⟨b, off, rfl, hlt, hc⟩
    · left; rw [numMap_take, h]; simp
    · right
      refine ⟨b, off, rfl, hlt, fun j v hj => hc j v ?_⟩
      rw [numMap_take, List.getElem?_take] at hj
      split at hj
      · exact hj
      · cases hj
  unfold numHigh
  split
  · exact ht
  · rcases ht with h | ⟨b, off, rfl, hlt, hc⟩
    · exact .inl h
    · have e : (some (⟨b, off, none⟩ : Addr)).map (·.add (0 * 1)) = some ⟨b, off, none⟩ := rfl
      rw [e]
      exact .inr ⟨b, off, rfl, hlt, hc⟩
theorem NumsAt.low {w : World} {A : Option Addr} {l : List (Int)} (h : NumsAt w A l) (c k : Nat) (hc : l.length ≤ c) : NumsAt w (numLow A k c) (l.drop k) := by
  unfold numLow
  split
  · left; rw [List.drop_eq_nil_of_le (by omega)]; rfl
  · rcases h with h | ⟨b, off, rfl, hlt, hcc⟩
    · left; rw [numMap_drop, h]; simp
    · have e : (some (⟨b, off, none⟩ : Addr)).map (·.add (k * 1)) = some ⟨b, off + k * 1, none⟩ := by
        show some ((⟨b, off, none⟩ : Addr).add (k * 1)) = _
        rw [Go.WideShapes.add_plain]
      rw [e]
      right
      refine ⟨b, off + k * 1, rfl, hlt, fun j v hj => ?_⟩
      rw [numMap_drop, List.getElem?_drop] at hj
      rw [Nat.add_assoc]
      exact hcc _ v hj
attribute [irreducible] numHigh numLow
end Go.Proofs.Ytmedaimndaaiiaa

/- The document's own with: nodes, where one stands for what it was. Condition: no more than 2^20 nodes. -/
namespace Go.Proofs.Ytmedaimndaaiiaa
open Go.RowKit Go.Deep

/-- What a store of a node walks over: each cell is there, and may be written, in the world behind those ahead of it. -/
theorem put_facts {w : World} {B g n c : Nat} {xs : List Value} (h : w.ownsRow B 57 5 (.slice (some ⟨g, 0, none⟩) n c) n xs) {k : Nat} (hk : k < n) (y : NodeV) :
    (∃ v, w.cell? ⟨g, k * 5, none⟩ = some v) ∧ w.frozen? ⟨g, k * 5, none⟩ = false ∧
    (∃ v, (w.setCell ⟨g, k * 5, none⟩ (.int .i64 y.id)).cell? ⟨g, k * 5 + 1, none⟩ = some v) ∧ (w.setCell ⟨g, k * 5, none⟩ (.int .i64 y.id)).frozen? ⟨g, k * 5 + 1, none⟩ = false ∧
    (∃ v, ((w.setCell ⟨g, k * 5, none⟩ (.int .i64 y.id)).setCell ⟨g, k * 5 + 1, none⟩ (.int .i64 y.parent)).cell? ⟨g, k * 5 + 2, none⟩ = some v) ∧ ((w.setCell ⟨g, k * 5, none⟩ (.int .i64 y.id)).setCell ⟨g, k * 5 + 1, none⟩ (.int .i64 y.parent)).frozen? ⟨g, k * 5 + 2, none⟩ = false ∧
    (∃ v, (((w.setCell ⟨g, k * 5, none⟩ (.int .i64 y.id)).setCell ⟨g, k * 5 + 1, none⟩ (.int .i64 y.parent)).setCell ⟨g, k * 5 + 2, none⟩ (.string (bstr y.name))).cell? ⟨g, k * 5 + 3, none⟩ = some v) ∧ (((w.setCell ⟨g, k * 5, none⟩ (.int .i64 y.id)).setCell ⟨g, k * 5 + 1, none⟩ (.int .i64 y.parent)).setCell ⟨g, k * 5 + 2, none⟩ (.string (bstr y.name))).frozen? ⟨g, k * 5 + 3, none⟩ = false ∧
    (∃ v, ((((w.setCell ⟨g, k * 5, none⟩ (.int .i64 y.id)).setCell ⟨g, k * 5 + 1, none⟩ (.int .i64 y.parent)).setCell ⟨g, k * 5 + 2, none⟩ (.string (bstr y.name))).setCell ⟨g, k * 5 + 3, none⟩ (.bool y.dir)).cell? ⟨g, k * 5 + 4, none⟩ = some v) ∧ ((((w.setCell ⟨g, k * 5, none⟩ (.int .i64 y.id)).setCell ⟨g, k * 5 + 1, none⟩ (.int .i64 y.parent)).setCell ⟨g, k * 5 + 2, none⟩ (.string (bstr y.name))).setCell ⟨g, k * 5 + 3, none⟩ (.bool y.dir)).frozen? ⟨g, k * 5 + 4, none⟩ = false := by
  have h0 := (h.stored (k * 5) (.int .i64 y.id)).1
  have h1 := (h0.stored (k * 5 + 1) (.int .i64 y.parent)).1
  have h2 := (h1.stored (k * 5 + 2) (.string (bstr y.name))).1
  have h3 := (h2.stored (k * 5 + 3) (.bool y.dir)).1
  have key : ∀ {w' : World} {xs' : List Value} (h' : w'.ownsRow B 57 5 (.slice (some ⟨g, 0, none⟩) n c) n xs') (f : Nat), f < 5 → (∃ v, w'.cell? ⟨g, k * 5 + f, none⟩ = some v) ∧ w'.frozen? ⟨g, k * 5 + f, none⟩ = false := by
    intro w' xs' h' f hf
    have hj : k * 5 + f < n * 5 := by omega
    refine ⟨⟨_, (h'.cellAt (k * 5 + f) hj).trans (List.getElem?_eq_getElem (by rw [h'.1]; exact hj))⟩, h'.frozenAt _⟩
  exact ⟨(key h 0 (by omega)).1, (key h 0 (by omega)).2, (key h0 1 (by omega)).1, (key h0 1 (by omega)).2, (key h1 2 (by omega)).1, (key h1 2 (by omega)).2, (key h2 3 (by omega)).1, (key h2 3 (by omega)).2, (key h3 4 (by omega)).1, (key h3 4 (by omega)).2⟩
theorem below_put {B : Nat} {a w : World} (h : Below B a w) {g : Nat} (hg : B ≤ g) (off : Nat) (y : NodeV) : Below B a (putNode w g off y) := by
  unfold putNode
  exact ((((h.setCell (p := ⟨g, off, none⟩) hg _).setCell (p := ⟨g, off + 1, none⟩) hg _).setCell (p := ⟨g, off + 2, none⟩) hg _).setCell (p := ⟨g, off + 3, none⟩) hg _).setCell (p := ⟨g, off + 4, none⟩) hg _

end Go.Proofs.Ytmedaimndaaiiaa
