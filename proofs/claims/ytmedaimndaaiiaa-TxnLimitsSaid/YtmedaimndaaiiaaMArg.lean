/- Rows of acts of the call's own: append. Condition: no more than 2^40 of them. -/
import Derived.Test.YtmedaimndaaiiaaMCells
import Derived.Test.YtmedaimndaaiiaaMOwn
import Derived.Deep.DeepAppendWide
import Derived.Laws.OwnMore
import Derived.Deep.AppendLies
/- Rows of acts of the call's own: append. Condition: no more than 2^40 of them. -/
namespace Go.Proofs.Ytmedaimndaaiiaa
open Go.RowKit Go.Deep

def ActRow (w : World) (A : Option Addr) (l : List ActV) : Prop := CellsAt w A (l.flatMap actCells)
theorem ActRow.below {w w' : World} {A : Option Addr} {l : List ActV} (h : ActRow w A l) (hb : Below w.heap.size w w') : ActRow w' A l := CellsAt.below h hb
theorem ActRow.form {w : World} {A : Option Addr} {l : List ActV} (h : ActRow w A l) (h0 : 0 < l.length) : ∃ b off, A = some ⟨b, off, none⟩ ∧ b < w.heap.size :=
  CellsAt.form h (by intro e; have h1 := flat_length actCells 6 actCells_length l; rw [e, List.length_nil] at h1; omega)
theorem actn_inf : (Try.prog.info? 26).map (fun i => (i.zero, i.size, i.bytes)) = some (some (.agg #[.int .i64 0, .int .i64 0, .int .i64 0, .string { data := #[] }, .bool false, .slice none 0 0]), 6, 72) := by kernel_rfl
/-- A row of nodes of the call's own, in blocks from B on. -/
def OwnA (w : World) (B : Nat) (A : Option Addr) (c : Nat) (l : List ActV) : Prop := w.ownsRow B 26 6 (.slice A l.length c) l.length (l.flatMap actCells)
theorem actn_one (l : List ActV) : ∀ u ∈ l.flatMap actCells, u.oneCell' = true := by
  intro u hu
  obtain ⟨y, _, hy⟩ := List.mem_flatMap.1 hu
  simp [actCells] at hy
  rcases hy with rfl | rfl | rfl | rfl | rfl | rfl <;> rfl
theorem OwnA.at_ {w : World} {B c : Nat} {A : Option Addr} {l : List ActV} (h : OwnA w B A c l) : ActRow w A l := CellsAt.of_own h
theorem OwnA.cap {w : World} {B c : Nat} {A : Option Addr} {l : List ActV} (h : OwnA w B A c l) : l.length ≤ c := by
  rcases h.2 with ⟨e, h0⟩ | ⟨g, cap, cur, e, _, _, hn, _⟩
  · omega
  · injection e with _ _ e
    omega
theorem OwnA.empty (w : World) {B : Nat} (h : B ≤ w.heap.size) : OwnA (w.alloc (.cells #[] 26)) B (some ⟨w.heap.size, 0, none⟩) 0 [] := World.ownsRow_lit w #[] 0 h (by simp [maxLen]) rfl
theorem OwnA.nil (w : World) (B : Nat) : OwnA w B none 0 [] := World.ownsRow_nil _ _ _ _
theorem OwnA.alloc {w : World} {B c : Nat} {A : Option Addr} {l : List ActV} (h : OwnA w B A c l) (o : Obj) : OwnA (w.alloc o) B A c l := World.ownsRow.alloc h o
theorem OwnA.below {w w' : World} {B c : Nat} {A : Option Addr} {l : List ActV} (h : OwnA w B A c l) (hb : Below w.heap.size w w') : OwnA w' B A c l := own_below h hb
theorem OwnA.drew {w : World} {B c : Nat} {A : Option Addr} {l : List ActV} (h : OwnA w B A c l) : OwnA w.drew B A c l := h

theorem append_none_act {w : World} (base : Nat) (t ty e : TypeId) (i : TypeInfo) (size : Nat) (ht : Try.prog.underlying t = some (.slice e)) (hi : Try.prog.info? e = some i) (v : Value) (n : Nat) (xs : List Value) (c : Nat) (hown : w.ownsRow base e size v n xs) :
    (Builtin.append_ #[t, t] ty #[v, .slice none 0 c]).run Try.prog w = .ok v w := by
  rcases hown.2 with ⟨rfl, rfl⟩ | ⟨g, cap, cur, rfl, _, _, hnc, _⟩
  · simp [Builtin.append_, run_underlying ht, sizeOf, typeInfo, hi, Builtin.lenOf, Builtin.firstCells]
  · simp [Builtin.append_, run_underlying ht, sizeOf, typeInfo, hi, Builtin.lenOf, Builtin.firstCells, hnc, storeCells]
set_option maxRecDepth 100000 in
theorem run_acts_lies {w : World} {B c0 : Nat} {A0 : Option Addr} {out : List ActV} (hown : OwnA w B A0 c0 out) (hB : B ≤ w.heap.size) {A : Option Addr} {m : List ActV} (c : Nat) (hA : ActRow w A m) (hlen : out.length + m.length ≤ 1099511627776) (ty : TypeId) :
    ∃ A' c' w', (Builtin.append_ #[23, 23] ty #[.slice A0 out.length c0, .slice A m.length c]).run Try.prog w = .ok (.slice A' (out ++ m).length c') w' ∧ OwnA w' B A' c' (out ++ m) ∧ Below B w w' ∧ ∀ (g : Nat) (l : List ActV), g < w.heap.size → (∀ b, A0 = some b → b.block ≠ g) → ActRow w (some ⟨g, 0, none⟩) l → ActRow w' (some ⟨g, 0, none⟩) l := by
  obtain ⟨i0, hi0, hz0, hz1, hz2⟩ := info_parts actn_inf
  cases A with
  | none =>
    have hm : m = [] := by
      cases m with
      | nil => rfl
      | cons y m =>
        obtain ⟨b, off, e, _⟩ := hA.form (by simp)
        cases e
    subst hm
    refine ⟨A0, c0, w, ?_, ?_, Below.refl _ _, fun _ _ _ _ h => h⟩
    · rw [List.append_nil]
      exact append_none_act B _ ty _ i0 6 Try.underlying23 hi0 _ _ _ c hown
    · rw [List.append_nil]
      exact hown
  | some ad =>
    obtain ⟨v', w', hr, h2, h3, _⟩ := run_append_own_wide (P := Try.prog) w B 23 ty 26 i0 (.agg #[.int .i64 0, .int .i64 0, .int .i64 0, .string { data := #[] }, .bool false, .slice none 0 0]) 6 72 Try.underlying23 hi0 hz0 hz1 hz2 rfl (by omega)
      _ out.length (out.flatMap actCells) hown ad m.length c (m.flatMap actCells) (flat_length actCells 6 actCells_length m) (fun j u hu => by
        rcases hA with h0 | ⟨b, off, e, _, hc⟩
        · rw [h0] at hu; cases hu
        · injection e with e
          subst e
          rw [Go.WideShapes.add_plain]
          exact hc j u hu) (actn_one m) (by simp only [maxLen]; omega) (by omega) hB
    have e : out.flatMap actCells ++ m.flatMap actCells = (out ++ m).flatMap actCells := List.flatMap_append.symm
    rw [e, ← List.length_append] at h2
    obtain ⟨A', c', rfl⟩ := own_slice h2
    refine ⟨A', c', w', hr, h2, (Below.refl B w).grown h3 hB (fun k hk => (hown.lt k hk).1), fun g l hg hne h => ?_⟩
    rcases h with h | ⟨b, off, e, hlt, hc⟩
    · exact .inl h
    · injection e with e
      injection e with e1 e2
      subst e1 e2
      refine .inr ⟨g, 0, rfl, Nat.lt_of_lt_of_le hlt h3.size, fun j v hj => (h3.cell_far ⟨g, 0 + j, none⟩ hlt ?_).trans (hc j v hj)⟩
      cases A0 with
      | none => intro e; cases e
      | some a =>
        intro e
        injection e with e
        exact hne a rfl e.symm
theorem run_acts_app {w : World} {B c0 : Nat} {A0 : Option Addr} {out : List ActV} (hown : OwnA w B A0 c0 out) (hB : B ≤ w.heap.size) {A : Option Addr} {m : List ActV} (c : Nat) (hA : ActRow w A m) (hlen : out.length + m.length ≤ 1099511627776) (ty : TypeId) :
    ∃ A' c' w', (Builtin.append_ #[23, 23] ty #[.slice A0 out.length c0, .slice A m.length c]).run Try.prog w = .ok (.slice A' (out ++ m).length c') w' ∧ OwnA w' B A' c' (out ++ m) ∧ Below B w w' := by
  obtain ⟨A', c', w', h1, h2, h3, _⟩ := run_acts_lies hown hB c hA hlen ty
  exact ⟨A', c', w', h1, h2, h3⟩
theorem wp_acts_app {w : World} {o : Oper} {a : Act} {K : Act → World → Prop} {Q : Exit → Act → World → Prop} (s x : Operand)
    (ho : o.op = .call { callee := .builtin .append, args := #[s, x], argTypes := #[23, 23] })
    {B c0 : Nat} {A0 : Option Addr} {out : List ActV} (hown : OwnA w B A0 c0 out) (hB : B ≤ w.heap.size) {A : Option Addr} {m : List ActV} (c : Nat) (hA : ActRow w A m) (hlen : out.length + m.length ≤ 1099511627776)
    (hs : a.eval s = .slice A0 out.length c0) (hx : a.eval x = .slice A m.length c)
    (hK : ∀ A' c' w', OwnA w' B A' c' (out ++ m) → Below B w w' → K (a.put o.dst (.slice A' (out ++ m).length c')) w') : o.wp Try.prog a w K Q := by
  obtain ⟨A', c', w', hrun, h1, h2⟩ := run_acts_app hown hB c hA hlen o.type
  unfold Oper.wp execOp
  simp only [ho, resolve, invoke, builtin, Sem.run_bind, Sem.run_pure, Result.andThen_ok, List.map_toArray, List.map_cons, List.map_nil, hs, hx, hrun]
  exact hK A' c' w' h1 h2
theorem wp_acts_lies {w : World} {o : Oper} {a : Act} {K : Act → World → Prop} {Q : Exit → Act → World → Prop} (s x : Operand)
    (ho : o.op = .call { callee := .builtin .append, args := #[s, x], argTypes := #[23, 23] })
    {B c0 : Nat} {A0 : Option Addr} {out : List ActV} (hown : OwnA w B A0 c0 out) (hB : B ≤ w.heap.size) {A : Option Addr} {m : List ActV} (c : Nat) (hA : ActRow w A m) (hlen : out.length + m.length ≤ 1099511627776)
    (hs : a.eval s = .slice A0 out.length c0) (hx : a.eval x = .slice A m.length c)
    (hK : ∀ A' c' w', OwnA w' B A' c' (out ++ m) → Below B w w' → (∀ (g : Nat) (l : List ActV), g < w.heap.size → (∀ b, A0 = some b → b.block ≠ g) → ActRow w (some ⟨g, 0, none⟩) l → ActRow w' (some ⟨g, 0, none⟩) l) → K (a.put o.dst (.slice A' (out ++ m).length c')) w') : o.wp Try.prog a w K Q := by
  obtain ⟨A', c', w', hrun, h1, h2, h3⟩ := run_acts_lies hown hB c hA hlen o.type
  unfold Oper.wp execOp
  simp only [ho, resolve, invoke, builtin, Sem.run_bind, Sem.run_pure, Result.andThen_ok, List.map_toArray, List.map_cons, List.map_nil, hs, hx, hrun]
  exact hK A' c' w' h1 h2 h3
theorem wpList_acts_app {w : World} {ops : Array Oper} {rest : List Oper} {o : Oper} {a : Act} {Q : Exit → Act → World → Prop} (hgd : o.guard = none) (s x : Operand)
    (ho : o.op = .call { callee := .builtin .append, args := #[s, x], argTypes := #[23, 23] })
    {B c0 : Nat} {A0 : Option Addr} {out : List ActV} (hown : OwnA w B A0 c0 out) (hB : B ≤ w.heap.size) {A : Option Addr} {m : List ActV} (c : Nat) (hA : ActRow w A m) (hlen : out.length + m.length ≤ 1099511627776)
    (hs : a.eval s = .slice A0 out.length c0) (hx : a.eval x = .slice A m.length c)
    (h : ∀ A' c' w', OwnA w' B A' c' (out ++ m) → Below B w w' → wpList Try.prog ops Q rest (a.put o.dst (.slice A' (out ++ m).length c')) w') : wpList Try.prog ops Q (o :: rest) a w :=
  wpList_plain hgd fun _ hK => wp_acts_app s x ho hown hB c hA hlen hs hx fun A' c' w' h1 h2 => hK _ _ (h A' c' w' h1 h2)

/-- A node that was just laid. -/
theorem actn_lit (x : World) (n : ActV) (g : Nat) (hg : g = x.heap.size) : ActRow (x.alloc (.cells (actCells n).toArray 26)) (some ⟨g, 0, none⟩) [n] := by
  subst hg
  refine .inr ⟨_, 0, rfl, by simp, fun j v hj => ?_⟩
  rw [cell_of_row _ _ _ _ _ _ (heap_alloc_new x _)]
  simpa using hj
end Go.Proofs.Ytmedaimndaaiiaa
