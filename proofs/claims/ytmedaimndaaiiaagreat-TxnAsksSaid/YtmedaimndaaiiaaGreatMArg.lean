/- The contract of the statements' own small: what is looked at. Condition: no slice is longer than memory. (Merged of 3 texts.) -/
import Derived.Test.YtmedaimndaaiiaaGreatMCells
import Derived.Test.YtmedaimndaaiiaaGreatMOwn
import Derived.Deep.DeepAppendWide
import Derived.Laws.OwnMore
import Derived.Deep.AppendLies
import Derived.Test.YtmedaimndaaiiaaGreatMTTreeGuard
/- An act by value as an argument. No condition. -/
namespace Go.Proofs.YtmedaimndaaiiaaGreat
open Go.ChangeShapes Go.WideShapes Go.ChangeAt Go.RowKit
variable {H : Type} {enc : TypeId × Value → H} {w : World}

set_option maxRecDepth 100000 in
theorem open_act {base : Nat} {v : Value} {d : DataW H} {p : List MemPlace} (hv : Value.okWide Tryz.prog w .any base 25 v) (h : DataW.Trod enc Tryz.prog w 0 (fun _ => true) true 25 v d p) (hlt : ∀ x ∈ p, x.block < w.heap.size) :
    ∃ a : ActV, v = .agg (actCells a).toArray ∧ a.Good ∧ CompsAt w a.opsA a.ops := by
  obtain ⟨cs, rfl, hsz⟩ := okWide_struct Tryz.underlying25 hv
  have hsz' : cs.size = 6 := hsz.trans (by kernel_rfl)
  obtain ⟨R⟩ := cs
  obtain ⟨fuel, hf⟩ := h
  obtain ⟨xs, n, _, hx, hl, hlen, hg⟩ := DataW.trod_struct Tryz.underlying25 hf
  match R, hsz' with
  | [r0, r1, r2, r3, r4, r5], _ =>
  match xs, hlen with
  | [y0, y1, y2, y3, y4, y5], _ =>
  have h0 := hg 0 _ rfl
  have h1 := hg 1 _ rfl
  have h2 := hg 2 _ rfl
  have h3 := hg 3 _ rfl
  have h4 := hg 4 _ rfl
  have h5 := hg 5 _ rfl
  simp only [Value.cells, List.getElem?_cons_zero, List.getElem?_cons_succ] at h0 h1 h2 h3 h4 h5
  obtain ⟨k0, e0, w0⟩ := rec_int (R := [r0, r1, r2, r3, r4, r5]) (o := 0) h0
  obtain ⟨k1, e1, w1⟩ := rec_int (R := [r0, r1, r2, r3, r4, r5]) (o := 1) h1
  obtain ⟨k2, e2, w2⟩ := rec_int (R := [r0, r1, r2, r3, r4, r5]) (o := 2) h2
  obtain ⟨l3, e3, w3⟩ := rec_text (R := [r0, r1, r2, r3, r4, r5]) (o := 3) h3
  obtain ⟨b4, e4⟩ := rec_bool (R := [r0, r1, r2, r3, r4, r5]) (o := 4) h4
  obtain ⟨A5, l5, c5, e5, at5, g5, n5, m5⟩ := rec_comps (R := [r0, r1, r2, r3, r4, r5]) (o := 5) h5 (fun q hq => hlt q (by
    injection hx with _ hx
    rw [hx]
    simp only [List.flatMap_cons, List.mem_append]
    simp [hq]))
  simp only [List.getElem?_cons_zero, List.getElem?_cons_succ, Option.some.injEq] at e0 e1 e2 e3 e4 e5
  subst e0 e1 e2 e3 e4 e5
  exact ⟨⟨k0, k1, k2, l3, b4, A5, c5, l5⟩, rfl, ⟨w0, w1, w2, w3, g5, n5, m5⟩, at5⟩
end Go.Proofs.YtmedaimndaaiiaaGreat

/- Rows of acts of the call's own: append. Condition: no more than 2^40 of them. -/
namespace Go.Proofs.YtmedaimndaaiiaaGreat
open Go.RowKit Go.Deep

def ActRow (w : World) (A : Option Addr) (l : List ActV) : Prop := CellsAt w A (l.flatMap actCells)
theorem ActRow.below {w w' : World} {A : Option Addr} {l : List ActV} (h : ActRow w A l) (hb : Below w.heap.size w w') : ActRow w' A l := CellsAt.below h hb
theorem ActRow.form {w : World} {A : Option Addr} {l : List ActV} (h : ActRow w A l) (h0 : 0 < l.length) : ∃ b off, A = some ⟨b, off, none⟩ ∧ b < w.heap.size :=
  CellsAt.form h (by intro e; have h1 := flat_length actCells 6 actCells_length l; rw [e, List.length_nil] at h1; omega)
theorem actn_inf : (Tryz.prog.info? 25).map (fun i => (i.zero, i.size, i.bytes)) = some (some (.agg #[.int .i64 0, .int .i64 0, .int .i64 0, .string { data := #[] }, .bool false, .slice none 0 0]), 6, 72) := by kernel_rfl
/-- A row of nodes of the call's own, in blocks from B on. -/
def OwnA (w : World) (B : Nat) (A : Option Addr) (c : Nat) (l : List ActV) : Prop := w.ownsRow B 25 6 (.slice A l.length c) l.length (l.flatMap actCells)
theorem actn_one (l : List ActV) : ∀ u ∈ l.flatMap actCells, u.oneCell' = true := by
  intro u hu
  obtain ⟨y, _, hy⟩ := List.mem_flatMap.1 hu
  simp [actCells] at hy
  rcases hy with rfl | rfl | rfl | rfl | rfl | rfl <;> rfl
theorem OwnA.at_ {w : World} {B c : Nat} {A : Option Addr} {l : List ActV} (h : OwnA w B A c l) : ActRow w A l := CellsAt.of_own h
theorem OwnA.cap {w : World} {B c : Nat} {A : Option Addr} {l : List ActV} (h : OwnA w B A c l) : l.length ≤ c := by
  rcases h.2 with ⟨e, h0⟩ | ⟨g, cap, cur, e, _, _, hn, _⟩
  · omega
  · injection e with _ _ e
    omega
theorem OwnA.empty (w : World) {B : Nat} (h : B ≤ w.heap.size) : OwnA (w.alloc (.cells #[] 25)) B (some ⟨w.heap.size, 0, none⟩) 0 [] := World.ownsRow_lit w #[] 0 h (by simp [maxLen]) rfl
theorem OwnA.nil (w : World) (B : Nat) : OwnA w B none 0 [] := World.ownsRow_nil _ _ _ _
theorem OwnA.alloc {w : World} {B c : Nat} {A : Option Addr} {l : List ActV} (h : OwnA w B A c l) (o : Obj) : OwnA (w.alloc o) B A c l := World.ownsRow.alloc h o
theorem OwnA.below {w w' : World} {B c : Nat} {A : Option Addr} {l : List ActV} (h : OwnA w B A c l) (hb : Below w.heap.size w w') : OwnA w' B A c l := own_below h hb
theorem OwnA.drew {w : World} {B c : Nat} {A : Option Addr} {l : List ActV} (h : OwnA w B A c l) : OwnA w.drew B A c l := h

theorem append_none_act {w : World} (base : Nat) (t ty e : TypeId) (i : TypeInfo) (size : Nat) (ht : Tryz.prog.underlying t = some (.slice e)) (hi : Tryz.prog.info? e = some i) (v : Value) (n : Nat) (xs : List Value) (c : Nat) (hown : w.ownsRow base e size v n xs) :
    (Builtin.append_ #[t, t] ty #[v, .slice none 0 c]).run Tryz.prog w = .ok v w := by
  rcases hown.2 with ⟨rfl, rfl⟩ | ⟨g, cap, cur, rfl, _, _, hnc, _⟩
  · simp [Builtin.append_, run_underlying ht, sizeOf, typeInfo, hi, Builtin.lenOf, Builtin.firstCells]
  · simp [Builtin.append_, run_underlying ht, sizeOf, typeInfo, hi, Builtin.lenOf, Builtin.firstCells, hnc, storeCells]
set_option maxRecDepth 100000 in
theorem run_acts_lies {w : World} {B c0 : Nat} {A0 : Option Addr} {out : List ActV} (hown : OwnA w B A0 c0 out) (hB : B ≤ w.heap.size) {A : Option Addr} {m : List ActV} (c : Nat) (hA : ActRow w A m) (hlen : out.length + m.length ≤ 1099511627776) (ty : TypeId) :
    ∃ A' c' w', (Builtin.append_ #[22, 22] ty #[.slice A0 out.length c0, .slice A m.length c]).run Tryz.prog w = .ok (.slice A' (out ++ m).length c') w' ∧ OwnA w' B A' c' (out ++ m) ∧ Below B w w' ∧ ∀ (g : Nat) (l : List ActV), g < w.heap.size → (∀ b, A0 = some b → b.block ≠ g) → ActRow w (some ⟨g, 0, none⟩) l → ActRow w' (some ⟨g, 0, none⟩) l := by
  obtain ⟨i0, hi0, hz0, hz1, hz2⟩ := info_parts actn_inf
  cases A with
  | none =>
    have hm : m = [] := by
      cases m with
      | nil => rfl
      | cons y m =>
        obtain ⟨b, off, e, _⟩ := hA.form (by simp)
        cases e
    subst hm
    refine ⟨A0, c0, w, ?_, ?_, Below.refl _ _, fun _ _ _ _ h => h⟩
    · rw [List.append_nil]
      exact append_none_act B _ ty _ i0 6 Tryz.underlying22 hi0 _ _ _ c hown
    · rw [List.append_nil]
      exact hown
  | some ad =>
    obtain ⟨v', w', hr, h2, h3, _⟩ := run_append_own_wide (P := Tryz.prog) w B 22 ty 25 i0 (.agg #[.int .i64 0, .int .i64 0, .int .i64 0, .string { data := #[] }, .bool false, .slice none 0 0]) 6 72 Tryz.underlying22 hi0 hz0 hz1 hz2 rfl (by omega)
      _ out.length (out.flatMap actCells) hown ad m.length c (m.flatMap actCells) (flat_length actCells 6 actCells_length m) (fun j u hu => by
        rcases hA with h0 | ⟨b, off, e, _, hc⟩
        · rw [h0] at hu; cases hu
        · injection e with e
          subst e
          rw [Go.WideShapes.add_plain]
          exact hc j u hu) (actn_one m) (by simp only [maxLen]; omega) (by omega) hB
    have e : out.flatMap actCells ++ m.flatMap actCells = (out ++ m).flatMap actCells := List.flatMap_append.symm
    rw [e, ← List.length_append] at h2
    obtain ⟨A', c', rfl⟩ := own_slice h2
    refine ⟨A', c', w', hr, h2, (Below.refl B w).grown h3 hB (fun k hk => (hown.lt k hk).1), fun g l hg hne h => ?_⟩
    rcases h with h | ⟨b, off, e, hlt, hc⟩
    · exact .inl h
    · injection e with e
      injection e with e1 e2
      subst e1 e2
      refine .inr ⟨g, 0, rfl, Nat.lt_of_lt_of_le hlt h3.size, fun j v hj => (h3.cell_far ⟨g, 0 + j, none⟩ hlt ?_).trans (hc j v hj)⟩
      cases A0 with
      | none => intro e; cases e
      | some a =>
        intro e
        injection e with e
        exact hne a rfl e.symm
theorem run_acts_app {w : World} {B c0 : Nat} {A0 : Option Addr} {out : List ActV} (hown : OwnA w B A0 c0 out) (hB : B ≤ w.heap.size) {A : Option Addr} {m : List ActV} (c : Nat) (hA : ActRow w A m) (hlen : out.length + m.length ≤ 1099511627776) (ty : TypeId) :
    ∃ A' c' w', (Builtin.append_ #[22, 22] ty #[.slice A0 out.length c0, .slice A m.length c]).run Tryz.prog w = .ok (.slice A' (out ++ m).length c') w' ∧ OwnA w' B A' c' (out ++ m) ∧ Below B w w' := by
  obtain ⟨A', c', w', h1, h2, h3, _⟩ := run_acts_lies hown hB c hA hlen ty
  exact ⟨A', c', w', h1, h2, h3⟩
theorem wp_acts_app {w : World} {o : Oper} {a : Act} {K : Act → World → Prop} {Q : Exit → Act → World → Prop} (s x : Operand)
    (ho : o.op = .call { callee := .builtin .append, args := #[s, x], argTypes := #[22, 22] })
    {B c0 : Nat} {A0 : Option Addr} {out : List ActV} (hown : OwnA w B A0 c0 out) (hB : B ≤ w.heap.size) {A : Option Addr} {m : List ActV} (c : Nat) (hA : ActRow w A m) (hlen : out.length + m.length ≤ 1099511627776)
    (hs : a.eval s = .slice A0 out.length c0) (hx : a.eval x = .slice A m.length c)
    (hK : ∀ A' c' w', OwnA w' B A' c' (out ++ m) → Below B w w' → K (a.put o.dst (.slice A' (out ++ m).length c')) w') : o.wp Tryz.prog a w K Q := by
  obtain ⟨A', c', w', hrun, h1, h2⟩ := run_acts_app hown hB c hA hlen o.type
  unfold Oper.wp execOp
  simp only [ho, resolve, invoke, builtin, Sem.run_bind, Sem.run_pure, Result.andThen_ok, List.map_toArray, List.map_cons, List.map_nil, hs, hx, hrun]
  exact hK A' c' w' h1 h2
theorem wp_acts_lies {w : World} {o : Oper} {a : Act} {K : Act → World → Prop} {Q : Exit → Act → World → Prop} (s x : Operand)
    (ho : o.op = .call { callee := .builtin .append, args := #[s, x], argTypes := #[22, 22] })
    {B c0 : Nat} {A0 : Option Addr} {out : List ActV} (hown : OwnA w B A0 c0 out) (hB : B ≤ w.heap.size) {A : Option Addr} {m : List ActV} (c : Nat) (hA : ActRow w A m) (hlen : out.length + m.length ≤ 1099511627776)
    (hs : a.eval s = .slice A0 out.length c0) (hx : a.eval x = .slice A m.length c)
    (hK : ∀ A' c' w', OwnA w' B A' c' (out ++ m) → Below B w w' → (∀ (g : Nat) (l : List ActV), g < w.heap.size → (∀ b, A0 = some b → b.block ≠ g) → ActRow w (some ⟨g, 0, none⟩) l → ActRow w' (some ⟨g, 0, none⟩) l) → K (a.put o.dst (.slice A' (out ++ m).length c')) w') : o.wp Tryz.prog a w K Q := by
  obtain ⟨A', c', w', hrun, h1, h2, h3⟩ := run_acts_lies hown hB c hA hlen o.type
  unfold Oper.wp execOp
  simp only [ho, resolve, invoke, builtin, Sem.run_bind, Sem.run_pure, Result.andThen_ok, List.map_toArray, List.map_cons, List.map_nil, hs, hx, hrun]
  exact hK A' c' w' h1 h2 h3
theorem wpList_acts_app {w : World} {ops : Array Oper} {rest : List Oper} {o : Oper} {a : Act} {Q : Exit → Act → World → Prop} (hgd : o.guard = none) (s x : Operand)
    (ho : o.op = .call { callee := .builtin .append, args := #[s, x], argTypes := #[22, 22] })
    {B c0 : Nat} {A0 : Option Addr} {out : List ActV} (hown : OwnA w B A0 c0 out) (hB : B ≤ w.heap.size) {A : Option Addr} {m : List ActV} (c : Nat) (hA : ActRow w A m) (hlen : out.length + m.length ≤ 1099511627776)
    (hs : a.eval s = .slice A0 out.length c0) (hx : a.eval x = .slice A m.length c)
    (h : ∀ A' c' w', OwnA w' B A' c' (out ++ m) → Below B w w' → wpList Tryz.prog ops Q rest (a.put o.dst (.slice A' (out ++ m).length c')) w') : wpList Tryz.prog ops Q (o :: rest) a w :=
  wpList_plain hgd fun _ hK => wp_acts_app s x ho hown hB c hA hlen hs hx fun A' c' w' h1 h2 => hK _ _ (h A' c' w' h1 h2)

/-- A node that was just laid. -/
theorem actn_lit (x : World) (n : ActV) (g : Nat) (hg : g = x.heap.size) : ActRow (x.alloc (.cells (actCells n).toArray 25)) (some ⟨g, 0, none⟩) [n] := by
  subst hg
  refine .inr ⟨_, 0, rfl, by simp, fun j v hj => ?_⟩
  rw [cell_of_row _ _ _ _ _ _ (heap_alloc_new x _)]
  simpa using hj
end Go.Proofs.YtmedaimndaaiiaaGreat

/- The contract of the statements' own small: what is looked at. Condition: no slice is longer than memory. -/
namespace Go.Proofs.YtmedaimndaaiiaaGreat
open Go.RowKit Go.Deep
set_option maxHeartbeats 1000000 in
set_option maxRecDepth 100000 in
theorem tsmall_any (A B : Option Addr) (c d : Nat) (l : List NodeV) (m : List ActV) (hl : l.length ≤ maxLen) (hm : m.length ≤ maxLen) (hg : ∀ y ∈ l, y.Good) (gg : ∀ y ∈ m, y.Good) (w : World) (hA : NodesAt w A l) (hB : ActsAt w B m) :
    Calls Tryz.prog 7 #[.slice A l.length c, .slice B m.length d] w fun e w' => e = .returned (.bool (smallB l m)) ∧ Below w.heap.size w w' := by
  have G1 := Lib.hid (alikeNodes_at 4000 c hl hg w hA)
  have G2 := Lib.hid (fun w' (hb : Below w.heap.size w w') => alikeActs_at 4000 d hm gg w' (hB.below hb))
  have HS : Hid (smallB l m = (decide (nodesWeight 4000 l ≤ 4000) && decide (actsWeight 4000 m ≤ 4000) && decide (m.length ≤ 60))) := by unfold smallB; rfl
  rw [HS.out]
  unfold maxLen at hm
  generalize nodesWeight 4000 l = p at G1 ⊢
  generalize actsWeight 4000 m = q at G2 ⊢
  clear HS hl hg gg hA hB
  by_cases h1 : p ≤ 4000
  · have h1I : (p : Int) ≤ 4000 := by omega
    by_cases h2 : q ≤ 4000
    · have h2I : (q : Int) ≤ 4000 := by omega
      by_cases h3 : m.length ≤ 60
      · have h3I : (m.length : Int) ≤ 60 := by omega
        rw [decide_eq_true h1, decide_eq_true h2, decide_eq_true h3]
        go_enter Tryz.func7, Tryz.ntmps7
        go_wp2_with fail
        refine G1.out.mono ?_
        rintro e w1 ⟨rfl, hb⟩
        go_wp2_with fail
        refine (G2.out _ hb).mono ?_
        rintro e w2 ⟨rfl, hb2⟩
        go_wp2
        go_ret
        exact ⟨rfl, hb.trans (hb2.mono hb.size)⟩
      · have h3I : ¬ (m.length : Int) ≤ 60 := by omega
        rw [decide_eq_true h1, decide_eq_true h2, decide_eq_false h3]
        go_enter Tryz.func7, Tryz.ntmps7
        go_wp2_with fail
        refine G1.out.mono ?_
        rintro e w1 ⟨rfl, hb⟩
        go_wp2_with fail
        refine (G2.out _ hb).mono ?_
        rintro e w2 ⟨rfl, hb2⟩
        go_wp2
        go_ret
        refine ⟨?_, hb.trans (hb2.mono hb.size)⟩
        show Ending.returned (.bool (decide ((m.length : Int) ≤ 60))) = _
        rw [decide_eq_false (show ¬ (m.length : Int) ≤ 60 from by omega)]
        rfl
    · have h2I : ¬ (q : Int) ≤ 4000 := by omega
      rw [decide_eq_true h1, decide_eq_false h2]
      go_enter Tryz.func7, Tryz.ntmps7
      go_wp2_with fail
      refine G1.out.mono ?_
      rintro e w1 ⟨rfl, hb⟩
      go_wp2_with fail
      refine (G2.out _ hb).mono ?_
      rintro e w2 ⟨rfl, hb2⟩
      go_wp2
      go_ret
      exact ⟨rfl, hb.trans (hb2.mono hb.size)⟩
  · have h1I : ¬ (p : Int) ≤ 4000 := by omega
    rw [decide_eq_false h1]
    clear G2
    go_enter Tryz.func7, Tryz.ntmps7
    go_wp2_with fail
    refine G1.out.mono ?_
    rintro e w1 ⟨rfl, hb⟩
    go_wp2
    go_ret
    exact ⟨rfl, hb⟩
/-- What the guard says of how many parts acts have. -/
theorem acts_parts {l : List ActV} (h : actsWeight 4000 l ≤ 4000) : ∀ y ∈ l, y.ops.length ≤ 4000 := fun y hy => by
  obtain ⟨h1, _⟩ := wt_each (actTerms 4000) 4000 (by omega) l h
  have h2 := h1 y hy
  simp only [actTerms, List.sum_cons, List.sum_nil] at h2
  have h3 : compsWeight 4000 y.ops ≤ 4000 := by omega
  have e := wts_spec 4000 (by omega) (y.ops.map compTerms) 0 h3
  have e2 : ∀ l : List CompV, 2 * l.length ≤ ((l.map compTerms).map List.sum).sum := by
    intro l
    induction l with
    | nil => exact Nat.zero_le _
    | cons c l ih =>
      rw [List.map_cons, List.map_cons, List.sum_cons, List.length_cons]
      have : 2 ≤ (compTerms c).sum := by simp [compTerms]
      omega
  have := e2 y.ops
  have e3 : compsWeight 4000 y.ops = 0 + ((y.ops.map compTerms).map List.sum).sum := e
  omega
end Go.Proofs.YtmedaimndaaiiaaGreat
