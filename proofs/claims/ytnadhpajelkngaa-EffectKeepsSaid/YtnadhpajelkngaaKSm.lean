/- What compose's walk counts, and what becomes of a piece: the landed counted and met; what lies in the walk's own blocks. Condition: no text of more than 2^40 bytes. (Merged of 2 texts.) -/
import Derived.Test.YtnadhpajelkngaaKRef
import Derived.Laws.OwnMore
import Derived.Test.YtnadhpajelkngaaKEdit
import Derived.Test.YtnadhpajelkngaaKOp
import Derived.Test.YtnadhpajelkngaaKUw
import Derived.Test.YtnadhpajelkngaaKCells
import Derived.Laws.Rows
/- Slices of parts, cut behind their first one; parts put behind a row of the call's own. Condition: no more than 2^40 parts. -/
namespace Go.Proofs.Ytnadhpajelkngaa
open Go.RowKit Go.Deep

theorem elem_comps : Try.prog.elem 22 = 54 := by kernel_rfl
theorem size_comp (w : World) : (sizeOf 54).run Try.prog w = .ok 3 w := Try.sizeOf54 w
theorem comps_next {w : World} {A : Option Addr} {x : CompV} {l : List CompV} {c : Nat} (h : CompsAt w A (x :: l)) (hc : (x :: l).length ≤ c) :
    ∃ b off A', A = some ⟨b, off, none⟩ ∧ b < w.heap.size ∧ w.cell? ⟨b, off, none⟩ = some (.int .i64 x.kind) ∧ w.cell? ⟨b, off + 1, none⟩ = some (.int .i64 x.n) ∧ w.cell? ⟨b, off + 2, none⟩ = some (.string (bstr x.text)) ∧
      (∀ w, (Instr.slice 22 (.slice (some ⟨b, off, none⟩) (l.length + 1) c) (some (.int .i64 1)) none none).run Try.prog w = .ok (.slice A' l.length (c - 1)) w) ∧ CompsAt w A' l ∧ l.length ≤ c - 1 := by
  obtain ⟨b, off, rfl, hb⟩ := h.form (by simp)
  obtain ⟨h0, h1, h2⟩ := h.at_ (i := 0) (by simp)
  simp only [Nat.zero_mul, Nat.add_zero, List.getElem_cons_zero] at h0 h1 h2
  have hc' : l.length + 1 ≤ c := by simpa using hc
  refine ⟨b, off, (if c = 1 then some ⟨b, off, none⟩ else some ⟨b, off + 3, none⟩), rfl, hb, h0, h1, h2, fun w => ?_, ?_, by omega⟩
  · rw [run_slice_l (P := Try.prog) (w := w) 22 (some ⟨b, off, none⟩) (l.length + 1) c (by rw [elem_comps]; exact Try.underlying22) .i64 (1 : Int) (by omega) (by omega), elem_comps, size_comp]
    simp [Result.andThen, sliced]
    try (split <;> simp [Go.WideShapes.add_plain])
  · by_cases hl : l = []
    · rw [hl]; exact .inl rfl
    · have hl0 : 0 < l.length := List.length_pos_iff.2 hl
      rw [if_neg (by omega)]
      rcases h with h | ⟨b', off', e, hlt, hcc⟩
      · exact absurd (congrArg List.length h) (by simp [compCells])
      · injection e with e
        injection e with e1 e2
        subst e1 e2
        refine .inr ⟨b, off + 3, rfl, hlt, fun j v hj => ?_⟩
        have := hcc (3 + j) v (by rw [List.flatMap_cons, List.getElem?_append_right (by simp [compCells])]; simpa [compCells] using hj)
        rwa [← Nat.add_assoc] at this
set_option maxRecDepth 100000 in
/-- Parts that lie somewhere, put behind a row of the call's own. -/
theorem wp_pushC {o : Oper} {a : Act} {w : World} {K : Act → World → Prop} {Q : Exit → Act → World → Prop} (s x : Operand)
    (ho : o.op = .call { callee := .builtin .append, args := #[s, x], argTypes := #[22, 22] })
    (base : Nat) (v : Value) (out l : List CompV) (hs : a.eval s = v) (hown : w.ownsRow base 54 3 v out.length (out.flatMap compCells)) (hsz : base ≤ w.heap.size)
    (A : Option Addr) (c : Nat) (hx : a.eval x = .slice A l.length c) (hA : CompsAt w A l) (hnil : A = none → l = [] ∧ c = 0) (hlen : out.length + l.length ≤ 1099511627776)
    (h : ∀ out' A' c' w', out' = out ++ l → w'.ownsRow base 54 3 (.slice A' out'.length c') out'.length (out'.flatMap compCells) → Below base w w' → K (a.put o.dst (.slice A' out'.length c')) w') :
    o.wp Try.prog a w K Q := by
  obtain ⟨i0, hi0, hz0, hz1, hz2⟩ := info_parts part_info
  cases A with
  | none =>
    obtain ⟨rfl, rfl⟩ := hnil rfl
    have hr := run_append_owned_none (P := Try.prog) (w := w) base 22 o.type 54 i0 3 Try.underlying22 hi0 v out.length _ hown
    obtain ⟨A', c', rfl⟩ := own_slice hown
    unfold Oper.wp execOp
    simp only [ho, resolve, invoke, builtin, Sem.run_bind, Sem.run_pure, Result.andThen_ok, List.map_toArray, List.map_cons, List.map_nil, hs, hx, List.length_nil, hr]
    exact h out A' c' w (by simp) hown (Below.refl _ _)
  | some ad =>
    refine wp_append_own_wide w s x 22 ho base 54 i0 (.agg #[.int .i64 0, .int .i64 0, .string { data := #[] }]) 3 32 Try.underlying22 hi0 hz0 hz1 hz2 rfl (by omega) v out.length (out.flatMap compCells) hs hown ad l.length c (l.flatMap compCells) hx (flat_length compCells 3 compCells_length l) ?_ ?_ (by simp only [maxLen]; omega) (by omega) hsz ?_
    · intro j u hj
      rcases hA with hA | ⟨b, off, e, _, hc⟩
      · rw [hA] at hj; simp at hj
      · injection e with e
        subst e
        rw [Go.WideShapes.add_plain]
        exact hc j u hj
    · intro u hu
      obtain ⟨y, _, hy⟩ := List.mem_flatMap.1 hu
      simp [compCells] at hy
      rcases hy with rfl | rfl | rfl <;> rfl
    intro v' w' hown' hgr _
    have e : out.flatMap compCells ++ l.flatMap compCells = (out ++ l).flatMap compCells := by simp
    have hown2 : w'.ownsRow base 54 3 v' (out ++ l).length ((out ++ l).flatMap compCells) := by
      rw [← e, List.length_append]
      exact hown'
    obtain ⟨A', c', rfl⟩ := own_slice hown2
    exact h _ A' c' w' rfl hown2 ((Below.refl base w).grown hgr hsz (fun k hk => (hown.lt k hk).1))
end Go.Proofs.Ytnadhpajelkngaa

/- What compose's walk counts, and what becomes of a piece: the landed counted and met; what lies in the walk's own blocks. Condition: no text of more than 2^40 bytes. -/
namespace Go.Proofs.Ytnadhpajelkngaa
open Go.RowKit Go.Deep

/-- Only blocks from p on, up to q, may have been written; what is new lies behind. -/
structure Mid (p q : Nat) (w w' : World) : Prop where
  os : w'.os = w.os
  tape : w'.tape = w.tape
  output : w'.output = w.output
  size : w.heap.size ≤ w'.heap.size
  block : ∀ k, k < w.heap.size → k < p ∨ q ≤ k → w'.heap[k]? = w.heap[k]?
namespace Mid
variable {p q : Nat} {a b c w w' : World}
theorem refl (p q : Nat) (w : World) : Mid p q w w := ⟨rfl, rfl, rfl, Nat.le_refl _, fun _ _ _ => rfl⟩
theorem trans (h : Mid p q a b) (k : Mid p q b c) : Mid p q a c :=
  ⟨k.os.trans h.os, k.tape.trans h.tape, k.output.trans h.output, Nat.le_trans h.size k.size, fun i hi hg => (k.block i (Nat.lt_of_lt_of_le hi h.size) hg).trans (h.block i hi hg)⟩
theorem of_below (h : Below w.heap.size w w') : Mid p q w w' := ⟨h.os, h.tape, h.output, h.size, fun k hk _ => h.block k hk⟩
theorem drew (h : Mid p q a w) : Mid p q a w.drew := ⟨h.os, h.tape, h.output, h.size, h.block⟩
theorem set (h : Mid p q a w) (g i : Nat) (v : Value) (hp : p ≤ g) (hq : g < q) : Mid p q a (w.setCell ⟨g, i, none⟩ v) :=
  h.trans ⟨rfl, rfl, rfl, by simp [World.setCell], fun k _ hk => Below.heap_setCell _ _ _ _ (by show k ≠ g; omega)⟩
theorem setNew (h : Mid p q a w) (g i : Nat) (v : Value) (hg : a.heap.size ≤ g) : Mid p q a (w.setCell ⟨g, i, none⟩ v) :=
  ⟨h.os, h.tape, h.output, by simpa [World.setCell] using h.size, fun k hk hg2 => (Below.heap_setCell w _ _ _ (by show k ≠ g; omega)).trans (h.block k hk hg2)⟩
theorem below {r : Nat} {W : World} (h : Mid p q w w') (hb : Below r W w) (hr : r ≤ p) (hrw : r ≤ w.heap.size) : Below r W w' :=
  hb.trans ⟨h.os, h.tape, h.output, h.size, fun k hk => h.block k (by omega) (.inl (by omega))⟩
theorem own {base : Nat} {e : TypeId} {size : Nat} {v : Value} {n : Nat} {xs : List Value} (h : Mid p q w w') (ho : w.ownsRow base e size v n xs) (hb : q ≤ base) : w'.ownsRow base e size v n xs := by
  refine ⟨ho.1, ?_⟩
  rcases ho.2 with h2 | ⟨g', cap, cur, hv, hgb, hh, h3, h4, h5⟩
  · exact .inl h2
  · have hlt : g' < w.heap.size := by
      rcases Nat.lt_or_ge g' w.heap.size with hlt | hge
      · exact hlt
      · rw [Array.getElem?_eq_none hge] at hh; cases hh
    exact .inr ⟨g', cap, cur, hv, hgb, by rw [h.block g' hlt (.inr (by omega))]; exact hh, h3, h4, h5⟩
end Mid

/-- The cells of a record of three, written one by one. -/
theorem three {w : World} {b : Nat} {t : TypeId} {f : Nat → Value} (h : w.rowIs b t 3 f) (u0 u1 u2 : Value) :
    w.cell? ⟨b, 0, none⟩ = some (f 0) ∧ w.frozen? ⟨b, 0, none⟩ = false ∧ (w.setCell ⟨b, 0, none⟩ u0).cell? ⟨b, 1, none⟩ = some (f 1) ∧ (w.setCell ⟨b, 0, none⟩ u0).frozen? ⟨b, 1, none⟩ = false ∧
    ((w.setCell ⟨b, 0, none⟩ u0).setCell ⟨b, 1, none⟩ u1).cell? ⟨b, 2, none⟩ = some (f 2) ∧ ((w.setCell ⟨b, 0, none⟩ u0).setCell ⟨b, 1, none⟩ u1).frozen? ⟨b, 2, none⟩ = false ∧
    (((w.setCell ⟨b, 0, none⟩ u0).setCell ⟨b, 1, none⟩ u1).setCell ⟨b, 2, none⟩ u2).rowIs b t 3 (fun i => if i = 0 then u0 else if i = 1 then u1 else u2) := by
  have h1 := h.set 0 u0
  have h2 := h1.set 1 u1
  have h3 := h2.set 2 u2
  refine ⟨h.cell (i := 0) (by omega), h.frozen 0, h1.cell (i := 1) (by omega), h1.frozen 1, h2.cell (i := 2) (by omega), h2.frozen 2, h3.congr fun i hi => ?_⟩
  rcases (show i = 0 ∨ i = 1 ∨ i = 2 by omega) with rfl | rfl | rfl <;> rfl
theorem cm_row {w : World} {b : Nat} {kd n : Int} {t : List Nat} (h : w.rowIs b 54 3 (cmCells kd n t)) : w.cell? ⟨b, 0, none⟩ = some (.int .i64 kd) ∧ w.cell? ⟨b, 1, none⟩ = some (.int .i64 n) ∧ w.cell? ⟨b, 2, none⟩ = some (.string (bstr t)) :=
  ⟨h.cell (i := 0) (by omega), h.cell (i := 1) (by omega), h.cell (i := 2) (by omega)⟩
theorem cm_new (w : World) (kd n : Int) (t : List Nat) : (w.alloc (.cells #[.int .i64 kd, .int .i64 n, .string (bstr t)] 54)).rowIs w.heap.size 54 3 (cmCells kd n t) :=
  World.rowIs_alloc w _ _ _ (fun i hi => by rcases (show i = 0 ∨ i = 1 ∨ i = 2 by simp at hi; omega) with rfl | rfl | rfl <;> rfl)

/-- What becomes of a piece. -/
def metOf (c : CompV) (k : Int) : List CompV := if k = 1 then [c] else if c.kind = 1 then [⟨3, c.n, []⟩] else []
/-- Where that lies. -/
def MetEnd (o : List CompV) (W : World) (e : Ending) (w' : World) : Prop := ∃ A c', e = .returned (.slice A o.length c') ∧ CompsAt w' A o ∧ (A = none → o = [] ∧ c' = 0) ∧ Below W.heap.size W w'
end Go.Proofs.Ytnadhpajelkngaa
