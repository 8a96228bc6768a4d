/- What compose's walk counts, and what becomes of a piece: the landed counted and met; what lies in the walk's own blocks. Condition: no text of more than 2^40 bytes. (Merged of 2 texts.) -/
import Derived.Test.YtoicgmfcbmjchaaKRef
import Derived.Laws.OwnMore
import Derived.Test.YtoicgmfcbmjchaaKEdit
import Derived.Test.YtoicgmfcbmjchaaKOp
import Derived.Test.YtoicgmfcbmjchaaKUw
import Derived.Test.YtoicgmfcbmjchaaKPair
import Derived.Laws.Rows
/- Slices of parts, cut behind their first one; parts put behind a row of the call's own. Condition: no more than 2^40 parts. -/
namespace Go.Proofs.Ytoicgmfcbmjchaa
open Go.RowKit Go.Deep

theorem elem_comps : Try.prog.elem 22 = 49 := by kernel_rfl
theorem size_comp (w : World) : (sizeOf 49).run Try.prog w = .ok 3 w := Try.sizeOf49 w
theorem comps_next {w : World} {A : Option Addr} {x : CompV} {l : List CompV} {c : Nat} (h : CompsAt w A (x :: l)) (hc : (x :: l).length ≤ c) :
    ∃ b off A', A = some ⟨b, off, none⟩ ∧ b < w.heap.size ∧ w.cell? ⟨b, off, none⟩ = some (.int .i64 x.kind) ∧ w.cell? ⟨b, off + 1, none⟩ = some (.int .i64 x.n) ∧ w.cell? ⟨b, off + 2, none⟩ = some (.string (bstr x.text)) ∧
      (∀ w, (Instr.slice 22 (.slice (some ⟨b, off, none⟩) (l.length + 1) c) (some (.int .i64 1)) none none).run Try.prog w = .ok (.slice A' l.length (c - 1)) w) ∧ CompsAt w A' l ∧ l.length ≤ c - 1 := by
  obtain ⟨b, off, rfl, hb⟩ := h.form (by simp)
  obtain ⟨h0, h1, h2⟩ := h.at_ (i := 0) (by simp)
  simp only [Nat.zero_mul, Nat.add_zero, List.getElem_cons_zero] at h0 h1 h2
  have hc' : l.length + 1 ≤ c := by simpa using hc
  refine ⟨b, off, (if c = 1 then some ⟨b, off, none⟩ else some ⟨b, off + 3, none⟩), rfl, hb, h0, h1, h2, fun w => ?_, ?_, by omega⟩
  · rw [run_slice_l (P := Try.prog) (w := w) 22 (some ⟨b, off, none⟩) (l.length + 1) c (by rw [elem_comps]; exact Try.underlying22) .i64 (1 : Int) (by omega) (by omega), elem_comps, size_comp]
    simp [Result.andThen, sliced]
    try (split <;> simp [Go.WideShapes.add_plain])
  · by_cases hl : l = []
    · rw [hl]; exact .inl rfl
    · have hl0 : 0 < l.length := List.length_pos_iff.2 hl
      rw [if_neg (by omega)]
      rcases h with h | ⟨b', off', e, hlt, hcc⟩
      · exact absurd (congrArg List.length h) (by simp [compCells])
      · injection e with e
        injection e with e1 e2
        subst e1 e2
        refine .inr ⟨b, off + 3, rfl, hlt, fun j v hj => ?_⟩
        have := hcc (3 + j) v (by rw [List.flatMap_cons, List.getElem?_append_right (by simp [compCells])]; simpa [compCells] using hj)
        rwa [← Nat.add_assoc] at this
/-- Parts that lie somewhere, put behind a row of the call's own. -/
theorem wp_pushC {o : Oper} {a : Act} {w : World} {K : Act → World → Prop} {Q : Exit → Act → World → Prop} (s x : Operand)
    (ho : o.op = .call { callee := .builtin .append, args := #[s, x], argTypes := #[22, 22] })
    (base : Nat) (v : Value) (out l : List CompV) (hs : a.eval s = v) (hown : w.ownsRow base 49 3 v out.length (out.flatMap compCells)) (hsz : base ≤ w.heap.size)
    (A : Option Addr) (c : Nat) (hx : a.eval x = .slice A l.length c) (hA : CompsAt w A l) (hnil : A = none → l = [] ∧ c = 0) (hlen : out.length + l.length ≤ 1099511627776)
    (h : ∀ out' A' c' w', out' = out ++ l → w'.ownsRow base 49 3 (.slice A' out'.length c') out'.length (out'.flatMap compCells) → Below base w w' → K (a.put o.dst (.slice A' out'.length c')) w') :
    o.wp Try.prog a w K Q := by
  obtain ⟨i0, hi0, hz0, hz1, hz2⟩ := info_parts part_info
  cases A with
  | none =>
    obtain ⟨rfl, rfl⟩ := hnil rfl
    have hr := run_append_owned_none (P := Try.prog) (w := w) base 22 o.type 49 i0 3 Try.underlying22 hi0 v out.length _ hown
    obtain ⟨A', c', rfl⟩ := own_slice hown
    unfold Oper.wp execOp
    simp only [ho, resolve, invoke, builtin, Sem.run_bind, Sem.run_pure, Result.andThen_ok, List.map_toArray, List.map_cons, List.map_nil, hs, hx, List.length_nil, hr]
    exact h out A' c' w (by simp) hown (Below.refl _ _)
  | some ad =>
    refine wp_append_own_wide w s x 22 ho base 49 i0 (.agg #[.int .i64 0, .int .i64 0, .string { data := #[] }]) 3 32 Try.underlying22 hi0 hz0 hz1 hz2 rfl (by omega) v out.length (out.flatMap compCells) hs hown ad l.length c (l.flatMap compCells) hx (flat_length compCells 3 compCells_length l) ?_ ?_ (by simp only [maxLen]; omega) (by omega) hsz ?_
    · intro j u hj
      rcases hA with hA | ⟨b, off, e, _, hc⟩
      · rw [hA] at hj; simp at hj
      · injection e with e
        subst e
        rw [Go.WideShapes.add_plain]
        exact hc j u hj
    · intro u hu
      obtain ⟨y, _, hy⟩ := List.mem_flatMap.1 hu
      simp [compCells] at hy
      rcases hy with rfl | rfl | rfl <;> rfl
    intro v' w' hown' hgr _
    have e : out.flatMap compCells ++ l.flatMap compCells = (out ++ l).flatMap compCells := by simp
    have hown2 : w'.ownsRow base 49 3 v' (out ++ l).length ((out ++ l).flatMap compCells) := by
      rw [← e, List.length_append]
      exact hown'
    obtain ⟨A', c', rfl⟩ := own_slice hown2
    exact h _ A' c' w' rfl hown2 ((Below.refl base w).grown hgr hsz (fun k hk => (hown.lt k hk).1))
end Go.Proofs.Ytoicgmfcbmjchaa

/- What compose's walk counts, and what becomes of a piece: the landed counted and met; what lies in the walk's own blocks. Condition: no text of more than 2^40 bytes. -/
namespace Go.Proofs.Ytoicgmfcbmjchaa
open Go.RowKit Go.Deep

/-- Only blocks from p on, up to q, may have been written; what is new lies behind. -/
structure Mid (p q : Nat) (w w' : World) : Prop where
  os : w'.os = w.os
  tape : w'.tape = w.tape
  output : w'.output = w.output
  size : w.heap.size ≤ w'.heap.size
  block : ∀ k, k < w.heap.size → k < p ∨ q ≤ k → w'.heap[k]? = w.heap[k]?
namespace Mid
variable {p q : Nat} {a b c w w' : World}
theorem refl (p q : Nat) (w : World) : Mid p q w w := ⟨rfl, rfl, rfl, Nat.le_refl _, fun _ _ _ => rfl⟩
theorem trans (h : Mid p q a b) (k : Mid p q b c) : Mid p q a c :=
  ⟨k.os.trans h.os, k.tape.trans h.tape, k.output.trans h.output, Nat.le_trans h.size k.size, fun i hi hg => (k.block i (Nat.lt_of_lt_of_le hi h.size) hg).trans (h.block i hi hg)⟩
theorem of_below (h : Below w.heap.size w w') : Mid p q w w' := ⟨h.os, h.tape, h.output, h.size, fun k hk _ => h.block k hk⟩
theorem drew (h : Mid p q a w) : Mid p q a w.drew := ⟨h.os, h.tape, h.output, h.size, h.block⟩
theorem set (h : Mid p q a w) (g i : Nat) (v : Value) (hp : p ≤ g) (hq : g < q) : Mid p q a (w.setCell ⟨g, i, none⟩ v) :=
  h.trans ⟨rfl, rfl, rfl, by simp [World.setCell], fun k _ hk => Below.heap_setCell _ _ _ _ (by show k ≠ g; omega)⟩
theorem setNew (h : Mid p q a w) (g i : Nat) (v : Value) (hg : a.heap.size ≤ g) : Mid p q a (w.setCell ⟨g, i, none⟩ v) :=
  ⟨h.os, h.tape, h.output, by simpa [World.setCell] using h.size, fun k hk hg2 => (Below.heap_setCell w _ _ _ (by show k ≠ g; omega)).trans (h.block k hk hg2)⟩
theorem below {r : Nat} {W : World} (h : Mid p q w w') (hb : Below r W w) (hr : r ≤ p) (hrw : r ≤ w.heap.size) : Below r W w' :=
  hb.trans ⟨h.os, h.tape, h.output, h.size, fun k hk => h.block k (by omega) (.inl (by omega))⟩
theorem own {base : Nat} {e : TypeId} {size : Nat} {v : Value} {n : Nat} {xs : List Value} (h : Mid p q w w') (ho : w.ownsRow base e size v n xs) (hb : q ≤ base) : w'.ownsRow base e size v n xs := by
  refine ⟨ho.1, ?_⟩
  rcases ho.2 with h2 | ⟨g', cap, cur, hv, hgb, hh, h3, h4, h5⟩
  · exact .inl h2
  · have hlt : g' < w.heap.size := by
      rcases Nat.lt_or_ge g' w.heap.size with hlt | hge
      · exact hlt
      · rw [Array.getElem?_eq_none hge] at hh; cases hh
    exact .inr ⟨g', cap, cur, hv, hgb, by rw [h.block g' hlt (.inr (by omega))]; exact hh, h3, h4, h5⟩
end Mid

/-- The cells of a record of three, written one by one. -/
theorem three {w : World} {b : Nat} {t : TypeId} {f : Nat → Value} (h : w.rowIs b t 3 f) (u0 u1 u2 : Value) :
    w.cell? ⟨b, 0, none⟩ = some (f 0) ∧ w.frozen? ⟨b, 0, none⟩ = false ∧ (w.setCell ⟨b, 0, none⟩ u0).cell? ⟨b, 1, none⟩ = some (f 1) ∧ (w.setCell ⟨b, 0, none⟩ u0).frozen? ⟨b, 1, none⟩ = false ∧
    ((w.setCell ⟨b, 0, none⟩ u0).setCell ⟨b, 1, none⟩ u1).cell? ⟨b, 2, none⟩ = some (f 2) ∧ ((w.setCell ⟨b, 0, none⟩ u0).setCell ⟨b, 1, none⟩ u1).frozen? ⟨b, 2, none⟩ = false ∧
    (((w.setCell ⟨b, 0, none⟩ u0).setCell ⟨b, 1, none⟩ u1).setCell ⟨b, 2, none⟩ u2).rowIs b t 3 (fun i => if i = 0 then u0 else if i = 1 then u1 else u2) := by
  have h1 := h.set 0 u0
  have h2 := h1.set 1 u1
  have h3 := h2.set 2 u2
  refine ⟨h.cell (i := 0) (by omega), h.frozen 0, h1.cell (i := 1) (by omega), h1.frozen 1, h2.cell (i := 2) (by omega), h2.frozen 2, h3.congr fun i hi => ?_⟩
  rcases (show i = 0 ∨ i = 1 ∨ i = 2 by omega) with rfl | rfl | rfl <;> rfl
theorem cm_row {w : World} {b : Nat} {kd n : Int} {t : List Nat} (h : w.rowIs b 49 3 (cmCells kd n t)) : w.cell? ⟨b, 0, none⟩ = some (.int .i64 kd) ∧ w.cell? ⟨b, 1, none⟩ = some (.int .i64 n) ∧ w.cell? ⟨b, 2, none⟩ = some (.string (bstr t)) :=
  ⟨h.cell (i := 0) (by omega), h.cell (i := 1) (by omega), h.cell (i := 2) (by omega)⟩
theorem cm_new (w : World) (kd n : Int) (t : List Nat) : (w.alloc (.cells #[.int .i64 kd, .int .i64 n, .string (bstr t)] 49)).rowIs w.heap.size 49 3 (cmCells kd n t) :=
  World.rowIs_alloc w _ _ _ (fun i hi => by rcases (show i = 0 ∨ i = 1 ∨ i = 2 by simp at hi; omega) with rfl | rfl | rfl <;> rfl)

set_option maxHeartbeats 2000000 in
set_option maxRecDepth 100000 in
theorem comCounted_any (c : CompV) (hw : Wh c) (ht : c.text.length ≤ 1099511627776) (w : World) :
    Calls Try.prog 49 #[.agg #[.int .i64 c.kind, .int .i64 c.n, .string (bstr c.text)]] w fun e w' => e = .returned (.agg #[.int .i64 c.kind, .int .i64 (sz c : Int), .string (bstr c.text)]) ∧ Below w.heap.size w w' := by
  have HS := Lib.hid hw.cases
  have HZ2 : Hid (c.kind = 2 → sz c = (cps c.text).length) := fun h => sz_two h
  have HZN : Hid (c.kind ≠ 2 → sz c = c.n.toNat) := fun h => sz_not h
  obtain ⟨z, HZ⟩ : ∃ z, Hid (sz c = z) := ⟨_, rfl⟩
  rw [HZ.out] at HZ2 HZN ⊢
  clear hw HZ
  obtain ⟨kd, n, t⟩ := c
  simp only at HS HZ2 HZN ht ⊢
  obtain ⟨g, HG⟩ : ∃ x, Hid (w.heap.size = x) := ⟨_, rfl⟩
  have hr1 := (cm_new w kd n t).alloc (Obj.cells #[.int .i64 0, .int .i64 0, .string { data := #[] }] 49)
  have hr2 := cm_new (w.alloc (.cells #[.int .i64 kd, .int .i64 n, .string (bstr t)] 49)) 0 0 []
  have hsz1 : (w.alloc (.cells #[.int .i64 kd, .int .i64 n, .string (bstr t)] 49)).heap.size = w.heap.size + 1 := by simp
  rw [hsz1] at hr2
  have hb0 : Below w.heap.size w ((w.alloc (.cells #[.int .i64 kd, .int .i64 n, .string (bstr t)] 49)).alloc (Obj.cells #[.int .i64 0, .int .i64 0, .string { data := #[] }] 49)) := ((Below.refl _ _).alloc (Nat.le_refl _) _).alloc (by simp) _
  have hwsz : ((w.alloc (.cells #[.int .i64 kd, .int .i64 n, .string (bstr t)] 49)).alloc (Obj.cells #[.int .i64 0, .int .i64 0, .string { data := #[] }] 49)).heap.size = w.heap.size + 2 := by simp
  replace hr2 : World.rowIs ((w.alloc (.cells #[.int .i64 kd, .int .i64 n, .string (bstr t)] 49)).alloc (Obj.cells #[.int .i64 0, .int .i64 0, .string { data := #[] }] 49)) (w.heap.size + 1) 49 3 (cmCells 0 0 []) := hr2
  obtain ⟨w1, HW1⟩ : ∃ x, Hid (((w.alloc (.cells #[.int .i64 kd, .int .i64 n, .string (bstr t)] 49)).alloc (Obj.cells #[.int .i64 0, .int .i64 0, .string { data := #[] }] 49)) = x) := ⟨_, rfl⟩
  rw [HW1.out] at hr1 hr2 hb0 hwsz
  have x0 := (cm_row hr1).1
  have x2 := (cm_row hr1).2.2
  have HR1 := Lib.hid hr1
  have HR2 := Lib.hid hr2
  have HB0 := Lib.hid hb0
  have HWS := Lib.hid hwsz
  clear hr1 hr2 hb0 hsz1 hwsz
  by_cases h2 : kd = 2
  · subst h2
    obtain ⟨vs, hv⟩ : ∃ vs, V t vs := by
      rcases HS.out with h | h | h
      · omega
      · omega
      · exact h.2.2.2
    have HZE : Hid ((vs.length : Int) = (z : Int)) := by show _ = _; rw [HZ2.out rfl, cps_of hv]
    have GN := Lib.hid (utfCount_yes hv ht w1)
    rw [HZE.out] at GN
    clear hv HS HZ2 HZN
    rw [← HW1.out] at x0 x2
    go_enter Try.func49, Try.ntmps49
    go_wp2_with fail
    rw [HW1.out]
    refine GN.out.mono ?_
    rintro e w2 ⟨rfl, hb2⟩
    have HB2 := Lib.hid hb2
    clear hb2 x0 x2
    have s1 := HR1.out.of_block (HB2.out.block _ HR1.out.lt)
    have s2 := HR2.out.of_block (HB2.out.block _ HR2.out.lt)
    have y1 := (cm_row s1).2.1
    have yf := s1.frozen 1
    have s1' := s1.set 1 (.int .i64 (z : Int))
    have y0' : (w2.setCell ⟨w.heap.size, 1, none⟩ (.int .i64 (z : Int))).cell? ⟨w.heap.size, 0, none⟩ = some (.int .i64 2) := s1'.cell (i := 0) (by omega)
    have y1' : (w2.setCell ⟨w.heap.size, 1, none⟩ (.int .i64 (z : Int))).cell? ⟨w.heap.size, 1, none⟩ = some (.int .i64 (z : Int)) := s1'.cell (i := 1) (by omega)
    have y2' : (w2.setCell ⟨w.heap.size, 1, none⟩ (.int .i64 (z : Int))).cell? ⟨w.heap.size, 2, none⟩ = some (.string (bstr t)) := s1'.cell (i := 2) (by omega)
    obtain ⟨a0, a1, a2, a3, a4, a5, hrow⟩ := three (s2.setOther (a := ⟨w.heap.size, 1, none⟩) (by show w.heap.size + 1 ≠ w.heap.size; omega) (.int .i64 (z : Int))) (.int .i64 2) (.int .i64 (z : Int)) (.string (bstr t))
    have HROW := Lib.hid hrow
    have HBE : Hid (Below w.heap.size w ((((w2.setCell ⟨w.heap.size, 1, none⟩ (.int .i64 (z : Int))).setCell ⟨w.heap.size + 1, 0, none⟩ (.int .i64 2)).setCell ⟨w.heap.size + 1, 1, none⟩ (.int .i64 (z : Int))).setCell ⟨w.heap.size + 1, 2, none⟩ (.string (bstr t)))) :=
      ((((HB0.out.trans (HB2.out.mono (by rw [HWS.out]; omega))).setCell (by show w.heap.size ≤ w.heap.size; omega) _).setCell (by show w.heap.size ≤ w.heap.size + 1; omega) _).setCell (by show w.heap.size ≤ w.heap.size + 1; omega) _).setCell (by show w.heap.size ≤ w.heap.size + 1; omega) _
    clear s1 s2 s1' hrow
    go_wp2
    refine bodyPost_ret (results_cell_row rfl _ _ (w.heap.size + 1) 49 #[.int .i64 2, .int .i64 (z : Int), .string (bstr t)] (0, 0) _ rfl (rowIs_cells #[.int .i64 2, .int .i64 (z : Int), .string (bstr t)] HROW.out (fun i hi => by
        have hi' : i < 3 := hi
        have : i = 0 ∨ i = 1 ∨ i = 2 := by omega
        rcases this with rfl | rfl | rfl <;> rfl)) Try.underlying49 rfl (by kernel_rfl)) rfl ?_
    exact ⟨rfl, HBE.out⟩
  · have g2 : (kd == 2) = false := beq_eq_false_iff_ne.2 h2
    have HZE : Hid (n = (z : Int)) := by
      show n = _
      have := HZN.out h2
      rcases HS.out with h | h | h <;> omega
    rw [← HZE.out]
    have x1 := (cm_row HR1.out).2.1
    obtain ⟨a0, a1, a2, a3, a4, a5, _⟩ := three HR2.out (.int .i64 kd) (.int .i64 n) (.string (bstr t))
    have hrow := heap_alloc_new (w.alloc (Obj.cells #[.int .i64 kd, .int .i64 n, .string (bstr t)] 49)) (Obj.cells #[.int .i64 kd, .int .i64 n, .string (bstr t)] 49)
    rw [show (w.alloc (Obj.cells #[.int .i64 kd, .int .i64 n, .string (bstr t)] 49)).heap.size = w.heap.size + 1 by simp] at hrow
    have HROW := Lib.hid hrow
    have HBE : Hid (Below w.heap.size w ((w.alloc (Obj.cells #[.int .i64 kd, .int .i64 n, .string (bstr t)] 49)).alloc (Obj.cells #[.int .i64 kd, .int .i64 n, .string (bstr t)] 49))) := ((Below.refl _ _).alloc (Nat.le_refl _) _).alloc (by simp) _
    clear hrow HS HZ2 HZN h2
    rw [← HW1.out] at x0 x1 x2 a0 a1 a2 a3 a4 a5
    go_enter Try.func49, Try.ntmps49
    go_wp2
    refine bodyPost_ret (results_cell_row rfl _ _ (w.heap.size + 1) 49 #[.int .i64 kd, .int .i64 n, .string (bstr t)] (0, 0) _ rfl HROW.out Try.underlying49 rfl (by kernel_rfl)) rfl ?_
    exact ⟨rfl, HBE.out⟩
/-- What becomes of a piece. -/
def metOf (c : CompV) (k : Int) : List CompV := if k = 1 then [c] else if c.kind = 1 then [⟨3, c.n, []⟩] else []
/-- Where that lies. -/
def MetEnd (o : List CompV) (W : World) (e : Ending) (w' : World) : Prop := ∃ A c', e = .returned (.slice A o.length c') ∧ CompsAt w' A o ∧ (A = none → o = [] ∧ c' = 0) ∧ Below W.heap.size W w'
set_option maxHeartbeats 2000000 in
set_option maxRecDepth 100000 in
theorem comMet_any (c : CompV) (k : Int) (w : World) :
    Calls Try.prog 50 #[.agg #[.int .i64 c.kind, .int .i64 c.n, .string (bstr c.text)], .int .i64 k] w (MetEnd (metOf c k) w) := by
  obtain ⟨kd, n, t⟩ := c
  have hr1 := cm_new w kd n t
  have HB1 : Hid (Below w.heap.size w (w.alloc (.cells #[.int .i64 kd, .int .i64 n, .string (bstr t)] 49))) := (Below.refl _ _).alloc (Nat.le_refl _) _
  obtain ⟨x0, x1, x2⟩ := cm_row hr1
  clear hr1
  have HOWN : Hid (∀ (q m : Int) (u : List Nat), CompsAt ((w.alloc (.cells #[.int .i64 kd, .int .i64 n, .string (bstr t)] 49)).alloc (.cells #[.int .i64 q, .int .i64 m, .string (bstr u)] 49)) (some ⟨w.heap.size + 1, 0, none⟩) [⟨q, m, u⟩] ∧
      Below w.heap.size w ((w.alloc (.cells #[.int .i64 kd, .int .i64 n, .string (bstr t)] 49)).alloc (.cells #[.int .i64 q, .int .i64 m, .string (bstr u)] 49))) := fun q m u =>
    ⟨CellsAt.of_own (base := w.heap.size) (e := 49) (size := 3) (n := 1) (c := 1) (by
      have := World.ownsRow_lit (base := w.heap.size) (e := 49) (size := 3) (w.alloc (.cells #[.int .i64 kd, .int .i64 n, .string (bstr t)] 49)) #[.int .i64 q, .int .i64 m, .string (bstr u)] 1 (by simp) (by simp [maxLen]) rfl
      rw [show (w.alloc (.cells #[.int .i64 kd, .int .i64 n, .string (bstr t)] 49)).heap.size = w.heap.size + 1 by simp] at this
      exact this), HB1.out.alloc (by simp) _⟩
  by_cases h1 : k = 1
  · subst h1
    go_enter Try.func50, Try.ntmps50
    go_wp2
    go_ret
    rw [metOf, if_pos rfl]
    exact ⟨some ⟨w.heap.size + 1, 0, none⟩, 1, by simp, (HOWN.out kd n t).1, fun h => (by cases h), (HOWN.out kd n t).2⟩
  · have g1 : (k == 1) = false := beq_eq_false_iff_ne.2 h1
    have HK : Hid (metOf ⟨kd, n, t⟩ k = if kd = 1 then [⟨3, n, []⟩] else []) := if_neg h1
    rw [HK.out]
    clear h1
    by_cases h2 : kd = 1
    · have HZ : Hid ((if kd = 1 then [(⟨3, n, []⟩ : CompV)] else []) = [⟨3, n, []⟩]) := if_pos h2
      rw [HZ.out]
      subst h2
      clear HZ HK
      go_enter Try.func50, Try.ntmps50
      go_wp2
      go_ret
      exact ⟨some ⟨w.heap.size + 1, 0, none⟩, 1, by simp, (HOWN.out 3 n []).1, fun h => (by cases h), (HOWN.out 3 n []).2⟩
    · have g2 : (kd == 1) = false := beq_eq_false_iff_ne.2 h2
      have HZ : Hid ((if kd = 1 then [(⟨3, n, []⟩ : CompV)] else []) = []) := if_neg h2
      rw [HZ.out]
      clear h2
      go_enter Try.func50, Try.ntmps50
      go_wp2
      go_ret
      exact ⟨none, 0, rfl, .inl rfl, fun _ => ⟨rfl, rfl⟩, HB1.out⟩
end Go.Proofs.Ytoicgmfcbmjchaa
