/- The landed effect's Of: what acts did to whom, by rising IDs. Conditions: at most 2^20 acts, that may be looked at. -/
import Derived.Test.YtnadhpajelkngaaKSrt
import Derived.Test.YtnadhpajelkngaaKOwn
import Derived.Test.YtnadhpajelkngaaKWth
import Derived.Test.YtnadhpajelkngaaKXw
import Derived.Test.YtnadhpajelkngaaKRow
/- The landed effect's Of: what acts did to whom, by rising IDs. Conditions: at most 2^20 acts, that may be looked at. -/
namespace Go.Proofs.Ytnadhpajelkngaa
open Go.RowKit Go.Deep

theorem wp_scope_two {P : Program} {c r0 r1 : Code} {a : Act} {w : World} {Q : Exit → Act → World → Prop} (J : Nat → Nat → Act → World → Prop)
    (hJ : ∀ l k a w, J l k a w → l < 2) (h0 : findLabel c 0 = some (Code.skip.seq r0)) (h1 : findLabel c 1 = some (Code.skip.seq r1))
    (p1 : PassK P r1 J Q 1) (p0 : PassK P r1 J Q 1 → PassK P r0 J Q 0)
    (first : PassK P r0 J Q 0 → ∃ n, c.wp P (downK J n Q) a w) : (Code.scope c).wp P Q a w := by
  have q0 := p0 p1
  have pass : ∀ l k a w, J l k a w → ∃ r, findLabel c l = some r ∧ r.wp P (downK J k Q) a w := by
    intro l k a w hl
    have := hJ l k a w hl
    match l, this with
    | 0, _ => exact ⟨_, h0, skip_seq (q0 k a w hl)⟩
    | 1, _ => exact ⟨_, h1, skip_seq (p1 k a w hl)⟩
  obtain ⟨n, hn⟩ := first q0
  intro b k cs
  have key : ∀ n l a w, J l n a w → ∃ rest, findLabel c l = some rest ∧ ∃ e a' w', Q e a' w' ∧ Arrives P (lone (b.at a (.code rest :: .inScope c :: k)) cs w) b k cs e a' w' := by
    intro n
    induction n using Nat.strongRecOn with
    | _ n ih =>
      intro l a w hl
      obtain ⟨rest, hf, hp⟩ := pass l n a w hl
      refine ⟨rest, hf, ?_⟩
      obtain ⟨e, a₁, w₁, hq, harr⟩ := hp b (.inScope c :: k) cs
      cases e with
      | normal => exact ⟨.normal, a₁, w₁, by unfold downK at hq; exact hq, Steps.trans harr (.one step_inScope)⟩
      | exit id => exact ⟨.exit id, a₁, w₁, by unfold downK at hq; exact hq, fun k' hk => harr k' (by simp [exitTo, hk])⟩
      | goto l' =>
        rw [downK_goto] at hq
        obtain ⟨n', hJ', hlt⟩ := hq
        obtain ⟨rest', hf', e₂, a₂, w₂, hq₂, harr₂⟩ := ih n' hlt l' a₁ w₁ hJ'
        have hg : gotoIn l' (.inScope c :: k) = some (.code rest' :: .inScope c :: k) := by simp [gotoIn, hf']
        exact ⟨e₂, a₂, w₂, hq₂, .of_steps (harr _ hg) harr₂⟩
      | ret => exact ⟨.ret, a₁, w₁, by unfold downK at hq; exact hq, harr⟩
      | panic ch => exact ⟨.panic ch, a₁, w₁, by unfold downK at hq; exact hq, harr⟩
      | outgrown => exact ⟨.outgrown, a₁, w₁, by unfold downK at hq; exact hq, harr⟩
  obtain ⟨e, a₁, w₁, hq, harr⟩ := hn b (.inScope c :: k) cs
  cases e with
  | normal => exact ⟨.normal, a₁, w₁, by unfold downK at hq; exact hq, .head step_scope (Steps.trans harr (.one step_inScope))⟩
  | exit id => exact ⟨.exit id, a₁, w₁, by unfold downK at hq; exact hq, fun k' hk => .head step_scope (harr k' (by simp [exitTo, hk]))⟩
  | goto l' =>
    rw [downK_goto] at hq
    obtain ⟨n', hJ', _⟩ := hq
    obtain ⟨rest', hf', e₂, a₂, w₂, hq₂, harr₂⟩ := key _ l' a₁ w₁ hJ'
    have hg : gotoIn l' (.inScope c :: k) = some (.code rest' :: .inScope c :: k) := by simp [gotoIn, hf']
    exact ⟨e₂, a₂, w₂, hq₂, .of_steps (.head step_scope (harr _ hg)) harr₂⟩
  | ret => exact ⟨.ret, a₁, w₁, by unfold downK at hq; exact hq, .of_steps (.one step_scope) harr⟩
  | panic ch => exact ⟨.panic ch, a₁, w₁, by unfold downK at hq; exact hq, .of_steps (.one step_scope) harr⟩
  | outgrown => exact ⟨.outgrown, a₁, w₁, by unfold downK at hq; exact hq, .of_steps (.one step_scope) harr⟩

/-! ### Acts cut behind the first one -/
theorem elem_acts : Try.prog.elem 32 = 31 := by kernel_rfl
theorem size_act (w : World) : (sizeOf 31).run Try.prog w = .ok 6 w := Try.sizeOf31 w
theorem acts_next {w : World} {A : Option Addr} {x : ActV} {l : List ActV} {c : Nat} (h : ActRow w A (x :: l)) (hc : (x :: l).length ≤ c) :
    ∃ b off A', A = some ⟨b, off, none⟩ ∧ b < w.heap.size ∧ (∀ (f : Nat) (v : Value), (actCells x)[f]? = some v → w.cell? ⟨b, off + f, none⟩ = some v) ∧
      (∀ w, (Instr.slice 32 (.slice (some ⟨b, off, none⟩) (l.length + 1) c) (some (.int .i64 1)) none none).run Try.prog w = .ok (.slice A' l.length (c - 1)) w) ∧ ActRow w A' l ∧ l.length ≤ c - 1 ∧ ∀ b' off' q', A' = some ⟨b', off', q'⟩ → b' = b := by
  obtain ⟨b, off, rfl, hb⟩ := h.form (by simp)
  have hc' : l.length + 1 ≤ c := by simpa using hc
  refine ⟨b, off, (if c = 1 then some ⟨b, off, none⟩ else some ⟨b, off + 6, none⟩), rfl, hb, fun f v hf => ?_, fun w => ?_, ?_, by omega, fun b' off' q' e => ?_⟩
  · exact CellsAt.cell h (by rw [List.flatMap_cons, List.getElem?_append_left (List.getElem?_eq_some_iff.1 hf).1]; exact hf)
  · rw [run_slice_l (P := Try.prog) (w := w) 32 (some ⟨b, off, none⟩) (l.length + 1) c (by rw [elem_acts]; exact Try.underlying32) .i64 (1 : Int) (by omega) (by omega), elem_acts, size_act]
    simp [Result.andThen, sliced]
    try (split <;> simp [Go.WideShapes.add_plain])
  · by_cases hl : l = []
    · rw [hl]; exact .inl rfl
    · have hl0 : 0 < l.length := List.length_pos_iff.2 hl
      rw [if_neg (by omega)]
      rcases h with h | ⟨b', off', e, hlt, hcc⟩
      · exact absurd (congrArg List.length h) (by simp [actCells])
      · injection e with e
        injection e with e1 e2
        subst e1 e2
        refine .inr ⟨b, off + 6, rfl, hlt, fun j v hj => ?_⟩
        have := hcc (6 + j) v (by rw [List.flatMap_cons, List.getElem?_append_right (by simp [actCells])]; simpa [actCells] using hj)
        rwa [← Nat.add_assoc] at this
  · split at e
    · injection e with e; injection e with e; exact e.symm
    · injection e with e; injection e with e; exact e.symm
theorem CellsAt.only {w w' : World} {A : Option Addr} {l : List Value} {g : Nat} (h : CellsAt w A l) (ho : Only g w w') (hf : ∀ b off q, A = some ⟨b, off, q⟩ → b ≠ g) : CellsAt w' A l := by
  rcases h with h | ⟨b, off, rfl, hlt, hc⟩
  · exact .inl h
  · refine .inr ⟨b, off, rfl, Nat.lt_of_lt_of_le hlt ho.size, fun j v hj => ?_⟩
    rw [← hc j v hj]
    exact cell_of_block (ho.block b hlt (hf b off none rfl)) _

/-! ### A record more, beside parts of the call's own -/
set_option maxRecDepth 100000 in
theorem onee_keep {w : World} {B c0 : Nat} {A0 : Option Addr} {out : List OneV} (hown : OwnE w B A0 c0 out) (hB : B ≤ w.heap.size) {ad : Addr} {m : List OneV} (c : Nat) (hA : OneRow w (some ad) m) (hlen : out.length + m.length ≤ 1099511627776) (ty : TypeId) :
    ∃ A' c' w', (Builtin.append_ #[27, 27] ty #[.slice A0 out.length c0, .slice (some ad) m.length c]).run Try.prog w = .ok (.slice A' (out ++ m).length c') w' ∧ OwnE w' B A' c' (out ++ m) ∧ Below B w w' ∧ ∀ base size v n xs, w.ownsRow base 54 size v n xs → w'.ownsRow base 54 size v n xs := by
  obtain ⟨i0, hi0, hz0, hz1, hz2⟩ := info_parts onee_inf
  obtain ⟨v', w', hr, h2, h3, _⟩ := run_append_own_wide (P := Try.prog) w B 27 ty 37 i0 (.agg #[.int .i64 0, .slice none 0 0, .bool false, .bool false, .bool false, .bool false, .int .i64 0, .string { data := #[] }]) 8 64 Try.underlying27 hi0 hz0 hz1 hz2 rfl (by omega)
    _ out.length (out.flatMap oneCells) hown ad m.length c (m.flatMap oneCells) (flat_length oneCells 8 oneCells_length m) (fun j u hu => by
      rcases hA with h0 | ⟨b, off, e, _, hc⟩
      · rw [h0] at hu; cases hu
      · injection e with e
        subst e
        rw [Go.WideShapes.add_plain]
        exact hc j u hu) (onee_one m) (by simp only [maxLen]; omega) (by omega) hB
  have e : out.flatMap oneCells ++ m.flatMap oneCells = (out ++ m).flatMap oneCells := List.flatMap_append.symm
  rw [e, ← List.length_append] at h2
  obtain ⟨A', c', rfl⟩ := own_slice h2
  exact ⟨A', c', w', hr, h2, (Below.refl B w).grown h3 hB (fun k hk => (hown.lt k hk).1), fun base size v n xs h => own_grown h hown (by decide) h3⟩
set_option maxRecDepth 100000 in
theorem wpList_onee_keep {w : World} {ops : Array Oper} {rest : List Oper} {o : Oper} {a : Act} {Q : Exit → Act → World → Prop} (hgd : o.guard = none) (s x : Operand)
    (ho : o.op = .call { callee := .builtin .append, args := #[s, x], argTypes := #[27, 27] })
    {B c0 : Nat} {A0 : Option Addr} {out : List OneV} (hown : OwnE w B A0 c0 out) (hB : B ≤ w.heap.size) {ad : Addr} {m : List OneV} (c : Nat) (hA : OneRow w (some ad) m) (hlen : out.length + m.length ≤ 1099511627776)
    (hs : a.eval s = .slice A0 out.length c0) (hx : a.eval x = .slice (some ad) m.length c)
    (h : ∀ A' c' w', OwnE w' B A' c' (out ++ m) → Below B w w' → (∀ base size v n xs, w.ownsRow base 54 size v n xs → w'.ownsRow base 54 size v n xs) → wpList Try.prog ops Q rest (a.put o.dst (.slice A' (out ++ m).length c')) w') : wpList Try.prog ops Q (o :: rest) a w := by
  refine wpList_plain hgd fun K hK => ?_
  obtain ⟨A', c', w', hrun, h1, h2, h3⟩ := onee_keep hown hB c hA hlen o.type
  unfold Oper.wp execOp
  simp only [ho, resolve, invoke, builtin, Sem.run_bind, Sem.run_pure, Result.andThen_ok, List.map_toArray, List.map_cons, List.map_nil, hs, hx, hrun]
  exact hK _ _ (h A' c' w' h1 h2 h3)

/-! ### The state -/
def OFr (a : Act) (sl so : Value) (g : Nat) : Prop := a.defers = [] ∧ a.tmps.size = 40 ∧ a.tmps[0]? = some sl ∧ a.tmps[2]? = some (.slice none 0 0) ∧ a.tmps[3]? = some so ∧ a.tmps[4]? = some (.pointer (some ⟨g, 0, none⟩))
theorem OFr.out {a : Act} {sl so : Value} {g : Nat} (h : OFr a sl so g) : ∃ F : Nat → Value, a = { tmps := #[sl, F 1, .slice none 0 0, so, .pointer (some ⟨g, 0, none⟩), F 5, F 6, F 7, F 8, F 9, F 10, F 11, F 12, F 13, F 14, F 15, F 16, F 17, F 18, F 19, F 20, F 21, F 22, F 23, F 24, F 25, F 26, F 27, F 28, F 29, F 30, F 31, F 32, F 33, F 34, F 35, F 36, F 37, F 38, F 39], defers := [] } := by
  obtain ⟨t, d⟩ := a
  obtain ⟨rfl, hs, h0, h2, h3, h4⟩ := h
  simp only at hs h0 h2 h3 h4
  refine ⟨fun n => (t[n]?).getD undef, ?_⟩
  have e : t = ((List.range 40).map fun i => (t[i]?).getD undef).toArray := by
    apply Array.ext
    · simp [hs]
    · intro i h1 h2
      simp [h1]
  have e2 : ((List.range 40).map fun i => (t[i]?).getD undef).toArray = #[(t[0]?).getD undef, (t[1]?).getD undef, (t[2]?).getD undef, (t[3]?).getD undef, (t[4]?).getD undef, (t[5]?).getD undef, (t[6]?).getD undef, (t[7]?).getD undef, (t[8]?).getD undef, (t[9]?).getD undef, (t[10]?).getD undef, (t[11]?).getD undef, (t[12]?).getD undef, (t[13]?).getD undef, (t[14]?).getD undef, (t[15]?).getD undef, (t[16]?).getD undef, (t[17]?).getD undef, (t[18]?).getD undef, (t[19]?).getD undef, (t[20]?).getD undef, (t[21]?).getD undef, (t[22]?).getD undef, (t[23]?).getD undef, (t[24]?).getD undef, (t[25]?).getD undef, (t[26]?).getD undef, (t[27]?).getD undef, (t[28]?).getD undef, (t[29]?).getD undef, (t[30]?).getD undef, (t[31]?).getD undef, (t[32]?).getD undef, (t[33]?).getD undef, (t[34]?).getD undef, (t[35]?).getD undef, (t[36]?).getD undef, (t[37]?).getD undef, (t[38]?).getD undef, (t[39]?).getD undef] := rfl
  simp only [h0, h2, h3, h4, Option.getD_some] at e2
  rw [← e2, ← e]
attribute [irreducible] OFr
theorem OFr.mk {t : Array Value} {sl so : Value} {g : Nat} (h : t.size = 40 ∧ t[0]? = some sl ∧ t[2]? = some (.slice none 0 0) ∧ t[3]? = some so ∧ t[4]? = some (.pointer (some ⟨g, 0, none⟩))) : OFr { tmps := t, defers := [] } sl so g := by
  unfold OFr
  exact ⟨rfl, h⟩
/-- What was made, with its parts in memory of the call's own. -/
def Made1 (w : World) (B : Nat) (y : OneV) : Prop := y.Good ∧ w.ownsRow B 54 3 (.slice y.opsA y.k.ops.length y.opsC) y.k.ops.length (y.k.ops.flatMap compCells)
structure OfWk (W : World) (V : Nat) (m p run rest : List ActV) (A0 : Option Addr) (c0 : Nat) (L : List OneV) (A3 : Option Addr) (c3 : Nat) (w : World) : Prop where
  eq : m = p ++ (run ++ rest)
  len : m.length ≤ 1048576
  held : ∀ a ∈ m, ActH a ∧ CompsAt W a.opsA a.ops
  rise : m.Pairwise fun x y => x.id ≤ y.id
  low : ∀ a ∈ p, ∀ b ∈ run ++ rest, a.id < b.id
  acts : ActRow w A0 rest
  cap : rest.length ≤ c0
  far : ∀ b off q, A0 = some ⟨b, off, q⟩ → W.heap.size < b ∧ b < V
  own : OwnE w V A3 c3 L
  map : L.map (·.k) = eff p
  good : ∀ y ∈ L, Made1 w V y
  bel : Below W.heap.size W w
  up : V ≤ w.heap.size
  base : W.heap.size < V
  plen : L.length ≤ p.length
namespace OfWk
variable {W w w' : World} {V : Nat} {m p run rest : List ActV} {A0 A3 : Option Addr} {c0 c3 : Nat} {L : List OneV}
theorem only (h : OfWk W V m p run rest A0 c0 L A3 c3 w) (ho : Only W.heap.size w w') : OfWk W V m p run rest A0 c0 L A3 c3 w' :=
  ⟨h.eq, h.len, h.held, h.rise, h.low, CellsAt.only h.acts ho (fun b off q e => by have := h.far b off q e; omega), h.cap, h.far, own_only h.own ho h.base, h.map, fun y hy => ⟨(h.good y hy).1, own_only (h.good y hy).2 ho h.base⟩, ho.below h.bel (Nat.le_refl _), Nat.le_trans h.up ho.size, h.base, h.plen⟩
theorem below (h : OfWk W V m p run rest A0 c0 L A3 c3 w) (hb : Below w.heap.size w w') : OfWk W V m p run rest A0 c0 L A3 c3 w' := h.only (Only.of_below hb)
theorem llen (h : OfWk W V m p run rest A0 c0 L A3 c3 w) : L.length ≤ 1048576 := by
  have h1 := h.plen
  have h2 := congrArg List.length h.eq
  have := h.len
  rw [List.length_append] at h2
  omega
theorem rlen (h : OfWk W V m p run rest A0 c0 L A3 c3 w) : rest.length ≤ 1048576 := by
  have h2 := congrArg List.length h.eq
  have := h.len
  rw [List.length_append, List.length_append] at h2
  omega
theorem mem (h : OfWk W V m p run rest A0 c0 L A3 c3 w) {a : ActV} (ha : a ∈ rest) : ActH a ∧ CompsAt W a.opsA a.ops := h.held a (by rw [h.eq]; simp [ha])
/-- One group more was told. -/
theorem next {a1 : ActV} {y : OneV} {A4 A5 : Option Addr} {c4 c5 : Nat} (h : OfWk W V m p run (a1 :: rest) A0 c0 L A3 c3 w) (hrn : ∀ b ∈ run, b.id = a1.id) (hk : y.k = effOne (run ++ [a1]) a1.id) (hs : ∀ c ∈ rest, c.id ≠ a1.id)
    (hr : ActRow w A4 rest) (hc : rest.length ≤ c4) (hf : ∀ b off q, A4 = some ⟨b, off, q⟩ → W.heap.size < b ∧ b < V) {z : OneV} (hz : z.k = y.k) (hm : Made1 w V z) (ho : OwnE w' V A5 c5 (L ++ [z])) (hb : Below V w w')
    (hkeep : ∀ base size v n xs, w.ownsRow base 54 size v n xs → w'.ownsRow base 54 size v n xs) :
    OfWk W V m (p ++ (run ++ [a1])) [] rest A4 c4 (L ++ [z]) A5 c5 w' := by
  have hrun : ∀ b ∈ run ++ [a1], b.id = a1.id := fun b hb => by
    rcases List.mem_append.1 hb with hb | hb
    · exact hrn b hb
    · rw [List.mem_singleton.1 hb]
  have hlow : ∀ b ∈ p, b.id < a1.id := fun b hb => h.low b hb a1 (by simp)
  refine ⟨by rw [h.eq]; simp, h.len, h.held, h.rise, fun a ha b hb => ?_, ?_, hc, hf, ho, ?_, fun y hy => ?_, h.bel.trans (hb.mono (Nat.le_of_lt h.base)), Nat.le_trans h.up hb.size, h.base, ?_⟩
  · rw [List.nil_append] at hb
    rcases List.mem_append.1 ha with ha | ha
    · exact h.low a ha b (by simp [hb])
    · rw [hrun a ha]
      have h1 := hs b hb
      have h2 : a1.id ≤ b.id := by
        have h3 := h.rise
        rw [h.eq] at h3
        have h4 := (List.pairwise_append.1 (List.pairwise_append.1 h3).2.1).2.1
        exact (List.pairwise_cons.1 h4).1 b hb
      omega
  · rcases hr with hr | ⟨b, off, rfl, hlt, hcc⟩
    · exact .inl hr
    · have hbV := (hf b off none rfl).2
      refine .inr ⟨b, off, rfl, Nat.lt_of_lt_of_le hlt hb.size, fun j v hj => ?_⟩
      rw [← hcc j v hj]
      exact cell_of_block (hb.block b hbV) _
  · rw [List.map_append, h.map, List.map_singleton, hz, hk]
    exact (eff_group hlow hrun (by simp)).symm
  · rcases List.mem_append.1 hy with hy | hy
    · exact ⟨(h.good y hy).1, hkeep _ _ _ _ _ (h.good y hy).2⟩
    · rw [List.mem_singleton.1 hy]; exact ⟨hm.1, hkeep _ _ _ _ _ hm.2⟩
  · have := h.plen
    simp
    omega
end OfWk
end Go.Proofs.Ytnadhpajelkngaa
