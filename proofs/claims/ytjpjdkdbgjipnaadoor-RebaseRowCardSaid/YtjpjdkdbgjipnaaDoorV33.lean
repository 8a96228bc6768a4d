/- The landed effect's Of: what acts did to whom, by rising IDs. Conditions: at most 2^20 acts, that may be looked at. (Merged of 2 texts.) -/
import Derived.Test.YtjpjdkdbgjipnaaDoorV31
import Derived.Test.YtjpjdkdbgjipnaaDoorV20
import Derived.Test.YtjpjdkdbgjipnaaDoorV32
import Derived.Test.YtjpjdkdbgjipnaaDoorV28
import Derived.Test.YtjpjdkdbgjipnaaDoorV44
namespace Go.Proofs.YtjpjdkdbgjipnaaDoor
open Go.RowKit Go.Deep
theorem yy353 {P : Program} {c r0 r1 : Code} {a : Act} {w : World} {Q : Exit → Act → World → Prop} (J : Nat → Nat → Act → World → Prop)
  (hJ : ∀ l k a w, J l k a w → l < 2) (h0 : findLabel c 0 = some (Code.skip.seq r0)) (h1 : findLabel c 1 = some (Code.skip.seq r1))
  (p1 : PassK P r1 J Q 1) (p0 : PassK P r1 J Q 1 → PassK P r0 J Q 0)
  (first : PassK P r0 J Q 0 → ∃ n, c.wp P (downK J n Q) a w) : (Code.scope c).wp P Q a w := by
 have q0 := p0 p1
 have pass : ∀ l k a w, J l k a w → ∃ r, findLabel c l = some r ∧ r.wp P (downK J k Q) a w := by
  intro l k a w hl
  have := hJ l k a w hl
  match l, this with
  | 0, _ => exact ⟨_, h0, yy73 (q0 k a w hl)⟩
  | 1, _ => exact ⟨_, h1, yy73 (p1 k a w hl)⟩
 obtain ⟨n, hn⟩ := first q0
 intro b k cs
 have key : ∀ n l a w, J l n a w → ∃ rest, findLabel c l = some rest ∧ ∃ e a' w', Q e a' w' ∧ Arrives P (lone (b.at a (.code rest :: .inScope c :: k)) cs w) b k cs e a' w' := by
  intro n
  induction n using Nat.strongRecOn with
  | _ n ih =>
   intro l a w hl
   obtain ⟨rest, hf, hp⟩ := pass l n a w hl
   refine ⟨rest, hf, ?_⟩
   obtain ⟨e, a₁, w₁, hq, harr⟩ := hp b (.inScope c :: k) cs
   cases e with
   | normal => exact ⟨.normal, a₁, w₁, by unfold downK at hq; exact hq, Steps.trans harr (.one step_inScope)⟩
   | exit id => exact ⟨.exit id, a₁, w₁, by unfold downK at hq; exact hq, fun k' hk => harr k' (by simp [exitTo, hk])⟩
   | goto l' =>
    rw [yy1] at hq
    obtain ⟨n', hJ', hlt⟩ := hq
    obtain ⟨rest', hf', e₂, a₂, w₂, hq₂, harr₂⟩ := ih n' hlt l' a₁ w₁ hJ'
    have hg : gotoIn l' (.inScope c :: k) = some (.code rest' :: .inScope c :: k) := by simp [gotoIn, hf']
    exact ⟨e₂, a₂, w₂, hq₂, .of_steps (harr _ hg) harr₂⟩
   | ret => exact ⟨.ret, a₁, w₁, by unfold downK at hq; exact hq, harr⟩
   | panic ch => exact ⟨.panic ch, a₁, w₁, by unfold downK at hq; exact hq, harr⟩
   | outgrown => exact ⟨.outgrown, a₁, w₁, by unfold downK at hq; exact hq, harr⟩
 obtain ⟨e, a₁, w₁, hq, harr⟩ := hn b (.inScope c :: k) cs
 cases e with
 | normal => exact ⟨.normal, a₁, w₁, by unfold downK at hq; exact hq, .head step_scope (Steps.trans harr (.one step_inScope))⟩
 | exit id => exact ⟨.exit id, a₁, w₁, by unfold downK at hq; exact hq, fun k' hk => .head step_scope (harr k' (by simp [exitTo, hk]))⟩
 | goto l' =>
  rw [yy1] at hq
  obtain ⟨n', hJ', _⟩ := hq
  obtain ⟨rest', hf', e₂, a₂, w₂, hq₂, harr₂⟩ := key _ l' a₁ w₁ hJ'
  have hg : gotoIn l' (.inScope c :: k) = some (.code rest' :: .inScope c :: k) := by simp [gotoIn, hf']
  exact ⟨e₂, a₂, w₂, hq₂, .of_steps (.head step_scope (harr _ hg)) harr₂⟩
 | ret => exact ⟨.ret, a₁, w₁, by unfold downK at hq; exact hq, .of_steps (.one step_scope) harr⟩
 | panic ch => exact ⟨.panic ch, a₁, w₁, by unfold downK at hq; exact hq, .of_steps (.one step_scope) harr⟩
 | outgrown => exact ⟨.outgrown, a₁, w₁, by unfold downK at hq; exact hq, .of_steps (.one step_scope) harr⟩
theorem elem_acts : Tryd.prog.elem 23 = 46 := by kernel_rfl
theorem yy700 (w : World) : (sizeOf 46).run Tryd.prog w = .ok 6 w := Tryd.sizeOf46 w
theorem yy393 {w : World} {A : Option Addr} {x : ActV} {l : List ActV} {c : Nat} (h : ActRow w A (x :: l)) (hc : (x :: l).length ≤ c) :
  ∃ b off A', A = some ⟨b, off, none⟩ ∧ b < w.heap.size ∧ (∀ (f : Nat) (v : Value), (yy0 x)[f]? = some v → w.cell? ⟨b, off + f, none⟩ = some v) ∧
   (∀ w, (Instr.slice 23 (.slice (some ⟨b, off, none⟩) (l.length + 1) c) (some (.int .i64 1)) none none).run Tryd.prog w = .ok (.slice A' l.length (c - 1)) w) ∧ ActRow w A' l ∧ l.length ≤ c - 1 ∧ ∀ b' off' q', A' = some ⟨b', off', q'⟩ → b' = b := by
 obtain ⟨b, off, rfl, hb⟩ := h.form (by simp)
 have hc' : l.length + 1 ≤ c := by simpa using hc
 refine ⟨b, off, (if c = 1 then some ⟨b, off, none⟩ else some ⟨b, off + 6, none⟩), rfl, hb, fun f v hf => ?_, fun w => ?_, ?_, by omega, fun b' off' q' e => ?_⟩
 ·exact yy4.cell h (by rw [List.flatMap_cons, List.getElem?_append_left (List.getElem?_eq_some_iff.1 hf).1]; exact hf)
 ·rw [run_slice_l (P := Tryd.prog) (w := w) 23 (some ⟨b, off, none⟩) (l.length + 1) c (by rw [elem_acts]; exact Tryd.underlying23) .i64 (1 : Int) (by omega) (by omega), elem_acts, yy700]
  simp [Result.andThen, sliced]
  try (split <;> simp [Go.WideShapes.add_plain])
 ·by_cases hl : l = []
  ·rw [hl]; exact .inl rfl
  ·have hl0 : 0 < l.length := List.length_pos_iff.2 hl
   rw [if_neg (by omega)]
   rcases h with h | ⟨b', off', e, hlt, hcc⟩
   ·exact absurd (congrArg List.length h) (by simp [yy0])
   ·injection e with e
    injection e with e1 e2
    subst e1 e2
    refine .inr ⟨b, off + 6, rfl, hlt, fun j v hj => ?_⟩
    have := hcc (6 + j) v (by rw [List.flatMap_cons, List.getElem?_append_right (by simp [yy0])]; simpa [yy0] using hj)
    rwa [← Nat.add_assoc] at this
 ·split at e
  ·injection e with e; injection e with e; exact e.symm
  ·injection e with e; injection e with e; exact e.symm
theorem yy4.only {w w' : World} {A : Option Addr} {l : List Value} {g : Nat} (h : yy4 w A l) (ho : Only g w w') (hf : ∀ b off q, A = some ⟨b, off, q⟩ → b ≠ g) : yy4 w' A l := by
 rcases h with h | ⟨b, off, rfl, hlt, hc⟩
 ·exact .inl h
 ·refine .inr ⟨b, off, rfl, Nat.lt_of_lt_of_le hlt ho.size, fun j v hj => ?_⟩
  rw [← hc j v hj]
  exact cell_of_block (ho.block b hlt (hf b off none rfl)) _
set_option maxRecDepth 100000 in
theorem yy597 {w : World} {B c0 : Nat} {A0 : Option Addr} {out : List OneV} (hown : OwnE w B A0 c0 out) (hB : B ≤ w.heap.size) {ad : Addr} {m : List OneV} (c : Nat) (hA : OneRow w (some ad) m) (hlen : out.length + m.length ≤ 1099511627776) (ty : TypeId) :
  ∃ A' c' w', (Builtin.append_ #[32, 32] ty #[.slice A0 out.length c0, .slice (some ad) m.length c]).run Tryd.prog w = .ok (.slice A' (out ++ m).length c') w' ∧ OwnE w' B A' c' (out ++ m) ∧ Below B w w' ∧ ∀ base size v n xs, w.ownsRow base 51 size v n xs → w'.ownsRow base 51 size v n xs := by
 obtain ⟨i0, hi0, hz0, hz1, hz2⟩ := info_parts yy698
 obtain ⟨v', w', hr, h2, h3, _⟩ := run_append_own_wide (P := Tryd.prog) w B 32 ty 48 i0 (.agg #[.int .i64 0, .slice none 0 0, .bool false, .bool false, .bool false, .bool false, .int .i64 0, .string { data := #[] }]) 8 64 Tryd.underlying32 hi0 hz0 hz1 hz2 rfl (by omega)
  _ out.length (out.flatMap yy8) hown ad m.length c (m.flatMap yy8) (yy27 yy8 8 yy23 m) (fun j u hu => by
   rcases hA with h0 | ⟨b, off, e, _, hc⟩
   ·rw [h0] at hu; cases hu
   ·injection e with e
    subst e
    rw [Go.WideShapes.add_plain]
    exact hc j u hu) (yy699 m) (by simp only [maxLen]; omega) (by omega) hB
 have e : out.flatMap yy8 ++ m.flatMap yy8 = (out ++ m).flatMap yy8 := List.flatMap_append.symm
 rw [e, ← List.length_append] at h2
 obtain ⟨A', c', rfl⟩ := own_slice h2
 exact ⟨A', c', w', hr, h2, (Below.refl B w).grown h3 hB (fun k hk => (hown.lt k hk).1), fun base size v n xs h => yy134 h hown (by decide) h3⟩
set_option maxRecDepth 100000 in
theorem yy50 {w : World} {ops : Array Oper} {rest : List Oper} {o : Oper} {a : Act} {Q : Exit → Act → World → Prop} (hgd : o.guard = none) (s x : Operand)
  (ho : o.op = .call { callee := .builtin .append, args := #[s, x], argTypes := #[32, 32] })
  {B c0 : Nat} {A0 : Option Addr} {out : List OneV} (hown : OwnE w B A0 c0 out) (hB : B ≤ w.heap.size) {ad : Addr} {m : List OneV} (c : Nat) (hA : OneRow w (some ad) m) (hlen : out.length + m.length ≤ 1099511627776)
  (hs : a.eval s = .slice A0 out.length c0) (hx : a.eval x = .slice (some ad) m.length c)
  (h : ∀ A' c' w', OwnE w' B A' c' (out ++ m) → Below B w w' → (∀ base size v n xs, w.ownsRow base 51 size v n xs → w'.ownsRow base 51 size v n xs) → wpList Tryd.prog ops Q rest (a.put o.dst (.slice A' (out ++ m).length c')) w') : wpList Tryd.prog ops Q (o :: rest) a w := by
 refine wpList_plain hgd fun K hK => ?_
 obtain ⟨A', c', w', hrun, h1, h2, h3⟩ := yy597 hown hB c hA hlen o.type
 unfold Oper.wp execOp
 simp only [ho, resolve, invoke, builtin, Sem.run_bind, Sem.run_pure, Result.andThen_ok, List.map_toArray, List.map_cons, List.map_nil, hs, hx, hrun]
 exact hK _ _ (h A' c' w' h1 h2 h3)
def OFr (a : Act) (sl so : Value) (g : Nat) : Prop := a.defers = [] ∧ a.tmps.size = 40 ∧ a.tmps[0]? = some sl ∧ a.tmps[2]? = some (.slice none 0 0) ∧ a.tmps[3]? = some so ∧ a.tmps[4]? = some (.pointer (some ⟨g, 0, none⟩))
theorem OFr.out {a : Act} {sl so : Value} {g : Nat} (h : OFr a sl so g) : ∃ F : Nat → Value, a = { tmps := #[sl, F 1, .slice none 0 0, so, .pointer (some ⟨g, 0, none⟩), F 5, F 6, F 7, F 8, F 9, F 10, F 11, F 12, F 13, F 14, F 15, F 16, F 17, F 18, F 19, F 20, F 21, F 22, F 23, F 24, F 25, F 26, F 27, F 28, F 29, F 30, F 31, F 32, F 33, F 34, F 35, F 36, F 37, F 38, F 39], defers := [] } := by
 obtain ⟨t, d⟩ := a
 obtain ⟨rfl, hs, h0, h2, h3, h4⟩ := h
 simp only at hs h0 h2 h3 h4
 refine ⟨fun n => (t[n]?).getD undef, ?_⟩
 have e : t = ((List.range 40).map fun i => (t[i]?).getD undef).toArray := by
  apply Array.ext
  ·simp [hs]
  ·intro i h1 h2
   simp [h1]
 have e2 : ((List.range 40).map fun i => (t[i]?).getD undef).toArray = #[(t[0]?).getD undef, (t[1]?).getD undef, (t[2]?).getD undef, (t[3]?).getD undef, (t[4]?).getD undef, (t[5]?).getD undef, (t[6]?).getD undef, (t[7]?).getD undef, (t[8]?).getD undef, (t[9]?).getD undef, (t[10]?).getD undef, (t[11]?).getD undef, (t[12]?).getD undef, (t[13]?).getD undef, (t[14]?).getD undef, (t[15]?).getD undef, (t[16]?).getD undef, (t[17]?).getD undef, (t[18]?).getD undef, (t[19]?).getD undef, (t[20]?).getD undef, (t[21]?).getD undef, (t[22]?).getD undef, (t[23]?).getD undef, (t[24]?).getD undef, (t[25]?).getD undef, (t[26]?).getD undef, (t[27]?).getD undef, (t[28]?).getD undef, (t[29]?).getD undef, (t[30]?).getD undef, (t[31]?).getD undef, (t[32]?).getD undef, (t[33]?).getD undef, (t[34]?).getD undef, (t[35]?).getD undef, (t[36]?).getD undef, (t[37]?).getD undef, (t[38]?).getD undef, (t[39]?).getD undef] := rfl
 simp only [h0, h2, h3, h4, Option.getD_some] at e2
 rw [← e2, ← e]
attribute [irreducible] OFr
theorem OFr.mk {t : Array Value} {sl so : Value} {g : Nat} (h : t.size = 40 ∧ t[0]? = some sl ∧ t[2]? = some (.slice none 0 0) ∧ t[3]? = some so ∧ t[4]? = some (.pointer (some ⟨g, 0, none⟩))) : OFr { tmps := t, defers := [] } sl so g := by
 unfold OFr
 exact ⟨rfl, h⟩
def Made1 (w : World) (B : Nat) (y : OneV) : Prop := y.Good ∧ w.ownsRow B 51 3 (.slice y.opsA y.k.ops.length y.opsC) y.k.ops.length (y.k.ops.flatMap yy2)
structure OfWk (W : World) (V : Nat) (m p run rest : List ActV) (A0 : Option Addr) (c0 : Nat) (L : List OneV) (A3 : Option Addr) (c3 : Nat) (w : World) : Prop where
 eq : m = p ++ (run ++ rest)
 len : m.length ≤ 1048576
 held : ∀ a ∈ m, ActH a ∧ yy6 W a.opsA a.ops
 rise : m.Pairwise fun x y => x.id ≤ y.id
 low : ∀ a ∈ p, ∀ b ∈ run ++ rest, a.id < b.id
 acts : ActRow w A0 rest
 cap : rest.length ≤ c0
 far : ∀ b off q, A0 = some ⟨b, off, q⟩ → W.heap.size < b ∧ b < V
 own : OwnE w V A3 c3 L
 map : L.map (·.k) = eff p
 good : ∀ y ∈ L, Made1 w V y
 bel : Below W.heap.size W w
 up : V ≤ w.heap.size
 base : W.heap.size < V
 plen : L.length ≤ p.length
namespace OfWk
variable {W w w' : World} {V : Nat} {m p run rest : List ActV} {A0 A3 : Option Addr} {c0 c3 : Nat} {L : List OneV}
theorem only (h : OfWk W V m p run rest A0 c0 L A3 c3 w) (ho : Only W.heap.size w w') : OfWk W V m p run rest A0 c0 L A3 c3 w' :=
 ⟨h.eq, h.len, h.held, h.rise, h.low, yy4.only h.acts ho (fun b off q e => by have := h.far b off q e; omega), h.cap, h.far, yy314 h.own ho h.base, h.map, fun y hy => ⟨(h.good y hy).1, yy314 (h.good y hy).2 ho h.base⟩, ho.below h.bel (Nat.le_refl _), Nat.le_trans h.up ho.size, h.base, h.plen⟩
theorem below (h : OfWk W V m p run rest A0 c0 L A3 c3 w) (hb : Below w.heap.size w w') : OfWk W V m p run rest A0 c0 L A3 c3 w' := h.only (Only.of_below hb)
theorem llen (h : OfWk W V m p run rest A0 c0 L A3 c3 w) : L.length ≤ 1048576 := by
 have h1 := h.plen
 have h2 := congrArg List.length h.eq
 have := h.len
 rw [List.length_append] at h2
 omega
theorem rlen (h : OfWk W V m p run rest A0 c0 L A3 c3 w) : rest.length ≤ 1048576 := by
 have h2 := congrArg List.length h.eq
 have := h.len
 rw [List.length_append, List.length_append] at h2
 omega
theorem mem (h : OfWk W V m p run rest A0 c0 L A3 c3 w) {a : ActV} (ha : a ∈ rest) : ActH a ∧ yy6 W a.opsA a.ops := h.held a (by rw [h.eq]; simp [ha])
theorem next {a1 : ActV} {y : OneV} {A4 A5 : Option Addr} {c4 c5 : Nat} (h : OfWk W V m p run (a1 :: rest) A0 c0 L A3 c3 w) (hrn : ∀ b ∈ run, b.id = a1.id) (hk : y.k = effOne (run ++ [a1]) a1.id) (hs : ∀ c ∈ rest, c.id ≠ a1.id)
  (hr : ActRow w A4 rest) (hc : rest.length ≤ c4) (hf : ∀ b off q, A4 = some ⟨b, off, q⟩ → W.heap.size < b ∧ b < V) {z : OneV} (hz : z.k = y.k) (hm : Made1 w V z) (ho : OwnE w' V A5 c5 (L ++ [z])) (hb : Below V w w')
  (hkeep : ∀ base size v n xs, w.ownsRow base 51 size v n xs → w'.ownsRow base 51 size v n xs) :
  OfWk W V m (p ++ (run ++ [a1])) [] rest A4 c4 (L ++ [z]) A5 c5 w' := by
 have hrun : ∀ b ∈ run ++ [a1], b.id = a1.id := fun b hb => by
  rcases List.mem_append.1 hb with hb | hb
  ·exact hrn b hb
  ·rw [List.mem_singleton.1 hb]
 have hlow : ∀ b ∈ p, b.id < a1.id := fun b hb => h.low b hb a1 (by simp)
 refine ⟨by rw [h.eq]; simp, h.len, h.held, h.rise, fun a ha b hb => ?_, ?_, hc, hf, ho, ?_, fun y hy => ?_, h.bel.trans (hb.mono (Nat.le_of_lt h.base)), Nat.le_trans h.up hb.size, h.base, ?_⟩
 ·rw [List.nil_append] at hb
  rcases List.mem_append.1 ha with ha | ha
  ·exact h.low a ha b (by simp [hb])
  ·rw [hrun a ha]
   have h1 := hs b hb
   have h2 : a1.id ≤ b.id := by
    have h3 := h.rise
    rw [h.eq] at h3
    have h4 := (List.pairwise_append.1 (List.pairwise_append.1 h3).2.1).2.1
    exact (List.pairwise_cons.1 h4).1 b hb
   omega
 ·rcases hr with hr | ⟨b, off, rfl, hlt, hcc⟩
  ·exact .inl hr
  ·have hbV := (hf b off none rfl).2
   refine .inr ⟨b, off, rfl, Nat.lt_of_lt_of_le hlt hb.size, fun j v hj => ?_⟩
   rw [← hcc j v hj]
   exact cell_of_block (hb.block b hbV) _
 ·rw [List.map_append, h.map, List.map_singleton, hz, hk]
  exact (yy596 hlow hrun (by simp)).symm
 ·rcases List.mem_append.1 hy with hy | hy
  ·exact ⟨(h.good y hy).1, hkeep _ _ _ _ _ (h.good y hy).2⟩
  ·rw [List.mem_singleton.1 hy]; exact ⟨hm.1, hkeep _ _ _ _ _ hm.2⟩
 ·have := h.plen
  simp
  omega
end OfWk
def oneF (x : OneV) : Nat → Value := eightV (.int .i64 x.k.id) (.slice x.opsA x.k.ops.length x.opsC) (.bool x.k.edited) (.bool x.k.removed) (.bool x.k.created) (.bool x.k.moved) (.int .i64 x.k.parent) (.string (bstr x.k.name))
def OJ (W : World) (l : List ActV) : Nat → Nat → Act → World → Prop
 | 0, k, a, w => ∃ V m p rest A0 c0 L A3 c3 f8, Ranged l m ∧ OFr a (.slice A0 (List.length rest) c0) (.slice A3 (List.length L) c3) W.heap.size ∧ OfWk W V m p [] rest A0 c0 L A3 c3 w ∧ w.rowIs W.heap.size 48 8 f8 ∧ k = 2 * rest.length + 1
 | 1, k, a, w => ∃ V m p run x a1 rest A0 c0 L A3 c3, Ranged l m ∧ OFr a (.slice A0 (List.length rest + 1) c0) (.slice A3 (List.length L) c3) W.heap.size ∧ OfWk W V m p run (a1 :: rest) A0 c0 L A3 c3 w ∧ w.rowIs W.heap.size 48 8 (oneF x) ∧ (x.k = effOne run a1.id ∧ (∀ b ∈ run, b.id = a1.id) ∧ x.Good ∧ KeyH x.k ∧ yy6 W x.opsA x.k.ops) ∧ k = 2 * (rest.length + 1)
 | _, _, _, _ => False
def yy701 (W : World) (m : List ActV) (e : Ending) (w' : World) : Prop := ∃ L A3 c3, e = .returned (.slice A3 (List.length L) c3) ∧ (∃ V, W.heap.size < V ∧ OwnE w' V A3 c3 L ∧ (∀ y ∈ L, Made1 w' V y)) ∧ L.map (·.k) = eff m ∧ Below W.heap.size W w'
def ofS0 : Sched Nat := (.one 4 (.one 5 .done))
def ofS : Sched Nat := (.quiet 1 (.quiet 2 (.two 0 (.one 3 ofS0) 3 (.one 0 ofS0))))
def QuietP (Q : Exit → Act → World → Prop) : Prop := ∀ c a d v w, Q (.panic c) (Act.put a d v) w → Q (.panic c) a w
theorem yy13 {K : Act → World → Prop} {Q : Exit → Act → World → Prop} (h : QuietP Q) : QuietP (Exit.then K Q) := h
theorem yy22 {J : Nat → Nat → Act → World → Prop} {n : Nat} {P : Program} {fn : Func} {R : Ending → World → Prop} : QuietP (downK J n (bodyPost P fn R)) := by
 intro c a d v w h
 unfold downK at h ⊢
 cases d <;> exact h
theorem yy702 (i : Int) (h : Fit64 i) : (⟨oneZ i, none, 0⟩ : OneV).Good := ⟨h, (by show Fit64 0; unfold Fit64; decide), ⟨fun x hx => (by cases hx), Nat.zero_le _⟩, fun y hy => (by cases hy), Nat.le_refl _, Nat.zero_le _⟩
set_option maxHeartbeats 8000000 in
set_option maxRecDepth 100000 in
theorem yy532 (A : Option Addr) (c : Nat) (l : List ActV) (hl : l.length ≤ 1048576) (hg : ∀ a ∈ l, ActH a) (w : World) (hA : ActsAt w A l) :
  Calls Tryd.prog 16 #[.slice A l.length c] w fun e w' => ∃ m, Ranged l m ∧ yy701 w m e w' := by
 have GB := xh (fun (w1 : World) (h : Below w.heap.size w w1) => yy447 A c l hl w1 (hA.below h))
 have HST : Hid (∀ (m : List ActV) (A1 : Option Addr) (c1 : Nat) (w2 : World), Ranged l m → ActRow w2 A1 m → m.length ≤ c1 → (∀ b off q, A1 = some ⟨b, off, q⟩ → w.heap.size + 1 ≤ b ∧ b < w2.heap.size) → Below w.heap.size w w2 → w.heap.size + 1 ≤ w2.heap.size → OfWk w w2.heap.size m [] [] m A1 c1 [] none 0 w2) :=
  xh (fun m A1 c1 w2 hr ha hc hf hb hu => ⟨rfl, by rw [hr.len]; exact hl, fun a h => ⟨hg a (hr.perm.mem_iff.1 h), hA.2 a (hr.perm.mem_iff.1 h)⟩, hr.rise, fun a h => (by cases h), ha, hc, fun b off q e => hf b off q e, OwnE.nil _ _, rfl, fun y h => (by cases h), hb, Nat.le_refl _, hu, Nat.le_refl _⟩)
 clear hA hg
 obtain ⟨g, HG⟩ : ∃ x, Hid (w.heap.size = x) := ⟨_, rfl⟩
 go_enter Tryd.func16, Tryd.ntmps16
 have HBX := xh (yy32 w 48 (.int .i64 0) (.slice none 0 0) (.bool false) (.bool false) (.bool false) (.bool false) (.int .i64 0) (.string { data := #[] }))
 have GBB := xh (GB.out (w.alloc (.cells #[.int .i64 0, .slice none 0 0, .bool false, .bool false, .bool false, .bool false, .int .i64 0, .string { data := #[] }] 48)) ((Below.refl _ _).alloc (Nat.le_refl _) _))
 clear GB
 go_wp2
 refine yy353 (OJ w l) ?hJ rfl rfl ?p1 ?p0 ?first
 case hJ =>
  intro j k a w h
  match j, h with
  | 0, _ => omega
  | 1, _ => omega
  | (n + 2), h => exact h.elim
 case first =>
  intro P0
  have P0' := xh P0; clear P0
  refine ⟨2 * l.length + 1, ?_⟩
  go_wp2_with fail
  refine (GBB.out).mono ?_
  rintro e w1 ⟨⟨A1, c1, m, rfl, hr, hat, hcap, hfar⟩, hb1⟩
  have hbx := HBX.out.of_block (hb1.block _ HBX.out.lt)
  have hb2 : Below w.heap.size w w1 := ((Below.refl w.heap.size w).alloc (Nat.le_refl _) (Obj.cells #[.int .i64 0, .slice none 0 0, .bool false, .bool false, .bool false, .bool false, .int .i64 0, .string { data := #[] }] 48)).trans (hb1.mono (by simp))
  have HWK := xh (HST.out m A1 c1 w1 hr hat hcap (fun b off q e => by have := hfar b off q e; simpa using this) hb2 (by have := hb1.size; simpa using this))
  have HRG := xh hr
  have hlen := hr.len
  rw [HG.out] at hbx
  have HB8 := xh hbx
  clear hbx hb2 hr hat hcap hfar hb1 HBX HST GBB
  have HLN := xh hlen
  clear hlen
  go_wp2
  go_step3
  rename_i K hK
  rw [HG.out]
  refine hK _ _ (yy100 (Nat.le_refl _) (P0'.out _ _ _ ⟨_, m, [], m, A1, c1, [], none, 0, _, HRG.out, HG.out ▸ OFr.mk ⟨rfl, rfl, rfl, rfl, rfl⟩, HWK.out, HG.out ▸ HB8.out, by rw [HLN.out]⟩))
 case p1 =>
  clear HBX GBB HST
  rintro k act w2 ⟨V, m, p, run, x, a1, rest, A0, c0, L, A3, c3, hr, hf, hw, hrow, ⟨hx, hrn, hxg, hxk, hxc⟩, rfl⟩
  obtain ⟨F, rfl⟩ := hf.out
  clear hf
  rw [HG.out] at hrow ⊢
  have HRG := xh hr
  have HW := xh hw
  have HRN := xh hrn
  have HXK := xh hx
  have HXG := xh hxg
  have HXH := xh hxk
  have HXC := xh hxc
  obtain ⟨b, off, A0', rfl, hblt, hcell, hcut, hrest, hcap', hfar'⟩ := yy393 hw.acts hw.cap
  obtain ⟨n, HN⟩ : ∃ n, Hid (rest.length = n) := ⟨_, xh rfl⟩
  rw [HN.out] at hcut hcap' ⊢
  have HBG : Hid (w.heap.size < b ∧ b < V) := xh (hw.far b off none rfl)
  have HCUT := xh hcut
  have HREST := xh hrest
  have HCAP := xh hcap'
  have HFAR := xh hfar'
  have HCELL := xh hcell
  have HROW := xh hrow
  have HBLT := xh hblt
  have HID : Hid (x.k.id = a1.id) := xh (by rw [hx, yy375])
  obtain ⟨y, HY⟩ : ∃ y, Hid (withV x a1 = y) := ⟨_, xh rfl⟩
  have GW := xh (fun w => yy450 x a1 w)
  rw [HY.out] at GW
  unfold yy8 yy0 at GW
  have HYK : Hid (y.k = yy70 x.k a1) := xh (by rw [← HY.out]; exact yy749 HID.out.symm)
  have hah := hw.mem (List.mem_cons_self ..)
  have HYG : Hid (y.Good ∧ KeyH y.k ∧ yy6 w y.opsA y.k.ops) := xh (by
   rw [HYK.out]
   refine ⟨by rw [← HY.out]; exact yy531 hxg hah.1.1, yy194 hxk hah.1, ?_⟩
   rw [← HYK.out, ← HY.out]
   exact yy449 hxc hah.2)
  have HLL := xh hw.llen
  have hrl : n + 1 ≤ 1048576 := by have := hw.rlen; rw [List.length_cons, HN.out] at this; exact this
  clear hr hw hrn hx hxg hxk hxc hcut hrest hcap' hfar' hblt hah HY hcell hrow
  go_upto_region 7 with fail
  refine Sched.yy563 ofS (by kernel_rfl) (by kernel_rfl) (by first | exact yy13 yy22 | exact yy13 (yy13 yy22) | exact yy13 (yy13 (yy13 yy22))) ?_
  replace HROW := xh HROW.out.drew
  replace HW := xh (HW.out.only (Only.refl _ _).drew)
  have HREST2 : Hid (ActRow w2.drew A0' rest) := xh (yy4.drew HREST.out)
  have HCELL2 : Hid (∀ (f : Nat) (v : Value), (yy0 a1)[f]? = some v → w2.drew.cell? ⟨b, off + f, none⟩ = some v) := xh HCELL.out
  have HBLT2 : Hid (b < w2.drew.heap.size) := xh HBLT.out
  clear HREST HCELL HBLT
  generalize World.drew _ = wd at HROW HW HREST2 HCELL2 HBLT2 ⊢
  simp only [ofS, Sched.picked, List.getElem?_cons_succ, List.getElem?_cons_zero, Option.getD_some]
  repeat (first | (refine Sched.yy714 (by rfl) (fun K hK => ?_); go_big_quiet_op; refine hK _ ?_; clear hK K) | (refine Sched.yy481 (by rfl) ?_; simp only [Act.put, xsa, xsz, xss]))
  refine Sched.walkF_two ?_ ?_
  ·skip
   obtain ⟨z0, z1, z2, z3, z4, z5, z6, z7⟩ := yy10 (show World.rowIs wd g 48 8 (eightV (.int .i64 x.k.id) (.slice x.opsA x.k.ops.length x.opsC) (.bool x.k.edited) (.bool x.k.removed) (.bool x.k.created) (.bool x.k.moved) (.int .i64 x.k.parent) (.string (bstr x.k.name))) from HROW.out)
   refine Sched.walkF_one (by rfl) (fun K hK => ?_)
   go_simp
   refine hK _ _ ?_
   clear hK K z0 z1 z2 z3 z4 z5 z6 z7
   repeat (first | (refine Sched.yy714 (by rfl) (fun K hK => ?_); go_big_quiet_op; refine hK _ ?_; clear hK K) | (refine Sched.yy481 (by rfl) ?_; simp only [Act.put, xsa, xsz, xss]))
   have y0 := HCELL2.out 0 _ rfl
   rw [Nat.add_zero] at y0
   have y1 := HCELL2.out 1 _ rfl
   have y2 := HCELL2.out 2 _ rfl
   have y3 := HCELL2.out 3 _ rfl
   have y4 := HCELL2.out 4 _ rfl
   have y5 := HCELL2.out 5 _ rfl
   refine Sched.walkF_one (by rfl) (fun K hK => ?_)
   go_simp
   refine hK _ _ ?_
   clear hK K y0 y1 y2 y3 y4 y5
   repeat (first | (refine Sched.yy714 (by rfl) (fun K hK => ?_); go_big_quiet_op; refine hK _ ?_; clear hK K) | (refine Sched.yy481 (by rfl) ?_; simp only [Act.put, xsa, xsz, xss]))
   simp only [ofS0, Sched.picked, List.getElem?_cons_succ, List.getElem?_cons_zero, Option.getD_some]
   refine Sched.walkF_one (by rfl) (fun K hK => ?_)
   go_simp
   refine (GW.out _).mono ?_
   rintro e w3 ⟨rfl, hb3⟩
   refine hK _ _ ?_
   clear hK K
   have hrow3 := HROW.out.of_block (hb3.block _ HROW.out.lt)
   replace HW := xh (HW.out.below hb3)
   obtain ⟨⟨a0, f0⟩, ⟨a1c, f1⟩, ⟨a2, f2⟩, ⟨a3, f3⟩, ⟨a4, f4⟩, ⟨a5, f5⟩, ⟨a6, f6⟩, ⟨a7, f7⟩, hres⟩ := yy51 hrow3 (.int .i64 y.k.id) (.slice y.opsA y.k.ops.length y.opsC) (.bool y.k.edited) (.bool y.k.removed) (.bool y.k.created) (.bool y.k.moved) (.int .i64 y.k.parent) (.string (bstr y.k.name))
   have HO : Hid (Only g w3 _) := xh (((((((((Only.refl g w3).set 0 (.int .i64 y.k.id)).set 1 (.slice y.opsA y.k.ops.length y.opsC)).set 2 (.bool y.k.edited)).set 3 (.bool y.k.removed)).set 4 (.bool y.k.created)).set 5 (.bool y.k.moved)).set 6 (.int .i64 y.k.parent)).set 7 (.string (bstr y.k.name)))
   have HRES : Hid (World.rowIs _ g 48 8 (oneF y)) := xh hres
   have HREST3 := xh (yy4.below HREST2.out hb3)
   clear hres hrow3 hb3
   refine Sched.walkF_one (by rfl) (fun K hK => ?_)
   go_simp
   refine hK _ _ ?_
   clear hK K a0 f0 a1c f1 a2 f2 a3 f3 a4 f4 a5 f5 a6 f6 a7 f7
   have HREST4 := xh (yy4.only HREST3.out HO.out (fun b2 off2 q2 e => by have := HFAR.out b2 off2 q2 e; have := HBG.out; have := HG.out; omega))
   replace HW := xh (HW.out.only (by rw [HG.out]; exact HO.out))
   generalize World.setCell _ _ _ = w4 at HW HREST4 HRES HO ⊢
   clear HREST2 HREST3 HO HROW HCELL2 HBLT2 GW
   refine Sched.yy728 ?_
   have hcut := HCUT.out
   by_cases hr0 : n = 0
   ·have HR0 : Hid (rest = []) := xh (List.length_eq_zero_iff.1 (HN.out.trans hr0))
    have hz1 : ¬ (0 : Int) < (n : Int) := by omega
    have hz2 : decide (0 < n) = false := decide_eq_false (by omega)
    clear hr0
    go_upto_region 9 with fail
    clear hcut
    refine yy28 (yy18 []) [(0, true), (1, true), (2, true), (3, true), (4, true), (5, true), (6, true), (7, true), (8, true), (9, true), (10, true), (11, true)] (by kernel_rfl) (by kernel_rfl) (by first | exact yy13 yy22 | exact yy13 (yy13 yy22) | exact yy13 (yy13 (yy13 yy22))) ?_
    replace HW := xh (HW.out.only (Only.refl _ _).drew)
    replace HRES := xh HRES.out.drew
    have HREST5 : Hid (ActRow w4.drew A0' rest) := xh (yy4.drew HREST4.out)
    clear HREST4
    generalize World.drew _ = w5 at HW HRES HREST5 ⊢
    simp only [picked, xmc, xmn, xgs, xgz, xgd]
    repeat (first | (refine yy44 (by rfl) (fun K hK => ?_); go_big_quiet_op; refine hK _ ?_; clear hK K) | (refine yy158 (by rfl) ?_; simp only [Act.put, xsa, xsz, xss]))
    refine yy142 ?_
    have HSAME : Hid (∀ c ∈ rest, c.id ≠ y.k.id) := xh (by rw [HR0.out]; intro c hc; cases hc)
    have HOW := xh (yy81 y HYG.out.1 HYG.out.2.1 w5 (HYG.out.2.2.below HW.out.bel))
    unfold yy8 at HOW
    obtain ⟨z0, z1, z2, z3, z4, z5, z6, z7⟩ := yy10 (show World.rowIs w5 g 48 8 (eightV (.int .i64 y.k.id) (.slice y.opsA y.k.ops.length y.opsC) (.bool y.k.edited) (.bool y.k.removed) (.bool y.k.created) (.bool y.k.moved) (.int .i64 y.k.parent) (.string (bstr y.k.name))) from HRES.out)
    go_wp2_with fail
    clear z0 z1 z2 z3 z4 z5 z6 z7
    refine (HOW.out).mono ?_
    rintro e w6 ⟨⟨A2, c2, rfl, h1, h2, hown6⟩, hb6⟩
    have HMADE : Hid (Made1 w6 V ⟨y.k, A2, c2⟩) := xh ⟨⟨HYG.out.1.1, HYG.out.1.2.1, HYG.out.1.2.2.1, HYG.out.1.2.2.2.1, h1, h2⟩, yy34 hown6 HW.out.up⟩
    have HRES6 := xh (HRES.out.of_block (hb6.block _ HRES.out.lt))
    have HREST6 := xh (yy4.below HREST5.out hb6)
    replace HW := xh (HW.out.below hb6)
    clear h1 h2 hown6 hb6 HRES HREST5 HOW
    have hll := HLL.out
    have HBL := xh ((Below.refl w6.heap.size w6).alloc (Nat.le_refl _) (Obj.cells (yy8 ⟨y.k, A2, c2⟩).toArray 48))
    have HWA := xh (HW.out.below HBL.out)
    have HRA := xh (yy4.below HREST6.out HBL.out)
    have HMA : Hid (Made1 _ V ⟨y.k, A2, c2⟩) := xh ⟨HMADE.out.1, own_below HMADE.out.2 HBL.out⟩
    have HXA := xh (HRES6.out.of_block (HBL.out.block _ HRES6.out.lt))
    go_wp2_with (at_builtin
                 go_loud (refine yy50 rfl (.tmp 35) (.tmp 38) rfl (B := V) (out := L) (m := [⟨y.k, A2, c2⟩]) HWA.out.own HWA.out.up 1 (yy207 w6 ⟨y.k, A2, c2⟩ _ rfl) (by simp; omega) rfl rfl ?_)
                 intro A7 c7 w7 hown hbel hkeep
                 have HO7 := xh hown
                 have HBE7 := xh hbel
                 have HK7 := xh hkeep
                 clear hown hbel hkeep)
    go_step3
    first | rw [yy1] | rw [yy7, yy1] | rw [yy9, yy7, yy1] | rw [yy9, yy1]
    have HYI2 : Hid (y.k.id = a1.id) := xh (by rw [HYK.out, yy71]; exact HID.out)
    have hN := HN.out
    have hgV : g < V := by have := HWA.out.base; have := HG.out; omega
    refine ⟨2 * rest.length + 1, ⟨V, m, p ++ (run ++ [a1]), rest, A0', c0 - 1, L ++ [⟨y.k, A2, c2⟩], A7, c7, oneF y, HRG.out, ?_, ?_, ?_, rfl⟩, by omega⟩
    ·rw [HG.out]; exact OFr.mk ⟨rfl, by rw [hN]; rfl, rfl, by rw [List.length_append]; rfl, rfl⟩
    ·exact HWA.out.next HRN.out (by rw [HYK.out, HXK.out]; exact (yy76 run a1 a1.id).symm) (by rw [← HYI2.out]; exact HSAME.out) HRA.out (by rw [hN]; exact HCAP.out) (fun b3 off3 q3 e3 => by have h3 := HFAR.out b3 off3 q3 e3; rw [h3]; exact HBG.out) rfl HMA.out HO7.out HBE7.out HK7.out
    ·rw [HG.out]; exact HXA.out.of_block (HBE7.out.block _ hgV)
   ·have hz1 : (0 : Int) < (n : Int) := by omega
    have hz2 : decide (0 < n) = true := decide_eq_true (by omega)
    obtain ⟨a2, rest2, hr2⟩ : ∃ a2 rest2, rest = a2 :: rest2 := by
     cases rest with
     | nil => exact absurd HN.out.symm (by simpa using hr0)
     | cons a2 rest2 => exact ⟨a2, rest2, rfl⟩
    have HR2 := xh hr2
    clear hr0
    go_upto_region 9 with fail
    clear hcut
    obtain ⟨b2, off2, hA2, hlt2⟩ := ActRow.form HREST4.out (by rw [hr2]; simp)
    have hb2 := HFAR.out b2 off2 none hA2
    subst hb2
    subst hA2
    have hq : w4.cell? ⟨b2, off2 + 1, none⟩ = some (.int .i64 a2.id) := yy4.cell HREST4.out (by rw [hr2]; rfl)
    have hz := HRES.out.cell (i := 0) (by omega)
    have hne : b2 ≠ g := by have := HBG.out; have := HG.out; omega
    have HYI : Hid (y.k.id = a1.id) := xh (by rw [HYK.out, yy71]; exact HID.out)
    have e1 : ∀ e : ExtK (yy18 [b2, g]) w4.drew, e.val.cell? ⟨b2, off2 + 1, none⟩ = some (.int .i64 a2.id) := fun e => (cell_of_block (e.property.2 b2 (by simp)) _).trans hq
    have e2 : ∀ e : ExtK (yy18 [b2, g]) w4.drew, e.val.cell? ⟨g, 0, none⟩ = some (.int .i64 y.k.id) := fun e => (cell_of_block (e.property.2 g (by simp)) _).trans hz
    clear hq hz hr2
    refine yy28 (yy18 [b2, g]) [(0, true), (1, true), (2, true), (3, true), (4, true), (5, true), (6, true), (7, true), (8, true), (9, true), (10, true), (11, true)] (by kernel_rfl) (by kernel_rfl) (by first | exact yy13 yy22 | exact yy13 (yy13 yy22) | exact yy13 (yy13 (yy13 yy22))) ?_
    replace HW := xh (HW.out.only (Only.refl _ _).drew)
    replace HRES := xh HRES.out.drew
    have HREST5 : Hid (ActRow w4.drew (some ⟨b2, off2, none⟩) rest) := xh (yy4.drew HREST4.out)
    clear HREST4
    generalize World.drew _ = w5 at HW HRES HREST5 e1 e2 ⊢
    simp only [picked, xmc, xmn, xgs, xgz, xgd]
    by_cases hsame : a2.id = y.k.id
    ·have t1 : (a2.id == y.k.id) = true := beq_iff_eq.2 hsame
     have HS2 := xh hsame
     clear hsame
     repeat (first | (refine yy44 (by rfl) (fun K hK => ?_); go_big_quiet_op; refine hK _ ?_; clear hK K) | (refine yy158 (by rfl) ?_; simp only [Act.put, xsa, xsz, xss]))
     refine yy142 ?_
     clear e1 e2 hz1 hz2
     go_wp2
     go_step3
     first | rw [yy1] | rw [yy7, yy1] | rw [yy9, yy7, yy1] | rw [yy9, yy1]
     have hAI : a2.id = a1.id := HS2.out.trans HYI.out
     have hN := HN.out
     have hrr := HR2.out
     subst hrr
     rw [List.length_cons] at hN
     refine ⟨2 * (rest2.length + 1), ⟨V, m, p, run ++ [a1], y, a2, rest2, some ⟨b2, off2, none⟩, c0 - 1, L, A3, c3, HRG.out, ?_, ?_, ?_, ⟨?_, ?_, HYG.out.1, HYG.out.2.1, HYG.out.2.2⟩, rfl⟩, by omega⟩
     ·rw [HG.out]; exact OFr.mk ⟨rfl, by rw [hN]; rfl, rfl, rfl, rfl⟩
     ·have h := HW.out
      exact ⟨by rw [h.eq]; simp, h.len, h.held, h.rise, fun a ha b hb => h.low a ha b (by simp only [List.append_assoc, List.singleton_append] at hb; exact hb), HREST5.out, by rw [List.length_cons, hN]; exact HCAP.out, fun b off q e => by injection e with e; injection e with e; rw [← e]; exact HBG.out, h.own, h.map, h.good, h.bel, h.up, h.base, h.plen⟩
     ·rw [HG.out]; exact HRES.out
     ·rw [hAI, HYK.out, HXK.out]
      exact (yy76 run a1 a1.id).symm
     ·intro c hc
      rw [hAI]
      rcases List.mem_append.1 hc with hc | hc
      ·exact HRN.out c hc
      ·rw [List.mem_singleton.1 hc]
    ·have t1 : (a2.id == y.k.id) = false := xn hsame
     have HS2 := xh hsame
     clear hsame
     repeat (first | (refine yy44 (by rfl) (fun K hK => ?_); go_big_quiet_op; refine hK _ ?_; clear hK K) | (refine yy158 (by rfl) ?_; simp only [Act.put, xsa, xsz, xss]))
     refine yy142 ?_
     clear e1 e2 hz1 hz2
     have HSAME : Hid (∀ c ∈ rest, c.id ≠ y.k.id) := xh (by
      intro c hc e
      have hris := HW.out.rise
      have h3 := HW.out.eq
      rw [HR2.out] at h3 hc
      rw [h3] at hris
      have h4 := (List.pairwise_append.1 (List.pairwise_append.1 hris).2.1).2.1
      have h5 := List.pairwise_cons.1 h4
      have h6 := (List.pairwise_cons.1 h5.2).1
      have h7 := h5.1 a2 (List.mem_cons_self ..)
      have h8 := HS2.out
      have h9 := HYI.out
      rcases List.mem_cons.1 hc with rfl | hc
      ·exact h8 e
      ·have := h6 c hc
       omega)
     have HOW := xh (yy81 y HYG.out.1 HYG.out.2.1 w5 (HYG.out.2.2.below HW.out.bel))
     unfold yy8 at HOW
     obtain ⟨z0, z1, z2, z3, z4, z5, z6, z7⟩ := yy10 (show World.rowIs w5 g 48 8 (eightV (.int .i64 y.k.id) (.slice y.opsA y.k.ops.length y.opsC) (.bool y.k.edited) (.bool y.k.removed) (.bool y.k.created) (.bool y.k.moved) (.int .i64 y.k.parent) (.string (bstr y.k.name))) from HRES.out)
     go_wp2_with fail
     clear z0 z1 z2 z3 z4 z5 z6 z7
     refine (HOW.out).mono ?_
     rintro e w6 ⟨⟨A2, c2, rfl, h1, h2, hown6⟩, hb6⟩
     have HMADE : Hid (Made1 w6 V ⟨y.k, A2, c2⟩) := xh ⟨⟨HYG.out.1.1, HYG.out.1.2.1, HYG.out.1.2.2.1, HYG.out.1.2.2.2.1, h1, h2⟩, yy34 hown6 HW.out.up⟩
     have HRES6 := xh (HRES.out.of_block (hb6.block _ HRES.out.lt))
     have HREST6 := xh (yy4.below HREST5.out hb6)
     replace HW := xh (HW.out.below hb6)
     clear h1 h2 hown6 hb6 HRES HREST5 HOW
     have hll := HLL.out
     have HBL := xh ((Below.refl w6.heap.size w6).alloc (Nat.le_refl _) (Obj.cells (yy8 ⟨y.k, A2, c2⟩).toArray 48))
     have HWA := xh (HW.out.below HBL.out)
     have HRA := xh (yy4.below HREST6.out HBL.out)
     have HMA : Hid (Made1 _ V ⟨y.k, A2, c2⟩) := xh ⟨HMADE.out.1, own_below HMADE.out.2 HBL.out⟩
     have HXA := xh (HRES6.out.of_block (HBL.out.block _ HRES6.out.lt))
     go_wp2_with (at_builtin
                  go_loud (refine yy50 rfl (.tmp 35) (.tmp 38) rfl (B := V) (out := L) (m := [⟨y.k, A2, c2⟩]) HWA.out.own HWA.out.up 1 (yy207 w6 ⟨y.k, A2, c2⟩ _ rfl) (by simp; omega) rfl rfl ?_)
                  intro A7 c7 w7 hown hbel hkeep
                  have HO7 := xh hown
                  have HBE7 := xh hbel
                  have HK7 := xh hkeep
                  clear hown hbel hkeep)
     go_step3
     first | rw [yy1] | rw [yy7, yy1] | rw [yy9, yy7, yy1] | rw [yy9, yy1]
     have HYI2 : Hid (y.k.id = a1.id) := xh (by rw [HYK.out, yy71]; exact HID.out)
     have hN := HN.out
     have hgV : g < V := by have := HWA.out.base; have := HG.out; omega
     refine ⟨2 * rest.length + 1, ⟨V, m, p ++ (run ++ [a1]), rest, (some ⟨b2, off2, none⟩), c0 - 1, L ++ [⟨y.k, A2, c2⟩], A7, c7, oneF y, HRG.out, ?_, ?_, ?_, rfl⟩, by omega⟩
     ·rw [HG.out]; exact OFr.mk ⟨rfl, by rw [hN]; rfl, rfl, by rw [List.length_append]; rfl, rfl⟩
     ·exact HWA.out.next HRN.out (by rw [HYK.out, HXK.out]; exact (yy76 run a1 a1.id).symm) (by rw [← HYI2.out]; exact HSAME.out) HRA.out (by rw [hN]; exact HCAP.out) (fun b3 off3 q3 e3 => by have h3 := HFAR.out b3 off3 q3 e3; rw [h3]; exact HBG.out) rfl HMA.out HO7.out HBE7.out HK7.out
     ·rw [HG.out]; exact HXA.out.of_block (HBE7.out.block _ hgV)
  ·skip
   have y0 := HCELL2.out 0 _ rfl
   rw [Nat.add_zero] at y0
   have y1 := HCELL2.out 1 _ rfl
   have y2 := HCELL2.out 2 _ rfl
   have y3 := HCELL2.out 3 _ rfl
   have y4 := HCELL2.out 4 _ rfl
   have y5 := HCELL2.out 5 _ rfl
   refine Sched.walkF_one (by rfl) (fun K hK => ?_)
   go_simp
   refine hK _ _ ?_
   clear hK K y0 y1 y2 y3 y4 y5
   repeat (first | (refine Sched.yy714 (by rfl) (fun K hK => ?_); go_big_quiet_op; refine hK _ ?_; clear hK K) | (refine Sched.yy481 (by rfl) ?_; simp only [Act.put, xsa, xsz, xss]))
   obtain ⟨z0, z1, z2, z3, z4, z5, z6, z7⟩ := yy10 (show World.rowIs wd g 48 8 (eightV (.int .i64 x.k.id) (.slice x.opsA x.k.ops.length x.opsC) (.bool x.k.edited) (.bool x.k.removed) (.bool x.k.created) (.bool x.k.moved) (.int .i64 x.k.parent) (.string (bstr x.k.name))) from HROW.out)
   refine Sched.walkF_one (by rfl) (fun K hK => ?_)
   go_simp
   refine hK _ _ ?_
   clear hK K z0 z1 z2 z3 z4 z5 z6 z7
   repeat (first | (refine Sched.yy714 (by rfl) (fun K hK => ?_); go_big_quiet_op; refine hK _ ?_; clear hK K) | (refine Sched.yy481 (by rfl) ?_; simp only [Act.put, xsa, xsz, xss]))
   simp only [ofS0, Sched.picked, List.getElem?_cons_succ, List.getElem?_cons_zero, Option.getD_some]
   refine Sched.walkF_one (by rfl) (fun K hK => ?_)
   go_simp
   refine (GW.out _).mono ?_
   rintro e w3 ⟨rfl, hb3⟩
   refine hK _ _ ?_
   clear hK K
   have hrow3 := HROW.out.of_block (hb3.block _ HROW.out.lt)
   replace HW := xh (HW.out.below hb3)
   obtain ⟨⟨a0, f0⟩, ⟨a1c, f1⟩, ⟨a2, f2⟩, ⟨a3, f3⟩, ⟨a4, f4⟩, ⟨a5, f5⟩, ⟨a6, f6⟩, ⟨a7, f7⟩, hres⟩ := yy51 hrow3 (.int .i64 y.k.id) (.slice y.opsA y.k.ops.length y.opsC) (.bool y.k.edited) (.bool y.k.removed) (.bool y.k.created) (.bool y.k.moved) (.int .i64 y.k.parent) (.string (bstr y.k.name))
   have HO : Hid (Only g w3 _) := xh (((((((((Only.refl g w3).set 0 (.int .i64 y.k.id)).set 1 (.slice y.opsA y.k.ops.length y.opsC)).set 2 (.bool y.k.edited)).set 3 (.bool y.k.removed)).set 4 (.bool y.k.created)).set 5 (.bool y.k.moved)).set 6 (.int .i64 y.k.parent)).set 7 (.string (bstr y.k.name)))
   have HRES : Hid (World.rowIs _ g 48 8 (oneF y)) := xh hres
   have HREST3 := xh (yy4.below HREST2.out hb3)
   clear hres hrow3 hb3
   refine Sched.walkF_one (by rfl) (fun K hK => ?_)
   go_simp
   refine hK _ _ ?_
   clear hK K a0 f0 a1c f1 a2 f2 a3 f3 a4 f4 a5 f5 a6 f6 a7 f7
   have HREST4 := xh (yy4.only HREST3.out HO.out (fun b2 off2 q2 e => by have := HFAR.out b2 off2 q2 e; have := HBG.out; have := HG.out; omega))
   replace HW := xh (HW.out.only (by rw [HG.out]; exact HO.out))
   generalize World.setCell _ _ _ = w4 at HW HREST4 HRES HO ⊢
   clear HREST2 HREST3 HO HROW HCELL2 HBLT2 GW
   refine Sched.yy728 ?_
   have hcut := HCUT.out
   by_cases hr0 : n = 0
   ·have HR0 : Hid (rest = []) := xh (List.length_eq_zero_iff.1 (HN.out.trans hr0))
    have hz1 : ¬ (0 : Int) < (n : Int) := by omega
    have hz2 : decide (0 < n) = false := decide_eq_false (by omega)
    clear hr0
    go_upto_region 9 with fail
    clear hcut
    refine yy28 (yy18 []) [(0, true), (1, true), (2, true), (3, true), (4, true), (5, true), (6, true), (7, true), (8, true), (9, true), (10, true), (11, true)] (by kernel_rfl) (by kernel_rfl) (by first | exact yy13 yy22 | exact yy13 (yy13 yy22) | exact yy13 (yy13 (yy13 yy22))) ?_
    replace HW := xh (HW.out.only (Only.refl _ _).drew)
    replace HRES := xh HRES.out.drew
    have HREST5 : Hid (ActRow w4.drew A0' rest) := xh (yy4.drew HREST4.out)
    clear HREST4
    generalize World.drew _ = w5 at HW HRES HREST5 ⊢
    simp only [picked, xmc, xmn, xgs, xgz, xgd]
    repeat (first | (refine yy44 (by rfl) (fun K hK => ?_); go_big_quiet_op; refine hK _ ?_; clear hK K) | (refine yy158 (by rfl) ?_; simp only [Act.put, xsa, xsz, xss]))
    refine yy142 ?_
    have HSAME : Hid (∀ c ∈ rest, c.id ≠ y.k.id) := xh (by rw [HR0.out]; intro c hc; cases hc)
    have HOW := xh (yy81 y HYG.out.1 HYG.out.2.1 w5 (HYG.out.2.2.below HW.out.bel))
    unfold yy8 at HOW
    obtain ⟨z0, z1, z2, z3, z4, z5, z6, z7⟩ := yy10 (show World.rowIs w5 g 48 8 (eightV (.int .i64 y.k.id) (.slice y.opsA y.k.ops.length y.opsC) (.bool y.k.edited) (.bool y.k.removed) (.bool y.k.created) (.bool y.k.moved) (.int .i64 y.k.parent) (.string (bstr y.k.name))) from HRES.out)
    go_wp2_with fail
    clear z0 z1 z2 z3 z4 z5 z6 z7
    refine (HOW.out).mono ?_
    rintro e w6 ⟨⟨A2, c2, rfl, h1, h2, hown6⟩, hb6⟩
    have HMADE : Hid (Made1 w6 V ⟨y.k, A2, c2⟩) := xh ⟨⟨HYG.out.1.1, HYG.out.1.2.1, HYG.out.1.2.2.1, HYG.out.1.2.2.2.1, h1, h2⟩, yy34 hown6 HW.out.up⟩
    have HRES6 := xh (HRES.out.of_block (hb6.block _ HRES.out.lt))
    have HREST6 := xh (yy4.below HREST5.out hb6)
    replace HW := xh (HW.out.below hb6)
    clear h1 h2 hown6 hb6 HRES HREST5 HOW
    have hll := HLL.out
    have HBL := xh ((Below.refl w6.heap.size w6).alloc (Nat.le_refl _) (Obj.cells (yy8 ⟨y.k, A2, c2⟩).toArray 48))
    have HWA := xh (HW.out.below HBL.out)
    have HRA := xh (yy4.below HREST6.out HBL.out)
    have HMA : Hid (Made1 _ V ⟨y.k, A2, c2⟩) := xh ⟨HMADE.out.1, own_below HMADE.out.2 HBL.out⟩
    have HXA := xh (HRES6.out.of_block (HBL.out.block _ HRES6.out.lt))
    go_wp2_with (at_builtin
                 go_loud (refine yy50 rfl (.tmp 35) (.tmp 38) rfl (B := V) (out := L) (m := [⟨y.k, A2, c2⟩]) HWA.out.own HWA.out.up 1 (yy207 w6 ⟨y.k, A2, c2⟩ _ rfl) (by simp; omega) rfl rfl ?_)
                 intro A7 c7 w7 hown hbel hkeep
                 have HO7 := xh hown
                 have HBE7 := xh hbel
                 have HK7 := xh hkeep
                 clear hown hbel hkeep)
    go_step3
    first | rw [yy1] | rw [yy7, yy1] | rw [yy9, yy7, yy1] | rw [yy9, yy1]
    have HYI2 : Hid (y.k.id = a1.id) := xh (by rw [HYK.out, yy71]; exact HID.out)
    have hN := HN.out
    have hgV : g < V := by have := HWA.out.base; have := HG.out; omega
    refine ⟨2 * rest.length + 1, ⟨V, m, p ++ (run ++ [a1]), rest, A0', c0 - 1, L ++ [⟨y.k, A2, c2⟩], A7, c7, oneF y, HRG.out, ?_, ?_, ?_, rfl⟩, by omega⟩
    ·rw [HG.out]; exact OFr.mk ⟨rfl, by rw [hN]; rfl, rfl, by rw [List.length_append]; rfl, rfl⟩
    ·exact HWA.out.next HRN.out (by rw [HYK.out, HXK.out]; exact (yy76 run a1 a1.id).symm) (by rw [← HYI2.out]; exact HSAME.out) HRA.out (by rw [hN]; exact HCAP.out) (fun b3 off3 q3 e3 => by have h3 := HFAR.out b3 off3 q3 e3; rw [h3]; exact HBG.out) rfl HMA.out HO7.out HBE7.out HK7.out
    ·rw [HG.out]; exact HXA.out.of_block (HBE7.out.block _ hgV)
   ·have hz1 : (0 : Int) < (n : Int) := by omega
    have hz2 : decide (0 < n) = true := decide_eq_true (by omega)
    obtain ⟨a2, rest2, hr2⟩ : ∃ a2 rest2, rest = a2 :: rest2 := by
     cases rest with
     | nil => exact absurd HN.out.symm (by simpa using hr0)
     | cons a2 rest2 => exact ⟨a2, rest2, rfl⟩
    have HR2 := xh hr2
    clear hr0
    go_upto_region 9 with fail
    clear hcut
    obtain ⟨b2, off2, hA2, hlt2⟩ := ActRow.form HREST4.out (by rw [hr2]; simp)
    have hb2 := HFAR.out b2 off2 none hA2
    subst hb2
    subst hA2
    have hq : w4.cell? ⟨b2, off2 + 1, none⟩ = some (.int .i64 a2.id) := yy4.cell HREST4.out (by rw [hr2]; rfl)
    have hz := HRES.out.cell (i := 0) (by omega)
    have hne : b2 ≠ g := by have := HBG.out; have := HG.out; omega
    have HYI : Hid (y.k.id = a1.id) := xh (by rw [HYK.out, yy71]; exact HID.out)
    have e1 : ∀ e : ExtK (yy18 [b2, g]) w4.drew, e.val.cell? ⟨b2, off2 + 1, none⟩ = some (.int .i64 a2.id) := fun e => (cell_of_block (e.property.2 b2 (by simp)) _).trans hq
    have e2 : ∀ e : ExtK (yy18 [b2, g]) w4.drew, e.val.cell? ⟨g, 0, none⟩ = some (.int .i64 y.k.id) := fun e => (cell_of_block (e.property.2 g (by simp)) _).trans hz
    clear hq hz hr2
    refine yy28 (yy18 [b2, g]) [(0, true), (1, true), (2, true), (3, true), (4, true), (5, true), (6, true), (7, true), (8, true), (9, true), (10, true), (11, true)] (by kernel_rfl) (by kernel_rfl) (by first | exact yy13 yy22 | exact yy13 (yy13 yy22) | exact yy13 (yy13 (yy13 yy22))) ?_
    replace HW := xh (HW.out.only (Only.refl _ _).drew)
    replace HRES := xh HRES.out.drew
    have HREST5 : Hid (ActRow w4.drew (some ⟨b2, off2, none⟩) rest) := xh (yy4.drew HREST4.out)
    clear HREST4
    generalize World.drew _ = w5 at HW HRES HREST5 e1 e2 ⊢
    simp only [picked, xmc, xmn, xgs, xgz, xgd]
    by_cases hsame : a2.id = y.k.id
    ·have t1 : (a2.id == y.k.id) = true := beq_iff_eq.2 hsame
     have HS2 := xh hsame
     clear hsame
     repeat (first | (refine yy44 (by rfl) (fun K hK => ?_); go_big_quiet_op; refine hK _ ?_; clear hK K) | (refine yy158 (by rfl) ?_; simp only [Act.put, xsa, xsz, xss]))
     refine yy142 ?_
     clear e1 e2 hz1 hz2
     go_wp2
     go_step3
     first | rw [yy1] | rw [yy7, yy1] | rw [yy9, yy7, yy1] | rw [yy9, yy1]
     have hAI : a2.id = a1.id := HS2.out.trans HYI.out
     have hN := HN.out
     have hrr := HR2.out
     subst hrr
     rw [List.length_cons] at hN
     refine ⟨2 * (rest2.length + 1), ⟨V, m, p, run ++ [a1], y, a2, rest2, some ⟨b2, off2, none⟩, c0 - 1, L, A3, c3, HRG.out, ?_, ?_, ?_, ⟨?_, ?_, HYG.out.1, HYG.out.2.1, HYG.out.2.2⟩, rfl⟩, by omega⟩
     ·rw [HG.out]; exact OFr.mk ⟨rfl, by rw [hN]; rfl, rfl, rfl, rfl⟩
     ·have h := HW.out
      exact ⟨by rw [h.eq]; simp, h.len, h.held, h.rise, fun a ha b hb => h.low a ha b (by simp only [List.append_assoc, List.singleton_append] at hb; exact hb), HREST5.out, by rw [List.length_cons, hN]; exact HCAP.out, fun b off q e => by injection e with e; injection e with e; rw [← e]; exact HBG.out, h.own, h.map, h.good, h.bel, h.up, h.base, h.plen⟩
     ·rw [HG.out]; exact HRES.out
     ·rw [hAI, HYK.out, HXK.out]
      exact (yy76 run a1 a1.id).symm
     ·intro c hc
      rw [hAI]
      rcases List.mem_append.1 hc with hc | hc
      ·exact HRN.out c hc
      ·rw [List.mem_singleton.1 hc]
    ·have t1 : (a2.id == y.k.id) = false := xn hsame
     have HS2 := xh hsame
     clear hsame
     repeat (first | (refine yy44 (by rfl) (fun K hK => ?_); go_big_quiet_op; refine hK _ ?_; clear hK K) | (refine yy158 (by rfl) ?_; simp only [Act.put, xsa, xsz, xss]))
     refine yy142 ?_
     clear e1 e2 hz1 hz2
     have HSAME : Hid (∀ c ∈ rest, c.id ≠ y.k.id) := xh (by
      intro c hc e
      have hris := HW.out.rise
      have h3 := HW.out.eq
      rw [HR2.out] at h3 hc
      rw [h3] at hris
      have h4 := (List.pairwise_append.1 (List.pairwise_append.1 hris).2.1).2.1
      have h5 := List.pairwise_cons.1 h4
      have h6 := (List.pairwise_cons.1 h5.2).1
      have h7 := h5.1 a2 (List.mem_cons_self ..)
      have h8 := HS2.out
      have h9 := HYI.out
      rcases List.mem_cons.1 hc with rfl | hc
      ·exact h8 e
      ·have := h6 c hc
       omega)
     have HOW := xh (yy81 y HYG.out.1 HYG.out.2.1 w5 (HYG.out.2.2.below HW.out.bel))
     unfold yy8 at HOW
     obtain ⟨z0, z1, z2, z3, z4, z5, z6, z7⟩ := yy10 (show World.rowIs w5 g 48 8 (eightV (.int .i64 y.k.id) (.slice y.opsA y.k.ops.length y.opsC) (.bool y.k.edited) (.bool y.k.removed) (.bool y.k.created) (.bool y.k.moved) (.int .i64 y.k.parent) (.string (bstr y.k.name))) from HRES.out)
     go_wp2_with fail
     clear z0 z1 z2 z3 z4 z5 z6 z7
     refine (HOW.out).mono ?_
     rintro e w6 ⟨⟨A2, c2, rfl, h1, h2, hown6⟩, hb6⟩
     have HMADE : Hid (Made1 w6 V ⟨y.k, A2, c2⟩) := xh ⟨⟨HYG.out.1.1, HYG.out.1.2.1, HYG.out.1.2.2.1, HYG.out.1.2.2.2.1, h1, h2⟩, yy34 hown6 HW.out.up⟩
     have HRES6 := xh (HRES.out.of_block (hb6.block _ HRES.out.lt))
     have HREST6 := xh (yy4.below HREST5.out hb6)
     replace HW := xh (HW.out.below hb6)
     clear h1 h2 hown6 hb6 HRES HREST5 HOW
     have hll := HLL.out
     have HBL := xh ((Below.refl w6.heap.size w6).alloc (Nat.le_refl _) (Obj.cells (yy8 ⟨y.k, A2, c2⟩).toArray 48))
     have HWA := xh (HW.out.below HBL.out)
     have HRA := xh (yy4.below HREST6.out HBL.out)
     have HMA : Hid (Made1 _ V ⟨y.k, A2, c2⟩) := xh ⟨HMADE.out.1, own_below HMADE.out.2 HBL.out⟩
     have HXA := xh (HRES6.out.of_block (HBL.out.block _ HRES6.out.lt))
     go_wp2_with (at_builtin
                  go_loud (refine yy50 rfl (.tmp 35) (.tmp 38) rfl (B := V) (out := L) (m := [⟨y.k, A2, c2⟩]) HWA.out.own HWA.out.up 1 (yy207 w6 ⟨y.k, A2, c2⟩ _ rfl) (by simp; omega) rfl rfl ?_)
                  intro A7 c7 w7 hown hbel hkeep
                  have HO7 := xh hown
                  have HBE7 := xh hbel
                  have HK7 := xh hkeep
                  clear hown hbel hkeep)
     go_step3
     first | rw [yy1] | rw [yy7, yy1] | rw [yy9, yy7, yy1] | rw [yy9, yy1]
     have HYI2 : Hid (y.k.id = a1.id) := xh (by rw [HYK.out, yy71]; exact HID.out)
     have hN := HN.out
     have hgV : g < V := by have := HWA.out.base; have := HG.out; omega
     refine ⟨2 * rest.length + 1, ⟨V, m, p ++ (run ++ [a1]), rest, (some ⟨b2, off2, none⟩), c0 - 1, L ++ [⟨y.k, A2, c2⟩], A7, c7, oneF y, HRG.out, ?_, ?_, ?_, rfl⟩, by omega⟩
     ·rw [HG.out]; exact OFr.mk ⟨rfl, by rw [hN]; rfl, rfl, by rw [List.length_append]; rfl, rfl⟩
     ·exact HWA.out.next HRN.out (by rw [HYK.out, HXK.out]; exact (yy76 run a1 a1.id).symm) (by rw [← HYI2.out]; exact HSAME.out) HRA.out (by rw [hN]; exact HCAP.out) (fun b3 off3 q3 e3 => by have h3 := HFAR.out b3 off3 q3 e3; rw [h3]; exact HBG.out) rfl HMA.out HO7.out HBE7.out HK7.out
     ·rw [HG.out]; exact HXA.out.of_block (HBE7.out.block _ hgV)
 case p0 =>
  clear HBX GBB HST
  intro P1
  have P1' := xh P1
  clear P1
  rintro k act w2 ⟨V, m, p, rest, A0, c0, L, A3, c3, f8, hr, hf, hw, hrow, rfl⟩
  obtain ⟨F, rfl⟩ := hf.out
  clear hf
  rw [HG.out] at hrow ⊢
  have HRG := xh hr
  have HW := xh hw
  have HROW := xh hrow
  clear hr hrow
  cases rest with
  | nil =>
   clear hw
   go_wp2
   first | rw [yy262] | rw [then_ret, yy262]
   go_ret
   have h := HW.out
   have he : m = p := by have := h.eq; simpa using this
   exact ⟨m, HRG.out, L, A3, c3, rfl, ⟨V, h.base, h.own, h.good⟩, by rw [h.map, he], h.bel⟩
  | cons a1 rest =>
   obtain ⟨b, off, A0', rfl, hblt, hcell, hcut, hrest, hcap', hfar'⟩ := yy393 hw.acts hw.cap
   clear hcut hrest hcap' hfar'
   have y1 := hcell 1 _ rfl
   have hrl : rest.length + 1 ≤ 1048576 := by have := hw.rlen; simpa using this
   have hid : Fit64 a1.id := (hw.mem (List.mem_cons_self ..)).1.1.2.1
   have HFID := xh hid
   obtain ⟨n, HN⟩ : ∃ n, Hid (rest.length = n) := ⟨_, xh rfl⟩
   rw [List.length_cons, HN.out]
   rw [HN.out] at hrl
   have hn0 : ¬ n + 1 = 0 := by omega
   have hn1 : (((n + 1 : Nat) : Int) == 0) = false := xn (by omega)
   have hn2 : ((n : Int) + 1 == 0) = false := xn (by omega)
   obtain ⟨⟨a0, f0⟩, ⟨a1c, f1⟩, ⟨a2, f2⟩, ⟨a3, f3⟩, ⟨a4, f4⟩, ⟨a5, f5⟩, ⟨a6, f6⟩, ⟨a7, f7⟩, hres⟩ := yy51 HROW.out (.int .i64 a1.id) (.slice none 0 0) (.bool false) (.bool false) (.bool false) (.bool false) (.int .i64 0) (.string { data := #[] })
   have HRES : Hid (World.rowIs _ g 48 8 (oneF ⟨oneZ a1.id, none, 0⟩)) := xh hres
   have HO : Hid (Only g w2 _) := xh (((((((((Only.refl g w2).set 0 (.int .i64 a1.id)).set 1 (.slice none 0 0)).set 2 (.bool false)).set 3 (.bool false)).set 4 (.bool false)).set 5 (.bool false)).set 6 (.int .i64 0)).set 7 (.string { data := #[] }))
   clear hw hcell hres hid hblt
   go_wp2
   clear a0 f0 a1c f1 a2 f2 a3 f3 a4 f4 a5 f5 a6 f6 a7 f7 y1
   replace HW := xh (HW.out.only (by rw [HG.out]; exact HO.out))
   generalize World.setCell _ _ _ = w3 at HW HRES ⊢
   go_step3
   rename_i K hK
   refine hK _ _ (yy100 (by have := HN.out; omega) (P1'.out (2 * (rest.length + 1)) _ _ ⟨V, m, p, [], ⟨oneZ a1.id, none, 0⟩, a1, rest, some ⟨b, off, none⟩, c0, L, A3, c3, HRG.out, ?_, HW.out, ?_, ⟨rfl, fun b hb => (by cases hb), yy702 a1.id HFID.out, ⟨yy152, Nat.zero_le _⟩, .inl rfl⟩, rfl⟩))
   ·rw [HG.out, HN.out]; exact OFr.mk ⟨rfl, rfl, rfl, rfl, rfl⟩
   ·rw [HG.out]; exact HRES.out
end Go.Proofs.YtjpjdkdbgjipnaaDoor
