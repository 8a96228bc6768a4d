/- The landed Normal: the normal form of an edit. Condition: no more than 2^30 parts, no more than 2^40 bytes of texts. -/
import Derived.Test.YtmedaimndaaiiaaMOs
import Derived.Test.YtmedaimndaaiiaaMUw
import Derived.WalkMore
/- The landed Normal: the normal form of an edit. Condition: no more than 2^30 parts, no more than 2^40 bytes of texts. -/
namespace Go.Proofs.Ytmedaimndaaiiaa
open Go.RowKit Go.Deep Go.Lib

theorem wp_scope_three {P : Program} {c r0 r1 r2 : Code} {a : Act} {w : World} {Q : Exit → Act → World → Prop} (J : Nat → Act → World → Prop) (μ : Nat → Act → Nat)
    (hJ : ∀ l a w, J l a w → l < 3) (h0 : findLabel c 0 = some (Code.skip.seq r0)) (h1 : findLabel c 1 = some (Code.skip.seq r1)) (h2 : findLabel c 2 = some (Code.skip.seq r2))
    (p0 : Pass P r0 J μ Q 0) (p1 : Pass P r1 J μ Q 1) (p2 : Pass P r2 J μ Q 2)
    (first : Pass P r1 J μ Q 1 → ∃ n, c.wp P (down J μ n Q) a w) : (Code.scope c).wp P Q a w := by
  have pass : ∀ l a w, J l a w → ∃ r, findLabel c l = some r ∧ r.wp P (down J μ (μ l a) Q) a w := by
    intro l a w hl
    have := hJ l a w hl
    match l, this with
    | 0, _ => exact ⟨_, h0, skip_seq (p0 a w hl)⟩
    | 1, _ => exact ⟨_, h1, skip_seq (p1 a w hl)⟩
    | 2, _ => exact ⟨_, h2, skip_seq (p2 a w hl)⟩
  obtain ⟨n, hn⟩ := first p1
  intro b k cs
  have key : ∀ n l a w, μ l a = n → J l a w → ∃ rest, findLabel c l = some rest ∧ ∃ e a' w', Q e a' w' ∧ Arrives P (lone (b.at a (.code rest :: .inScope c :: k)) cs w) b k cs e a' w' := by
    intro n
    induction n using Nat.strongRecOn with
    | _ n ih =>
      intro l a w hn hl
      obtain ⟨rest, hf, hp⟩ := pass l a w hl
      refine ⟨rest, hf, ?_⟩
      obtain ⟨e, a₁, w₁, hq, harr⟩ := hp b (.inScope c :: k) cs
      unfold down at hq
      cases e with
      | normal => exact ⟨.normal, a₁, w₁, hq, Steps.trans harr (.one step_inScope)⟩
      | exit id => exact ⟨.exit id, a₁, w₁, hq, fun k' hk => harr k' (by simp [exitTo, hk])⟩
      | goto l' =>
        obtain ⟨hJ', hlt⟩ := hq
        obtain ⟨rest', hf', e₂, a₂, w₂, hq₂, harr₂⟩ := ih _ (by omega) l' a₁ w₁ rfl hJ'
        have hg : gotoIn l' (.inScope c :: k) = some (.code rest' :: .inScope c :: k) := by simp [gotoIn, hf']
        exact ⟨e₂, a₂, w₂, hq₂, .of_steps (harr _ hg) harr₂⟩
      | ret => exact ⟨_, a₁, w₁, hq, harr⟩
      | panic ch => exact ⟨_, a₁, w₁, hq, harr⟩
      | outgrown => exact ⟨_, a₁, w₁, hq, harr⟩
  obtain ⟨e, a₁, w₁, hq, harr⟩ := hn b (.inScope c :: k) cs
  unfold down at hq
  cases e with
  | normal => exact ⟨.normal, a₁, w₁, hq, .head step_scope (Steps.trans harr (.one step_inScope))⟩
  | exit id => exact ⟨.exit id, a₁, w₁, hq, fun k' hk => .head step_scope (harr k' (by simp [exitTo, hk]))⟩
  | goto l' =>
    obtain ⟨hJ', _⟩ := hq
    obtain ⟨rest', hf', e₂, a₂, w₂, hq₂, harr₂⟩ := key _ l' a₁ w₁ rfl hJ'
    have hg : gotoIn l' (.inScope c :: k) = some (.code rest' :: .inScope c :: k) := by simp [gotoIn, hf']
    exact ⟨e₂, a₂, w₂, hq₂, .of_steps (.head step_scope (harr _ hg)) harr₂⟩
  | ret => exact ⟨_, a₁, w₁, hq, .of_steps (.one step_scope) harr⟩
  | panic ch => exact ⟨_, a₁, w₁, hq, .of_steps (.one step_scope) harr⟩
  | outgrown => exact ⟨_, a₁, w₁, hq, .of_steps (.one step_scope) harr⟩

/-- A frame of Normal. -/
def NFr (a : Act) (L : Value) (g k : Nat) (o : Value) : Prop :=
  a.defers = [] ∧ a.tmps.size = 52 ∧ a.tmps[0]? = some (L) ∧ a.tmps[3]? = some (o) ∧ a.tmps[4]? = some (.pointer (some ⟨g, 0, none⟩)) ∧ a.tmps[5]? = some (.pointer (some ⟨g + 1, 0, none⟩)) ∧ a.tmps[6]? = some (.int .i64 (k : Int))
theorem NFr.out {a : Act} {L : Value} {g k : Nat} {o : Value} (h : NFr a L g k o) : ∃ f : Nat → Value, a = { tmps := #[L, f 1, f 2, o, .pointer (some ⟨g, 0, none⟩), .pointer (some ⟨g + 1, 0, none⟩), .int .i64 (k : Int), f 7, f 8, f 9, f 10, f 11, f 12, f 13, f 14, f 15, f 16, f 17, f 18, f 19, f 20, f 21, f 22, f 23, f 24, f 25, f 26, f 27, f 28, f 29, f 30, f 31, f 32, f 33, f 34, f 35, f 36, f 37, f 38, f 39, f 40, f 41, f 42, f 43, f 44, f 45, f 46, f 47, f 48, f 49, f 50, f 51], defers := [] } := by
  obtain ⟨t, d⟩ := a
  obtain ⟨rfl, hs, h0, h3, h4, h5, h6⟩ := h
  simp only at hs h0 h3 h4 h5 h6
  refine ⟨fun n => (t[n]?).getD undef, ?_⟩
  have e : t = ((List.range 52).map fun i => (t[i]?).getD undef).toArray := by
    apply Array.ext
    · simp [hs]
    · intro i h1 h2
      simp [h1]
  have e2 : ((List.range 52).map fun i => (t[i]?).getD undef).toArray = #[(t[0]?).getD undef, (t[1]?).getD undef, (t[2]?).getD undef, (t[3]?).getD undef, (t[4]?).getD undef, (t[5]?).getD undef, (t[6]?).getD undef, (t[7]?).getD undef, (t[8]?).getD undef, (t[9]?).getD undef, (t[10]?).getD undef, (t[11]?).getD undef, (t[12]?).getD undef, (t[13]?).getD undef, (t[14]?).getD undef, (t[15]?).getD undef, (t[16]?).getD undef, (t[17]?).getD undef, (t[18]?).getD undef, (t[19]?).getD undef, (t[20]?).getD undef, (t[21]?).getD undef, (t[22]?).getD undef, (t[23]?).getD undef, (t[24]?).getD undef, (t[25]?).getD undef, (t[26]?).getD undef, (t[27]?).getD undef, (t[28]?).getD undef, (t[29]?).getD undef, (t[30]?).getD undef, (t[31]?).getD undef, (t[32]?).getD undef, (t[33]?).getD undef, (t[34]?).getD undef, (t[35]?).getD undef, (t[36]?).getD undef, (t[37]?).getD undef, (t[38]?).getD undef, (t[39]?).getD undef, (t[40]?).getD undef, (t[41]?).getD undef, (t[42]?).getD undef, (t[43]?).getD undef, (t[44]?).getD undef, (t[45]?).getD undef, (t[46]?).getD undef, (t[47]?).getD undef, (t[48]?).getD undef, (t[49]?).getD undef, (t[50]?).getD undef, (t[51]?).getD undef] := rfl
  simp only [h0, h3, h4, h5, h6, Option.getD_some] at e2
  rw [← e2, ← e]
attribute [irreducible] NFr
theorem NFr.mk {t : Array Value} {L : Value} {g k : Nat} {o : Value} (h : t.size = 52 ∧ t[0]? = some (L) ∧ t[3]? = some (o) ∧ t[4]? = some (.pointer (some ⟨g, 0, none⟩)) ∧ t[5]? = some (.pointer (some ⟨g + 1, 0, none⟩)) ∧ t[6]? = some (.int .i64 (k : Int))) : NFr { tmps := t, defers := [] } L g k o := by
  unfold NFr
  exact ⟨rfl, h⟩
theorem NFr.at6 {a : Act} {L : Value} {g k : Nat} {o : Value} (h : NFr a L g k o) : a.tmps.getD 6 undef = .int .i64 (k : Int) := by
  obtain ⟨f, rfl⟩ := h.out
  rfl

/-- The cells of a part. -/
def cmCells (kd n : Int) (t : List Nat) (i : Nat) : Value := if i = 0 then .int .i64 kd else if i = 1 then .int .i64 n else .string (bstr t)
def Nμ (len : Nat) : Nat → Act → Nat
  | 1, a => 2 * (len - (RowKit.intOf (a.tmps.getD 6 undef)).toNat) + 1
  | 2, a => 2 * (len - (RowKit.intOf (a.tmps.getD 6 undef)).toNat) + 2
  | _, _ => 0
theorem Nμ1 {len : Nat} {a : Act} {L : Value} {g k : Nat} {o : Value} (h : NFr a L g k o) : Nμ len 1 a = 2 * (len - k) + 1 := by
  show 2 * (len - (RowKit.intOf (a.tmps.getD 6 undef)).toNat) + 1 = _
  rw [h.at6]; simp [RowKit.intOf]
theorem Nμ2 {len : Nat} {a : Act} {L : Value} {g k : Nat} {o : Value} (h : NFr a L g k o) : Nμ len 2 a = 2 * (len - k) + 2 := by
  show 2 * (len - (RowKit.intOf (a.tmps.getD 6 undef)).toNat) + 2 = _
  rw [h.at6]; simp [RowKit.intOf]
theorem Nμ0 {len : Nat} {a : Act} : Nμ len 0 a = 0 := rfl

theorem bytes_str (l : List Nat) (hb : ∀ x ∈ l, x < 256) : strCells (bstr l) = u8s l := by
  unfold strCells u8s
  rw [bstr_data, List.map_map]
  refine List.map_congr_left fun x hx => ?_
  have := hb x hx
  simp
  omega
/-- The part is read into the block of its own. -/
theorem cm_chain {w : World} {b : Nat} {k0 n0 : Int} {t0 : List Nat} (h : w.rowIs b 29 3 (cmCells k0 n0 t0)) (kd n : Int) (t : List Nat) :
    (((w.setCell ⟨b, 0, none⟩ (.int .i64 kd)).setCell ⟨b, 1, none⟩ (.int .i64 n)).setCell ⟨b, 2, none⟩ (.string (bstr t))).rowIs b 29 3 (cmCells kd n t) :=
  (((h.set 0 (.int .i64 kd)).set 1 (.int .i64 n)).set 2 (.string (bstr t))).congr fun i hi => by
    rcases (show i = 0 ∨ i = 1 ∨ i = 2 by omega) with rfl | rfl | rfl <;> rfl

end Go.Proofs.Ytmedaimndaaiiaa
