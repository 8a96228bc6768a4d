/- Lines put together: a text's lines, each as wide as it is. No condition. -/
import Derived.Test.YtgenphpaidanhaaGridMath
import Derived.Test.YtgenphpaidanhaaUtfRel
namespace Go.Proofs.Ytgenphpaidanhaa

/-- Pieces with a 10 between each two. -/
def joinB : List (List Nat) → List Nat
  | [] => []
  | x :: L => L.foldl (fun a y => a ++ 10 :: y) x
theorem joinB_nil : joinB [] = [] := rfl
theorem joinB_one (x : List Nat) : joinB [x] = x := rfl
theorem joinB_snoc {L : List (List Nat)} (h : L ≠ []) (y : List Nat) : joinB (L ++ [y]) = joinB L ++ 10 :: y := by
  cases L with
  | nil => exact absurd rfl h
  | cons x L =>
    show (L ++ [y]).foldl (fun a y => a ++ 10 :: y) x = L.foldl (fun a y => a ++ 10 :: y) x ++ 10 :: y
    rw [List.foldl_append]
    rfl
attribute [irreducible] joinB
theorem joinB_take {L : List (List Nat)} {k : Nat} (h : k < L.length) : joinB (L.take (k + 1)) = if k = 0 then L[k] else joinB (L.take k) ++ 10 :: L[k] := by
  rw [List.take_succ_eq_append_getElem h]
  by_cases h0 : k = 0
  · subst h0
    rw [if_pos rfl, List.take_zero, List.nil_append, joinB_one]
  · rw [if_neg h0, joinB_snoc]
    intro e
    have := congrArg List.length e
    rw [List.length_take, List.length_nil] at this
    omega

theorem lin_app (a t : List Nat) : ∀ p, p ≤ a.length → lin (a ++ t) p = lin a p ∧ col (a ++ t) p = col a p ∧ wds (a ++ t) p = wds a p := by
  intro p
  induction p with
  | zero => intro _; exact ⟨by rw [lin_zero, lin_zero], by rw [col_zero, col_zero], by rw [wds_zero, wds_zero]⟩
  | succ p ih =>
    intro h
    obtain ⟨h1, h2, h3⟩ := ih (by omega)
    have e : (a ++ t)[p]? = a[p]? := List.getElem?_append_left (by omega)
    by_cases g : a[p]? = some 10
    · exact ⟨by rw [lin_yes (e.trans g), lin_yes g, h1], by rw [col_yes (e.trans g), col_yes g], by rw [wds_yes (e.trans g), wds_yes g, h3, h2]⟩
    · have g' : ¬ (a ++ t)[p]? = some 10 := by rw [e]; exact g
      exact ⟨by rw [lin_no g', lin_no g, h1], by rw [col_no g', col_no g, h2], by rw [wds_no g', wds_no g, h3]⟩
theorem wide_def (vs : List Nat) : wide vs = wds vs vs.length ++ [col vs vs.length] := by unfold wide; rfl
theorem not_ten {y : List Nat} (h : 10 ∉ y) (q : Nat) : ¬ y[q]? = some 10 := fun e => h (List.mem_of_getElem? e)
theorem wide_line {y : List Nat} (h : 10 ∉ y) : wide y = [y.length] := by
  have key : ∀ p, wds y p = [] ∧ col y p = p := by
    intro p
    induction p with
    | zero => exact ⟨wds_zero y, col_zero y⟩
    | succ p ih => exact ⟨by rw [wds_no (not_ten h p), ih.1], by rw [col_no (not_ten h p), ih.2]⟩
  rw [wide_def, (key _).1, (key _).2]
  rfl
theorem wide_app (a : List Nat) {y : List Nat} (h : 10 ∉ y) : wide (a ++ 10 :: y) = wide a ++ [y.length] := by
  obtain ⟨_, h2, h3⟩ := lin_app a (10 :: y) a.length (Nat.le_refl _)
  have e0 : (a ++ 10 :: y)[a.length]? = some 10 := by rw [List.getElem?_append_right (Nat.le_refl _), Nat.sub_self]; rfl
  have key : ∀ q, wds (a ++ 10 :: y) (a.length + 1 + q) = wide a ∧ col (a ++ 10 :: y) (a.length + 1 + q) = q := by
    intro q
    induction q with
    | zero => exact ⟨by rw [Nat.add_zero, wds_yes e0, h3, h2, ← wide_def], by rw [Nat.add_zero, col_yes e0]⟩
    | succ q ih =>
      have g : ¬ (a ++ 10 :: y)[a.length + 1 + q]? = some 10 := by
        rw [List.getElem?_append_right (by omega), show a.length + 1 + q - a.length = q + 1 by omega, List.getElem?_cons_succ]
        exact not_ten h q
      exact ⟨by rw [← Nat.add_assoc, wds_no g, ih.1], by rw [← Nat.add_assoc, col_no g, ih.2]⟩
  have hl : (a ++ 10 :: y).length = a.length + 1 + y.length := by rw [List.length_append, List.length_cons]; omega
  rw [wide_def, hl, (key _).1, (key _).2]
theorem wide_join {L : List (List Nat)} (hn : ∀ x ∈ L, 10 ∉ x) : ∀ k, 0 < k → k ≤ L.length → wide (joinB (L.take k)) = (L.take k).map List.length := by
  intro k
  induction k with
  | zero => intro h; omega
  | succ k ih =>
    intro _ hk
    have hkl : k < L.length := hk
    have hx := hn _ (List.getElem_mem hkl)
    rw [joinB_take hkl, List.take_succ_eq_append_getElem hkl, List.map_append]
    by_cases h0 : k = 0
    · subst h0
      rw [if_pos rfl, wide_line hx, List.take_zero]
      rfl
    · rw [if_neg h0, wide_app _ hx, ih (by omega) (by omega)]
      rfl
theorem wide_lines {L : List (List Nat)} (hn : ∀ x ∈ L, 10 ∉ x) (h0 : 0 < L.length) : wide (joinB L) = L.map List.length := by
  have := wide_join hn L.length h0 (Nat.le_refl _)
  rwa [List.take_length] at this
theorem lst_lines {L : List (List Nat)} (hn : ∀ x ∈ L, 10 ∉ x) (h0 : 0 < L.length) : lst (joinB L) + 1 = L.length := by
  rw [← wide_length, wide_lines hn h0, List.length_map]
theorem wdt_lines {L : List (List Nat)} (hn : ∀ x ∈ L, 10 ∉ x) {k : Nat} (hk : k < L.length) : wdt (joinB L) k = L[k].length := by
  have h1 := wide_get (joinB L) (k := k) (by have := lst_lines hn (show 0 < L.length by omega); omega)
  rw [wide_lines hn (by omega), List.getElem?_map, List.getElem?_eq_getElem hk] at h1
  exact (Option.some.inj h1).symm
/-- The pieces are texts with no code point 10: so is the whole a text, of the pieces' code points. -/
theorem V_join : ∀ (L M : List (List Nat)), M.length = L.length → (∀ (j : Nat) (x y : List Nat), L[j]? = some x → M[j]? = some y → V x y) → V (joinB L) (joinB M) := by
  intro L M hl h
  have key : ∀ k, k ≤ L.length → V (joinB (L.take k)) (joinB (M.take k)) := by
    intro k
    induction k with
    | zero => intro _; rw [List.take_zero, List.take_zero, joinB_nil]; exact V.nil
    | succ k ih =>
      intro hk
      have hkl : k < L.length := hk
      have hkm : k < M.length := by omega
      have hv := h k _ _ (List.getElem?_eq_getElem hkl) (List.getElem?_eq_getElem hkm)
      have ih := ih (by omega)
      rw [joinB_take hkl, joinB_take hkm]
      by_cases h0 : k = 0
      · rw [if_pos h0, if_pos h0]; exact hv
      · rw [if_neg h0, if_neg h0]
        refine ⟨fun v hvm => ?_, ?_⟩
        · rcases List.mem_append.1 hvm with g | g
          · exact ih.may v g
          · rcases List.mem_cons.1 g with rfl | g
            · unfold May; omega
            · exact hv.may v g
        · rw [E_append, E_cons, ih.bytes, hv.bytes, show enc 10 = [10] by rw [enc_def]; rfl]
          rfl
  have := key L.length (Nat.le_refl _)
  rwa [List.take_length, List.take_of_length_le (by omega)] at this
/-- A text with no byte 10 has no code point 10. -/
theorem V.no_ten {l vs : List Nat} (h : V l vs) (hn : 10 ∉ l) : 10 ∉ vs := by
  intro hm
  apply hn
  obtain ⟨a, b, rfl⟩ := List.append_of_mem hm
  rw [← h.bytes, E_append, E_cons, show enc 10 = [10] by rw [enc_def]; rfl]
  simp
end Go.Proofs.Ytgenphpaidanhaa
