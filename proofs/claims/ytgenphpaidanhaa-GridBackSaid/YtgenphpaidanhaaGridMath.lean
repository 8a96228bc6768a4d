/- Lines and columns of a text's places, in plain mathematics: 'lin', 'col' the line and the column of a place, 'bgs' where lines begin, 'wdt' how wide each is; which points are places. No condition. -/
import Derived.Test.YtgenphpaidanhaaUtfMath
namespace Go.Proofs.Ytgenphpaidanhaa

/-- The line of a place. -/
def lin (vs : List Nat) : Nat → Nat
  | 0 => 0
  | p + 1 => if vs[p]? = some 10 then lin vs p + 1 else lin vs p
/-- Its column. -/
def col (vs : List Nat) : Nat → Nat
  | 0 => 0
  | p + 1 => if vs[p]? = some 10 then 0 else col vs p + 1
/-- Where the lines begin that begin at or ahead of a place. -/
def bgs (vs : List Nat) : Nat → List Nat
  | 0 => [0]
  | p + 1 => if vs[p]? = some 10 then bgs vs p ++ [p + 1] else bgs vs p
/-- How wide the lines are that end ahead of a place. -/
def wds (vs : List Nat) : Nat → List Nat
  | 0 => []
  | p + 1 => if vs[p]? = some 10 then wds vs p ++ [col vs p] else wds vs p
theorem lin_zero (vs : List Nat) : lin vs 0 = 0 := rfl
theorem col_zero (vs : List Nat) : col vs 0 = 0 := rfl
theorem bgs_zero (vs : List Nat) : bgs vs 0 = [0] := rfl
theorem wds_zero (vs : List Nat) : wds vs 0 = [] := rfl
theorem lin_yes {vs : List Nat} {p : Nat} (h : vs[p]? = some 10) : lin vs (p + 1) = lin vs p + 1 := if_pos h
theorem lin_no {vs : List Nat} {p : Nat} (h : ¬ vs[p]? = some 10) : lin vs (p + 1) = lin vs p := if_neg h
theorem col_yes {vs : List Nat} {p : Nat} (h : vs[p]? = some 10) : col vs (p + 1) = 0 := if_pos h
theorem col_no {vs : List Nat} {p : Nat} (h : ¬ vs[p]? = some 10) : col vs (p + 1) = col vs p + 1 := if_neg h
theorem bgs_yes {vs : List Nat} {p : Nat} (h : vs[p]? = some 10) : bgs vs (p + 1) = bgs vs p ++ [p + 1] := if_pos h
theorem bgs_no {vs : List Nat} {p : Nat} (h : ¬ vs[p]? = some 10) : bgs vs (p + 1) = bgs vs p := if_neg h
theorem wds_yes {vs : List Nat} {p : Nat} (h : vs[p]? = some 10) : wds vs (p + 1) = wds vs p ++ [col vs p] := if_pos h
theorem wds_no {vs : List Nat} {p : Nat} (h : ¬ vs[p]? = some 10) : wds vs (p + 1) = wds vs p := if_neg h
attribute [irreducible] lin col bgs wds

theorem lin_le (vs : List Nat) (p : Nat) : lin vs p ≤ p := by
  induction p with
  | zero => rw [lin_zero]; exact Nat.le_refl _
  | succ p ih =>
    by_cases h : vs[p]? = some 10
    · rw [lin_yes h]; omega
    · rw [lin_no h]; omega
theorem col_le (vs : List Nat) (p : Nat) : col vs p ≤ p := by
  induction p with
  | zero => rw [col_zero]; exact Nat.le_refl _
  | succ p ih =>
    by_cases h : vs[p]? = some 10
    · rw [col_yes h]; omega
    · rw [col_no h]; omega
theorem lin_step (vs : List Nat) (p : Nat) : lin vs p ≤ lin vs (p + 1) := by
  by_cases h : vs[p]? = some 10
  · rw [lin_yes h]; omega
  · rw [lin_no h]; omega
theorem lin_mono (vs : List Nat) {p q : Nat} (h : p ≤ q) : lin vs p ≤ lin vs q := by
  induction q with
  | zero => obtain rfl : p = 0 := by omega
            exact Nat.le_refl _
  | succ q ih =>
    rcases Nat.lt_or_ge q p with g | g
    · obtain rfl : p = q + 1 := by omega
      exact Nat.le_refl _
    · exact Nat.le_trans (ih g) (lin_step vs q)
theorem same_line (vs : List Nat) {p q : Nat} (h : p ≤ q) (hl : lin vs p = lin vs q) : col vs q = col vs p + (q - p) := by
  induction q with
  | zero => obtain rfl : p = 0 := by omega
            omega
  | succ q ih =>
    rcases Nat.lt_or_ge q p with g | g
    · obtain rfl : p = q + 1 := by omega
      omega
    · have h1 := lin_mono vs g
      by_cases h2 : vs[q]? = some 10
      · rw [lin_yes h2] at hl; omega
      · rw [lin_no h2] at hl
        rw [col_no h2, ih g hl]
        omega
theorem point_inj (vs : List Nat) {p q : Nat} (hl : lin vs p = lin vs q) (hc : col vs p = col vs q) : p = q := by
  rcases Nat.le_total p q with g | g
  · have := same_line vs g hl; omega
  · have := same_line vs g hl.symm; omega
theorem line_begin (vs : List Nat) (p : Nat) : lin vs (p - col vs p) = lin vs p ∧ col vs (p - col vs p) = 0 := by
  induction p with
  | zero => rw [col_zero]; exact ⟨rfl, col_zero vs⟩
  | succ p ih =>
    by_cases h : vs[p]? = some 10
    · rw [col_yes h, Nat.sub_zero]; exact ⟨rfl, col_yes h⟩
    · rw [col_no h, lin_no h, show p + 1 - (col vs p + 1) = p - col vs p by omega]; exact ih
theorem bgs_length (vs : List Nat) (p : Nat) : (bgs vs p).length = lin vs p + 1 := by
  induction p with
  | zero => rw [bgs_zero, lin_zero]; rfl
  | succ p ih =>
    by_cases h : vs[p]? = some 10
    · rw [bgs_yes h, lin_yes h, List.length_append, ih]; rfl
    · rw [bgs_no h, lin_no h, ih]
theorem wds_length (vs : List Nat) (p : Nat) : (wds vs p).length = lin vs p := by
  induction p with
  | zero => rw [wds_zero, lin_zero]; rfl
  | succ p ih =>
    by_cases h : vs[p]? = some 10
    · rw [wds_yes h, lin_yes h, List.length_append, ih]; rfl
    · rw [wds_no h, lin_no h, ih]
theorem bgs_get (vs : List Nat) : ∀ (p q : Nat), q ≤ p → (bgs vs p)[lin vs q]? = some (q - col vs q) := by
  intro p
  induction p with
  | zero =>
    intro q h
    obtain rfl : q = 0 := by omega
    rw [bgs_zero, lin_zero, col_zero]; rfl
  | succ p ih =>
    intro q h
    rcases Nat.lt_or_ge p q with g | g
    · obtain rfl : q = p + 1 := by omega
      by_cases h2 : vs[p]? = some 10
      · rw [bgs_yes h2, lin_yes h2, col_yes h2, List.getElem?_append_right (by rw [bgs_length]; exact Nat.le_refl _), bgs_length, Nat.sub_self]; rfl
      · rw [bgs_no h2, lin_no h2, col_no h2, ih p (Nat.le_refl _)]
        congr 1
        omega
    · have h1 := ih q g
      by_cases h2 : vs[p]? = some 10
      · rw [bgs_yes h2, List.getElem?_append_left (List.getElem?_eq_some_iff.1 h1).1, h1]
      · rw [bgs_no h2, h1]
theorem bgs_is (vs : List Nat) : ∀ (p k b : Nat), (bgs vs p)[k]? = some b → b ≤ p ∧ lin vs b = k ∧ col vs b = 0 := by
  intro p
  induction p with
  | zero =>
    intro k b h
    rw [bgs_zero] at h
    match k, h with
    | 0, h => cases h; exact ⟨Nat.le_refl _, lin_zero vs, col_zero vs⟩
    | k + 1, h => cases h
  | succ p ih =>
    intro k b h
    by_cases h2 : vs[p]? = some 10
    · rw [bgs_yes h2] at h
      rcases Nat.lt_or_ge k (bgs vs p).length with g | g
      · rw [List.getElem?_append_left g] at h
        obtain ⟨h3, h4, h5⟩ := ih k b h
        exact ⟨by omega, h4, h5⟩
      · rw [List.getElem?_append_right g] at h
        obtain ⟨j, hj⟩ : ∃ j, k - (bgs vs p).length = j := ⟨_, rfl⟩
        rw [hj] at h
        match j, h with
        | 0, h =>
          cases h
          rw [bgs_length] at hj g
          exact ⟨Nat.le_refl _, by rw [lin_yes h2]; omega, col_yes h2⟩
        | j + 1, h => cases h
    · rw [bgs_no h2] at h
      obtain ⟨h3, h4, h5⟩ := ih k b h
      exact ⟨by omega, h4, h5⟩
/-- A line that has ended: where. -/
theorem wds_is (vs : List Nat) : ∀ (p k x : Nat), (wds vs p)[k]? = some x → ∃ e, e < p ∧ vs[e]? = some 10 ∧ lin vs e = k ∧ col vs e = x := by
  intro p
  induction p with
  | zero => intro k x h; rw [wds_zero] at h; cases h
  | succ p ih =>
    intro k x h
    by_cases h2 : vs[p]? = some 10
    · rw [wds_yes h2] at h
      rcases Nat.lt_or_ge k (wds vs p).length with g | g
      · rw [List.getElem?_append_left g] at h
        obtain ⟨e, h3, h4⟩ := ih k x h
        exact ⟨e, by omega, h4⟩
      · rw [List.getElem?_append_right g] at h
        obtain ⟨j, hj⟩ : ∃ j, k - (wds vs p).length = j := ⟨_, rfl⟩
        rw [hj] at h
        match j, h with
        | 0, h =>
          cases h
          rw [wds_length] at hj g
          exact ⟨p, by omega, h2, by omega, rfl⟩
        | j + 1, h => cases h
    · rw [wds_no h2] at h
      obtain ⟨e, h3, h4⟩ := ih k x h
      exact ⟨e, by omega, h4⟩

/-- How wide all lines are. -/
def wide (vs : List Nat) : List Nat := wds vs vs.length ++ [col vs vs.length]
/-- The last line's number. -/
def lst (vs : List Nat) : Nat := lin vs vs.length
def wdt (vs : List Nat) (k : Nat) : Nat := (wide vs)[k]?.getD 0
theorem wide_length (vs : List Nat) : (wide vs).length = lst vs + 1 := by
  unfold wide lst
  rw [List.length_append, wds_length]; rfl
theorem begins_length (vs : List Nat) : (bgs vs vs.length).length = lst vs + 1 := bgs_length vs _
theorem wide_get (vs : List Nat) {k : Nat} (h : k ≤ lst vs) : (wide vs)[k]? = some (wdt vs k) := by
  unfold wdt
  rw [List.getElem?_eq_getElem (by rw [wide_length]; omega)]
  rfl
theorem lst_le (vs : List Nat) : lst vs ≤ vs.length := lin_le vs _
theorem lin_lst (vs : List Nat) {p : Nat} (h : p ≤ vs.length) : lin vs p ≤ lst vs := lin_mono vs h
/-- Each line has its end: the last place that is on it. -/
theorem line_end (vs : List Nat) {k : Nat} (h : k ≤ lst vs) : ∃ e, e ≤ vs.length ∧ lin vs e = k ∧ col vs e = wdt vs k ∧ ∀ q, q ≤ vs.length → lin vs q = k → q ≤ e := by
  have h1 := wide_get vs h
  rcases Nat.lt_or_ge k (lst vs) with g | g
  · unfold wide at h1
    rw [List.getElem?_append_left (by rw [wds_length]; exact g)] at h1
    obtain ⟨e, h2, h3, h4, h5⟩ := wds_is vs _ _ _ h1
    refine ⟨e, by omega, h4, h5, fun q hq hl => ?_⟩
    rcases Nat.lt_or_ge e q with a | a
    · have := lin_mono vs a
      rw [lin_yes h3] at this
      omega
    · exact a
  · obtain rfl : k = lst vs := by omega
    unfold wide at h1
    rw [List.getElem?_append_right (by rw [wds_length]; exact Nat.le_refl _), wds_length, show lst vs - lin vs vs.length = 0 from Nat.sub_self _] at h1
    injection h1 with h1
    exact ⟨vs.length, Nat.le_refl _, rfl, h1, fun q hq _ => hq⟩
theorem col_wdt (vs : List Nat) {q : Nat} (h : q ≤ vs.length) : col vs q ≤ wdt vs (lin vs q) := by
  obtain ⟨e, h1, h2, h3, h4⟩ := line_end vs (lin_lst vs h)
  have := same_line vs (h4 q h rfl) h2.symm
  omega
/-- A line's columns are places, one behind the other. -/
theorem line_place (vs : List Nat) {k c : Nat} (h : k ≤ lst vs) (hc : c ≤ wdt vs k) : ∃ b, (bgs vs vs.length)[k]? = some b ∧ b + c ≤ vs.length ∧ lin vs (b + c) = k ∧ col vs (b + c) = c := by
  obtain ⟨e, h1, h2, h3, h4⟩ := line_end vs h
  obtain ⟨b1, b2⟩ := line_begin vs e
  have h5 := bgs_get vs vs.length e h1
  rw [h2] at h5
  have h6 := col_le vs e
  refine ⟨_, h5, by omega, ?_⟩
  have m1 := lin_mono vs (show e - col vs e ≤ e - col vs e + c by omega)
  have m2 := lin_mono vs (show e - col vs e + c ≤ e by omega)
  have hl : lin vs (e - col vs e + c) = k := by omega
  have := same_line vs (show e - col vs e ≤ e - col vs e + c by omega) (by omega)
  exact ⟨hl, by omega⟩
theorem wdt_le (vs : List Nat) {k : Nat} (h : k ≤ lst vs) : wdt vs k ≤ vs.length := by
  obtain ⟨e, h1, h2, h3, h4⟩ := line_end vs h
  have := col_le vs e
  omega
theorem at_end (vs : List Nat) {q : Nat} (h : vs[q]? = some 10) : col vs q = wdt vs (lin vs q) := by
  have hq : q < vs.length := (List.getElem?_eq_some_iff.1 h).1
  obtain ⟨e, h1, h2, h3, h4⟩ := line_end vs (lin_lst vs (show q ≤ vs.length by omega))
  have h5 := h4 q (by omega) rfl
  rcases Nat.lt_or_eq_of_le h5 with g | g
  · have := lin_mono vs g
    rw [lin_yes h] at this
    omega
  · rw [g, h3, ← h2]
/-- The last column that was met of a line, of the places ahead of p; -1: none. -/
def wl (vs : List Nat) (k : Int) : Nat → Int
  | 0 => -1
  | p + 1 => if (lin vs p : Int) = k then (col vs p : Int) else wl vs k p
theorem wl_zero (vs : List Nat) (k : Int) : wl vs k 0 = -1 := rfl
theorem wl_yes {vs : List Nat} {k : Int} {p : Nat} (h : (lin vs p : Int) = k) : wl vs k (p + 1) = (col vs p : Int) := if_pos h
theorem wl_no {vs : List Nat} {k : Int} {p : Nat} (h : ¬ (lin vs p : Int) = k) : wl vs k (p + 1) = wl vs k p := if_neg h
attribute [irreducible] wl wide wdt lst
theorem wl_none (vs : List Nat) {k : Int} (h : k < 0 ∨ (lst vs : Int) < k) : ∀ p, p ≤ vs.length + 1 → wl vs k p = -1 := by
  intro p
  induction p with
  | zero => intro _; exact wl_zero vs k
  | succ p ih =>
    intro hp
    have := lin_lst vs (show p ≤ vs.length by omega)
    rw [wl_no (by omega), ih (by omega)]
theorem wl_end (vs : List Nat) {k e : Nat} (_he : e ≤ vs.length) (h2 : lin vs e = k) (h4 : ∀ q, q ≤ vs.length → lin vs q = k → q ≤ e) : ∀ p, e < p → p ≤ vs.length + 1 → wl vs (k : Int) p = (col vs e : Int) := by
  intro p
  induction p with
  | zero => intro h; omega
  | succ p ih =>
    intro h hp
    rcases Nat.lt_or_eq_of_le (show e ≤ p by omega) with g | g
    · rw [wl_no (fun hh => by have := h4 p (by omega) (by omega); omega), ih g (by omega)]
    · subst g
      rw [wl_yes (by rw [h2])]
theorem wl_all (vs : List Nat) {k : Nat} (h : k ≤ lst vs) : wl vs (k : Int) (vs.length + 1) = (wdt vs k : Int) := by
  obtain ⟨e, h1, h2, h3, h4⟩ := line_end vs h
  rw [wl_end vs h1 h2 h4 _ (by omega) (Nat.le_refl _), h3]
theorem wl_bound (vs : List Nat) (k : Int) (p : Nat) : -1 ≤ wl vs k p ∧ wl vs k p ≤ (p : Int) := by
  induction p with
  | zero => rw [wl_zero]; omega
  | succ p ih =>
    have := col_le vs p
    by_cases h : (lin vs p : Int) = k
    · rw [wl_yes h]; omega
    · rw [wl_no h]; omega

/-! ### How many code points 10 -/
theorem lin_count (vs : List Nat) (p : Nat) (h : p ≤ vs.length) : lin vs p = (vs.take p).count 10 := by
  induction p with
  | zero => rw [lin_zero]; rfl
  | succ p ih =>
    have hp : p < vs.length := h
    rw [List.take_succ_eq_append_getElem hp, List.count_append, ← ih (by omega)]
    by_cases h2 : vs[p] = 10
    · rw [lin_yes (by rw [List.getElem?_eq_getElem hp, h2]), h2]; rfl
    · rw [lin_no (by rw [List.getElem?_eq_getElem hp]; exact fun hh => h2 (Option.some.inj hh)), List.count_cons, List.count_nil, if_neg (by simpa using h2), Nat.zero_add, Nat.add_zero]
theorem lst_count (vs : List Nat) : lst vs = vs.count 10 := by
  unfold lst
  rw [lin_count vs _ (Nat.le_refl _), List.take_length]
theorem enc_count (v : Nat) : (enc v).count 10 = if v = 10 then 1 else 0 := by
  by_cases h : v < 128
  · have e : enc v = [v] := by unfold enc; rw [if_pos h]
    rw [e, List.count_cons, List.count_nil]
    by_cases h : v = 10
    · subst h; rfl
    · rw [if_neg (by simpa using h), if_neg h]
  · rw [if_neg (by omega)]
    refine List.count_eq_zero.2 (fun hh => ?_)
    unfold enc at hh
    rw [if_neg h] at hh
    split at hh
    · simp at hh; omega
    · split at hh
      · simp at hh; omega
      · simp at hh; omega
theorem E_count (vs : List Nat) : (E vs).count 10 = vs.count 10 := by
  induction vs with
  | nil => rw [E_nil]
  | cons v vs ih =>
    rw [E_cons, List.count_append, enc_count, ih, List.count_cons, Nat.add_comm]
    by_cases h : v = 10
    · rw [if_pos h, if_pos (by simpa using h)]
    · rw [if_neg h, if_neg (by simpa using h)]
theorem V.count {l vs : List Nat} (h : V l vs) : l.count 10 = lst vs := by rw [lst_count, ← h.bytes, E_count]
end Go.Proofs.Ytgenphpaidanhaa
