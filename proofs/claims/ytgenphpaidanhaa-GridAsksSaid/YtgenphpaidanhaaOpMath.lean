/- Edits in plain mathematics: sums held at the top, how long a text an edit asks for and makes, code points told loosely. No condition. -/
import Derived.Test.YtgenphpaidanhaaComps
import Derived.Test.YtgenphpaidanhaaValidB
namespace Go.Proofs.Ytgenphpaidanhaa

/-- A sum, held at the top. -/
def hld (a b : Int) : Int := min (min (max a 0) 1099511627776 + min (max b 0) 1099511627776) 1099511627776
theorem hld_pos (a b : Int) : 0 ≤ hld a b := by unfold hld; omega
theorem hld_top (a b : Int) : hld a b ≤ 1099511627776 := by unfold hld; omega
/-- How many bytes the first code point has; 1 of what is none. -/
def lseStep (l : List Nat) : Nat := match st l with | some (v, _) => (enc v).length | none => 1
theorem lseStep_pos (l : List Nat) : 0 < lseStep l := by
  unfold lseStep
  split
  · exact enc_pos _
  · omega
theorem lseStep_le {l : List Nat} (h : l ≠ []) : lseStep l ≤ l.length := by
  unfold lseStep
  split
  · next v r hs =>
    have := congrArg List.length (st_some hs).2
    rw [List.length_append] at this
    omega
  · have := List.length_pos_iff.2 h
    omega
/-- How many code points bytes have, told loosely: each byte that begins none is one. -/
def loose (l : List Nat) : Nat := if h : l = [] then 0 else 1 + loose (l.drop (lseStep l))
termination_by l.length
decreasing_by
  have := lseStep_pos l
  have := List.length_pos_iff.2 h
  simp only [List.length_drop]
  omega
theorem loose_nil : loose [] = 0 := by rw [loose, dif_pos rfl]
theorem loose_next {l : List Nat} (h : l ≠ []) : loose l = 1 + loose (l.drop (lseStep l)) := by rw [loose, dif_neg h]
theorem loose_le (l : List Nat) : loose l ≤ l.length := by
  by_cases h : l = []
  · rw [h, loose_nil]; simp
  · rw [loose_next h]
    have h1 := lseStep_pos l
    have h2 := lseStep_le h
    have := loose_le (l.drop (lseStep l))
    rw [List.length_drop] at this
    omega
termination_by l.length
decreasing_by
  have := lseStep_pos l
  have := List.length_pos_iff.2 h
  simp only [List.length_drop]
  omega
theorem loose_text : ∀ (vs : List Nat), (∀ v ∈ vs, May v) → loose (E vs) = vs.length
  | [], _ => by rw [E_nil, loose_nil]; rfl
  | v :: vs, h => by
    have hv := h v (by simp)
    have hne : E (v :: vs) ≠ [] := by
      intro e
      have := E_pos (v := v) (vs := vs)
      rw [e] at this
      simp at this
    have hs : lseStep (E (v :: vs)) = (enc v).length := by
      rw [lseStep, E_cons, st_enc hv]
    rw [loose_next hne, hs, E_cons, List.drop_left' rfl, loose_text vs fun x hx => h x (by simp [hx]), List.length_cons]
    omega
theorem V.loose {l vs : List Nat} (h : V l vs) : loose l = vs.length := by rw [← h.bytes]; exact loose_text vs h.may

/-- How long a text an edit asks for, and makes. -/
def baseStep (n : Int) (c : CompV) : Int := if c.kind = 1 ∨ c.kind = 3 then hld n c.n else n
def outStep (n : Int) (c : CompV) : Int := if c.kind = 1 then hld n c.n else if c.kind = 2 then hld n (loose c.text : Int) else n
def rBase (l : List CompV) : Int := l.foldl baseStep 0
def rOut (l : List CompV) : Int := l.foldl outStep 0
theorem rBase_nil : rBase [] = 0 := rfl
theorem rOut_nil : rOut [] = 0 := rfl
theorem rBase_snoc (l : List CompV) (c : CompV) : rBase (l ++ [c]) = baseStep (rBase l) c := by rw [rBase, List.foldl_append]; rfl
theorem rOut_snoc (l : List CompV) (c : CompV) : rOut (l ++ [c]) = outStep (rOut l) c := by rw [rOut, List.foldl_append]; rfl
theorem rBase_fit (l : List CompV) : 0 ≤ rBase l ∧ rBase l ≤ 1099511627776 := by
  have : ∀ (l : List CompV) (n : Int), 0 ≤ n → n ≤ 1099511627776 → 0 ≤ l.foldl baseStep n ∧ l.foldl baseStep n ≤ 1099511627776 := by
    intro l
    induction l with
    | nil => intro n h1 h2; exact ⟨h1, h2⟩
    | cons c l ih =>
      intro n h1 h2
      rw [List.foldl_cons]
      unfold baseStep
      split
      · exact ih _ (hld_pos _ _) (hld_top _ _)
      · exact ih _ h1 h2
  exact this l 0 (by omega) (by omega)
theorem rOut_fit (l : List CompV) : 0 ≤ rOut l ∧ rOut l ≤ 1099511627776 := by
  have : ∀ (l : List CompV) (n : Int), 0 ≤ n → n ≤ 1099511627776 → 0 ≤ l.foldl outStep n ∧ l.foldl outStep n ≤ 1099511627776 := by
    intro l
    induction l with
    | nil => intro n h1 h2; exact ⟨h1, h2⟩
    | cons c l ih =>
      intro n h1 h2
      rw [List.foldl_cons]
      unfold outStep
      split
      · exact ih _ (hld_pos _ _) (hld_top _ _)
      · split
        · exact ih _ (hld_pos _ _) (hld_top _ _)
        · exact ih _ h1 h2
  exact this l 0 (by omega) (by omega)

/-- A part may stand at place i of a normal edit. -/
def NormAt (l : List CompV) (i : Nat) (c : CompV) : Prop :=
  (((c.kind = 1 ∨ c.kind = 3) ∧ 1 ≤ c.n ∧ c.text = []) ∨ (c.kind = 2 ∧ c.n = 0 ∧ c.text ≠ [] ∧ (∃ vs, V c.text vs) ∧ ∀ p, 0 < i → l[i - 1]? = some p → p.kind ≠ 3)) ∧ ∀ p, 0 < i → l[i - 1]? = some p → p.kind ≠ c.kind
/-- A normal edit. -/
def Nrm (l : List CompV) : Prop := ∀ i c, l[i]? = some c → NormAt l i c
noncomputable def nrmB (l : List CompV) : Bool := @decide (Nrm l) (Classical.propDecidable _)
theorem nrmB_yes {l : List CompV} (h : Nrm l) : nrmB l = true := by unfold nrmB; exact @decide_eq_true _ (Classical.propDecidable _) h
theorem nrmB_no {l : List CompV} (h : ¬ Nrm l) : nrmB l = false := by unfold nrmB; exact @decide_eq_false _ (Classical.propDecidable _) h
noncomputable def rCheck (l : List CompV) : Nat := if 100 < l.length then 3 else if nrmB l = false then 1 else if 2000 < rBase l ∨ 2000 < rOut l then 3 else 0
/-- What memory may hold of an edit's texts. -/
def Fine1 (l : List CompV) : Prop := ∀ y ∈ l, y.Good ∧ y.text.length ≤ 1099511627776
end Go.Proofs.Ytgenphpaidanhaa
