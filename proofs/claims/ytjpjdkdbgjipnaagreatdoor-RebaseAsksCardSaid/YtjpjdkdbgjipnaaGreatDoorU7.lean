/- Two edits as one, one behind another, and a row of them as one, as functions. No condition. (Merged of 11 texts.) -/
import Derived.Test.YtjpjdkdbgjipnaaGreatDoorU1
import Derived.Test.YtjpjdkdbgjipnaaGreatDoorU48
import Derived.Test.YtjpjdkdbgjipnaaGreatDoorU6
import Derived.Laws.RangeString
import Derived.Laws.RangeAny
import Derived.Lib.DecodeN
namespace Go.Proofs.YtjpjdkdbgjipnaaGreatDoor
noncomputable def validB (l : List Nat) : Bool := @decide (∃ vs, V l vs) (Classical.propDecidable _)
theorem yy296 {l vs : List Nat} (h : V l vs) : validB l = true := by unfold validB; exact @decide_eq_true _ (Classical.propDecidable _) ⟨vs, h⟩
theorem yy393 {l : List Nat} (h : ¬ ∃ vs, V l vs) : validB l = false := by unfold validB; exact @decide_eq_false _ (Classical.propDecidable _) h
def hld (a b : Int) : Int := min (min (max a 0) 1099511627776 + min (max b 0) 1099511627776) 1099511627776
theorem yy101 (a b : Int) : 0 ≤ hld a b := by unfold hld; omega
theorem yy142 (a b : Int) : hld a b ≤ 1099511627776 := by unfold hld; omega
def yy55 (l : List Nat) : Nat := match st l with | some (v, _) => (enc v).length | none => 1
theorem yy90 (l : List Nat) : 0 < yy55 l := by
 unfold yy55
 split
 ·exact yy294 _
 ·omega
theorem yy209 {l : List Nat} (h : l ≠ []) : yy55 l ≤ l.length := by
 unfold yy55
 split
 ·next v r hs =>
  have := congrArg List.length (yy141 hs).2
  rw [List.length_append] at this
  omega
 ·have := List.length_pos_iff.2 h
  omega
def loose (l : List Nat) : Nat := if h : l = [] then 0 else 1 + loose (l.drop (yy55 l))
termination_by l.length
decreasing_by
 have := yy90 l
 have := List.length_pos_iff.2 h
 simp only [List.length_drop]
 omega
theorem yy196 : loose [] = 0 := by rw [loose, dif_pos rfl]
theorem yy143 {l : List Nat} (h : l ≠ []) : loose l = 1 + loose (l.drop (yy55 l)) := by rw [loose, dif_neg h]
theorem yy102 (l : List Nat) : loose l ≤ l.length := by
 by_cases h : l = []
 ·rw [h, yy196]; simp
 ·rw [yy143 h]
  have h1 := yy90 l
  have h2 := yy209 h
  have := yy102 (l.drop (yy55 l))
  rw [List.length_drop] at this
  omega
termination_by l.length
decreasing_by
 have := yy90 l
 have := List.length_pos_iff.2 h
 simp only [List.length_drop]
 omega
theorem yy297 : ∀ (vs : List Nat), (∀ v ∈ vs, May v) → loose (E vs) = vs.length
 | [], _ => by rw [E_nil, yy196]; rfl
 | v :: vs, h => by
  have hv := h v (by simp)
  have hne : E (v :: vs) ≠ [] := by
   intro e
   have := E_pos (v := v) (vs := vs)
   rw [e] at this
   simp at this
  have hs : yy55 (E (v :: vs)) = (enc v).length := by
   rw [yy55, E_cons, st_enc hv]
  rw [yy143 hne, hs, E_cons, List.drop_left' rfl, yy297 vs fun x hx => h x (by simp [hx]), List.length_cons]
  omega
theorem V.loose {l vs : List Nat} (h : V l vs) : loose l = vs.length := by rw [← h.bytes]; exact yy297 vs h.may
def yy54 (n : Int) (c : CompV) : Int := if c.kind = 1 ∨ c.kind = 3 then hld n c.n else n
def yy56 (n : Int) (c : CompV) : Int := if c.kind = 1 then hld n c.n else if c.kind = 2 then hld n (loose c.text : Int) else n
def rBase (l : List CompV) : Int := l.foldl yy54 0
def rOut (l : List CompV) : Int := l.foldl yy56 0
theorem yy661 : rOut [] = 0 := rfl
theorem yy298 (l : List CompV) (c : CompV) : rBase (l ++ [c]) = yy54 (rBase l) c := by rw [rBase, List.foldl_append]; rfl
theorem yy261 (l : List CompV) (c : CompV) : rOut (l ++ [c]) = yy56 (rOut l) c := by rw [rOut, List.foldl_append]; rfl
theorem yy570 (l : List CompV) : 0 ≤ rBase l ∧ rBase l ≤ 1099511627776 := by
 have : ∀ (l : List CompV) (n : Int), 0 ≤ n → n ≤ 1099511627776 → 0 ≤ l.foldl yy54 n ∧ l.foldl yy54 n ≤ 1099511627776 := by
  intro l
  induction l with
  | nil => intro n h1 h2; exact ⟨h1, h2⟩
  | cons c l ih =>
   intro n h1 h2
   rw [List.foldl_cons]
   unfold yy54
   split
   ·exact ih _ (yy101 _ _) (yy142 _ _)
   ·exact ih _ h1 h2
 exact this l 0 (by omega) (by omega)
theorem yy662 (l : List CompV) : 0 ≤ rOut l ∧ rOut l ≤ 1099511627776 := by
 have : ∀ (l : List CompV) (n : Int), 0 ≤ n → n ≤ 1099511627776 → 0 ≤ l.foldl yy56 n ∧ l.foldl yy56 n ≤ 1099511627776 := by
  intro l
  induction l with
  | nil => intro n h1 h2; exact ⟨h1, h2⟩
  | cons c l ih =>
   intro n h1 h2
   rw [List.foldl_cons]
   unfold yy56
   split
   ·exact ih _ (yy101 _ _) (yy142 _ _)
   ·split
    ·exact ih _ (yy101 _ _) (yy142 _ _)
    ·exact ih _ h1 h2
 exact this l 0 (by omega) (by omega)
def NormAt (l : List CompV) (i : Nat) (c : CompV) : Prop :=
 (((c.kind = 1 ∨ c.kind = 3) ∧ 1 ≤ c.n ∧ c.text = []) ∨ (c.kind = 2 ∧ c.n = 0 ∧ c.text ≠ [] ∧ (∃ vs, V c.text vs) ∧ ∀ p, 0 < i → l[i - 1]? = some p → p.kind ≠ 3)) ∧ ∀ p, 0 < i → l[i - 1]? = some p → p.kind ≠ c.kind
def Nrm (l : List CompV) : Prop := ∀ i c, l[i]? = some c → NormAt l i c
noncomputable def nrmB (l : List CompV) : Bool := @decide (Nrm l) (Classical.propDecidable _)
theorem yy165 {l : List CompV} (h : Nrm l) : nrmB l = true := by unfold nrmB; exact @decide_eq_true _ (Classical.propDecidable _) h
theorem yy483 {l : List CompV} (h : ¬ Nrm l) : nrmB l = false := by unfold nrmB; exact @decide_eq_false _ (Classical.propDecidable _) h
noncomputable def rCheck (l : List CompV) : Nat := if 100 < l.length then 3 else if nrmB l = false then 1 else if 2000 < rBase l ∨ 2000 < rOut l then 3 else 0
def Fine1 (l : List CompV) : Prop := ∀ y ∈ l, y.Good ∧ y.text.length ≤ 1099511627776
structure NS where
 out : List CompV
 keep : Int
 gone : Int
 text : List Nat
def keepOf (n : Int) : List CompV := if 0 < n then [⟨1, n, []⟩] else []
def textOf (t : List Nat) : List CompV := if t = [] then [] else [⟨2, 0, t⟩]
def goneOf (n : Int) : List CompV := if 0 < n then [⟨3, n, []⟩] else []
def NS.flush (s : NS) : List CompV := s.out ++ keepOf s.keep ++ textOf s.text ++ goneOf s.gone
def nStep (s : NS) (c : CompV) : NS :=
 if c.kind = 2 then { s with text := s.text ++ c.text } else if c.kind = 3 then { s with gone := hld s.gone c.n } else if c.kind ≠ 1 ∨ c.n < 1 then s
 else if s.text ≠ [] ∨ 0 < s.gone then ⟨s.flush, hld 0 c.n, 0, []⟩ else { s with keep := hld s.keep c.n }
def nStart : NS := ⟨[], 0, 0, []⟩
def nRun (l : List CompV) : NS := l.foldl nStep nStart
def yy19 (l : List CompV) : List CompV := (nRun l).flush
theorem yy197 (l : List CompV) (c : CompV) : nRun (l ++ [c]) = nStep (nRun l) c := by rw [nRun, List.foldl_append]; rfl
structure NS.Fit (s : NS) (n m : Nat) : Prop where
 keep0 : 0 ≤ s.keep
 keep1 : s.keep ≤ 1099511627776
 gone0 : 0 ≤ s.gone
 gone1 : s.gone ≤ 1099511627776
 out : s.out.length ≤ n
 text : s.text.length ≤ m
theorem yy210 (s : NS) : s.flush.length ≤ s.out.length + 3 := by
 unfold NS.flush keepOf textOf goneOf
 simp only [List.length_append]
 split <;> split <;> split <;> simp <;> omega
theorem yy571 {s : NS} {n m : Nat} (h : s.Fit n m) (c : CompV) : (nStep s c).Fit (n + 3) (m + c.text.length) := by
 have h1 := h.keep0; have h2 := h.keep1; have h3 := h.gone0; have h4 := h.gone1; have h5 := h.out; have h6 := h.text
 have hf := yy210 s
 unfold nStep
 split
 ·exact ⟨h1, h2, h3, h4, by show s.out.length ≤ _; omega, by show (s.text ++ c.text).length ≤ _; rw [List.length_append]; omega⟩
 ·split
  ·exact ⟨h1, h2, yy101 _ _, yy142 _ _, by show s.out.length ≤ _; omega, by show s.text.length ≤ _; omega⟩
  ·split
   ·exact ⟨h1, h2, h3, h4, by omega, by omega⟩
   ·split
    ·exact ⟨yy101 _ _, yy142 _ _, Int.le_refl _, by show (0 : Int) ≤ _; omega, by show s.flush.length ≤ _; omega, Nat.zero_le _⟩
    ·exact ⟨yy101 _ _, yy142 _ _, h3, h4, by show s.out.length ≤ _; omega, by show s.text.length ≤ _; omega⟩
def tlen (l : List CompV) : Nat := (l.flatMap CompV.text).length
theorem yy484 (l : List CompV) : (nRun l).Fit (3 * l.length) (tlen l) := by
 have : ∀ (l : List CompV) (s : NS) (n m : Nat), s.Fit n m → (l.foldl nStep s).Fit (n + 3 * l.length) (m + tlen l) := by
  intro l
  induction l with
  | nil => intro s n m h; simpa [tlen] using h
  | cons c l ih =>
   intro s n m h
   rw [List.foldl_cons]
   have := ih (nStep s c) _ _ (yy571 h c)
   rw [show tlen (c :: l) = c.text.length + tlen l by simp [tlen], List.length_cons]
   rwa [show n + 3 * (l.length + 1) = n + 3 + 3 * l.length by omega, ← Nat.add_assoc]
 have h := this l nStart 0 0 ⟨Int.le_refl _, by show (0 : Int) ≤ _; omega, Int.le_refl _, by show (0 : Int) ≤ _; omega, Nat.zero_le _, Nat.zero_le _⟩
 rw [Nat.zero_add, Nat.zero_add] at h
 exact h
theorem yy80 (a b : List CompV) : tlen (a ++ b) = tlen a + tlen b := by rw [tlen, List.flatMap_append, List.length_append]; rfl
theorem yy394 (l : List CompV) (k : Nat) : tlen (l.take k) ≤ tlen l := by
 have e := congrArg tlen (List.take_append_drop k l)
 have := yy80 (l.take k) (l.drop k)
 omega
theorem yy262 {l : List CompV} {k : Nat} (h : k < l.length) : tlen (l.take k) + l[k].text.length ≤ tlen l := by
 have h1 := yy394 l (k + 1)
 rw [List.take_succ_eq_append_getElem h] at h1
 have h2 := yy80 (l.take k) [l[k]]
 have : tlen [l[k]] = l[k].text.length := by simp [tlen]
 omega
theorem yy336 {l : List CompV} {y : CompV} (h : y ∈ l) : y.text.length ≤ tlen l := by
 obtain ⟨i, hi, rfl⟩ := List.getElem_of_mem h
 have := yy262 hi
 omega
theorem yy485 {l : List CompV} (h : rCheck l = 0) : l.length ≤ 100 ∧ Nrm l ∧ rBase l ≤ 2000 ∧ rOut l ≤ 2000 := by
 unfold rCheck at h
 by_cases h1 : 100 < l.length
 ·rw [if_pos h1] at h; omega
 ·rw [if_neg h1] at h
  by_cases h2 : nrmB l = false
  ·rw [if_pos h2] at h; omega
  ·rw [if_neg h2] at h
   by_cases h3 : 2000 < rBase l ∨ 2000 < rOut l
   ·rw [if_pos h3] at h; omega
   ·refine ⟨by omega, Classical.byContradiction fun g => h2 (yy483 g), by omega, by omega⟩
def doStep (vs : List Nat) (s : Int × List Nat) (c : CompV) : Int × List Nat :=
 if c.kind = 1 then (s.1 + c.n, s.2 ++ E ((vs.take (s.1 + c.n).toNat).drop s.1.toNat)) else if c.kind = 2 then (s.1, s.2 ++ c.text) else (s.1 + c.n, s.2)
def doRun (vs : List Nat) (l : List CompV) : Int × List Nat := l.foldl (doStep vs) (0, [])
def lastK (p : List CompV) : Int := match p.getLast? with | some c => c.kind | none => 0
theorem yy395 : lastK [] = 0 := rfl
theorem yy144 (p : List CompV) (c : CompV) : lastK (p ++ [c]) = c.kind := by simp [lastK]
def Part0 (c : CompV) : Prop := ((c.kind = 1 ∨ c.kind = 3) ∧ 1 ≤ c.n ∧ c.text = []) ∨ (c.kind = 2 ∧ c.n = 0 ∧ c.text ≠ [])
inductive Nm : List CompV → Prop
 | nil : Nm []
 | snoc (p : List CompV) (c : CompV) : Nm p → Part0 c → lastK p ≠ c.kind → ¬ (lastK p = 3 ∧ c.kind = 2) → Nm (p ++ [c])
structure NInv (s : NS) : Prop where
 nm : Nm s.out
 keep : s.out ≠ [] → 0 < s.keep
 last : s.out ≠ [] → lastK s.out ≠ 1
 keep0 : 0 ≤ s.keep
 keep1 : s.keep ≤ 1099511627776
 gone0 : 0 ≤ s.gone
 gone1 : s.gone ≤ 1099511627776
 top : ∀ y ∈ s.out, y.n ≤ 1099511627776
theorem NInv.start : NInv nStart := ⟨.nil, fun h => absurd rfl h, fun h => absurd rfl h, Int.le_refl _, by show (0 : Int) ≤ _; omega, Int.le_refl _, by show (0 : Int) ≤ _; omega, fun y hy => by cases hy⟩
theorem NInv.kept {s : NS} (h : NInv s) : Nm (s.out ++ keepOf s.keep) ∧ (lastK (s.out ++ keepOf s.keep) = 0 ∨ lastK (s.out ++ keepOf s.keep) = 1) := by
 by_cases hk : 0 < s.keep
 ·rw [keepOf, if_pos hk]
  refine ⟨.snoc _ _ h.nm (.inl ⟨.inl rfl, by show 1 ≤ s.keep; omega, rfl⟩) ?_ (fun e => by simp at e), .inr (yy144 _ _)⟩
  by_cases ho : s.out = []
  ·rw [ho, yy395]; show (0 : Int) ≠ 1; omega
  ·exact h.last ho
 ·have ho : s.out = [] := by
   by_cases ho : s.out = []
   ·exact ho
   ·exact absurd (h.keep ho) hk
  rw [keepOf, if_neg hk, ho]
  exact ⟨.nil, .inl rfl⟩
theorem NInv.texted {s : NS} (h : NInv s) : Nm (s.out ++ keepOf s.keep ++ textOf s.text) ∧ lastK (s.out ++ keepOf s.keep ++ textOf s.text) ≠ 3 ∧ (s.text ≠ [] → lastK (s.out ++ keepOf s.keep ++ textOf s.text) = 2) := by
 obtain ⟨h1, h2⟩ := h.kept
 by_cases ht : s.text = []
 ·rw [textOf, if_pos ht, List.append_nil]
  exact ⟨h1, by omega, fun e => absurd ht e⟩
 ·rw [textOf, if_neg ht, yy144]
  exact ⟨.snoc _ _ h1 (.inr ⟨rfl, rfl, ht⟩) (by show _ ≠ (2 : Int); omega) (fun e => by omega), by show (2 : Int) ≠ 3; omega, fun _ => rfl⟩
theorem NInv.flush {s : NS} (h : NInv s) : Nm s.flush ∧ (s.text ≠ [] ∨ 0 < s.gone → s.flush ≠ [] ∧ lastK s.flush ≠ 1) := by
 obtain ⟨h1, h2, h3⟩ := h.texted
 rw [NS.flush]
 by_cases hg : 0 < s.gone
 ·rw [goneOf, if_pos hg]
  exact ⟨.snoc _ _ h1 (.inl ⟨.inr rfl, by show 1 ≤ s.gone; omega, rfl⟩) h2 (fun e => by simp at e), fun _ => ⟨by simp, by rw [yy144]; show (3 : Int) ≠ 1; omega⟩⟩
 ·rw [goneOf, if_neg hg, List.append_nil]
  refine ⟨h1, fun e => ?_⟩
  have ht : s.text ≠ [] := e.elim (fun h => h) (fun h => absurd h hg)
  have h4 := h3 ht
  refine ⟨fun e => ?_, by omega⟩
  rw [e, yy395] at h4
  omega
theorem yy572 {s : NS} (h : NInv s) : ∀ y ∈ s.flush, y.n ≤ 1099511627776 := by
 intro y hy
 have h1 := h.keep1
 have h2 := h.gone1
 unfold NS.flush keepOf textOf goneOf at hy
 simp only [List.mem_append] at hy
 rcases hy with ((hy | hy) | hy) | hy
 ·exact h.top y hy
 ·split at hy
  ·rw [List.mem_singleton.1 hy]; exact h1
  ·cases hy
 ·split at hy
  ·cases hy
  ·rw [List.mem_singleton.1 hy]; show (0 : Int) ≤ _; omega
 ·split at hy
  ·rw [List.mem_singleton.1 hy]; exact h2
  ·cases hy
theorem NInv.step {s : NS} (h : NInv s) (c : CompV) : NInv (nStep s c) := by
 unfold nStep
 split
 ·exact ⟨h.nm, h.keep, h.last, h.keep0, h.keep1, h.gone0, h.gone1, h.top⟩
 ·split
  ·exact ⟨h.nm, h.keep, h.last, h.keep0, h.keep1, yy101 _ _, yy142 _ _, h.top⟩
  ·split
   ·exact h
   ·rename_i hn
    have hpos : ∀ a : Int, 0 < hld a c.n := fun a => by
     have : ¬ c.n < 1 := fun e => hn (.inr e)
     unfold hld
     omega
    split
    ·rename_i ht
     have hf := h.flush
     exact ⟨hf.1, fun _ => hpos 0, (hf.2 ht).2 |> fun e _ => e, yy101 _ _, yy142 _ _, Int.le_refl _, by show (0 : Int) ≤ _; omega, yy572 h⟩
    ·exact ⟨h.nm, fun _ => hpos s.keep, h.last, yy101 _ _, yy142 _ _, h.gone0, h.gone1, h.top⟩
theorem yy486 (l : List CompV) : NInv (nRun l) := by
 have : ∀ (l : List CompV) (s : NS), NInv s → NInv (l.foldl nStep s) := by
  intro l
  induction l with
  | nil => intro s h; exact h
  | cons c l ih => intro s h; exact ih _ (h.step c)
 exact this l _ .start
theorem yy723 (l : List CompV) : Nm (yy19 l) := (yy486 l).flush.1
def bOf (c : CompV) : Int := if c.kind = 1 ∨ c.kind = 3 then max c.n 0 else 0
def uOf (c : CompV) : Int := if c.kind = 1 then max c.n 0 else if c.kind = 2 then (loose c.text : Int) else 0
def nOf (c : CompV) : Int := max c.n 0
def sumB (l : List CompV) : Int := (l.map bOf).sum
def sumU (l : List CompV) : Int := (l.map uOf).sum
theorem yy633 (c : CompV) : 0 ≤ bOf c ∧ bOf c ≤ nOf c := by unfold bOf nOf; split <;> omega
theorem yy634 (c : CompV) : 0 ≤ uOf c ∧ uOf c ≤ nOf c + c.text.length := by
 have := yy102 c.text
 unfold uOf nOf
 split
 ·omega
 ·split <;> omega
theorem yy663 (l : List CompV) : 0 ≤ sumB l := by
 induction l with
 | nil => exact Int.le_refl _
 | cons c l ih => have := yy633 c; have h : sumB (c :: l) = bOf c + sumB l := by simp [sumB]
                  omega
theorem yy664 (l : List CompV) : 0 ≤ sumU l := by
 induction l with
 | nil => exact Int.le_refl _
 | cons c l ih => have := yy634 c; have h : sumU (c :: l) = uOf c + sumU l := by simp [sumU]
                  omega
theorem yy665 (l : List CompV) : rBase l = min (sumB l) 1099511627776 := by
 have : ∀ (l : List CompV) (n : Int), 0 ≤ n → n ≤ 1099511627776 → l.foldl yy54 n = min (n + sumB l) 1099511627776 := by
  intro l
  induction l with
  | nil => intro n h1 h2; show n = min (n + 0) _; omega
  | cons c l ih =>
   intro n h1 h2
   have e : sumB (c :: l) = bOf c + sumB l := by simp [sumB]
   have hp := yy663 l
   have e2 : yy54 n c = min (n + bOf c) 1099511627776 := by
    unfold yy54 bOf
    split
    ·unfold hld; omega
    ·omega
   have hb := yy633 c
   rw [List.foldl_cons, e, e2, ih _ (by omega) (by omega)]
   omega
 have h := this l 0 (by omega) (by omega)
 rwa [Int.zero_add] at h
theorem yy724 (l : List CompV) : rOut l = min (sumU l) 1099511627776 := by
 have : ∀ (l : List CompV) (n : Int), 0 ≤ n → n ≤ 1099511627776 → l.foldl yy56 n = min (n + sumU l) 1099511627776 := by
  intro l
  induction l with
  | nil => intro n h1 h2; show n = min (n + 0) _; omega
  | cons c l ih =>
   intro n h1 h2
   have e : sumU (c :: l) = uOf c + sumU l := by simp [sumU]
   have hp := yy664 l
   have e2 : yy56 n c = min (n + uOf c) 1099511627776 := by
    unfold yy56 uOf
    split
    ·unfold hld; omega
    ·split
     ·unfold hld; omega
     ·omega
   have hb := yy634 c
   rw [List.foldl_cons, e, e2, ih _ (by omega) (by omega)]
   omega
 have h := this l 0 (by omega) (by omega)
 rwa [Int.zero_add] at h
theorem V.append {a b va vb : List Nat} (h1 : V a va) (h2 : V b vb) : V (a ++ b) (va ++ vb) := by
 refine ⟨fun v hv => ?_, by rw [yy207, h1.bytes, h2.bytes]⟩
 rcases List.mem_append.1 hv with hv | hv
 ·exact h1.may v hv
 ·exact h2.may v hv
def AllV (l : List CompV) : Prop := ∀ y ∈ l, ∃ vs, V y.text vs
theorem yy299 {s : NS} (h1 : AllV s.out) (h2 : ∃ v, V s.text v) : AllV s.flush := by
 intro y hy
 unfold NS.flush keepOf textOf goneOf at hy
 simp only [List.mem_append] at hy
 rcases hy with ((hy | hy) | hy) | hy
 ·exact h1 y hy
 ·split at hy
  ·rw [List.mem_singleton.1 hy]; exact ⟨[], V.nil⟩
  ·cases hy
 ·split at hy
  ·cases hy
  ·rw [List.mem_singleton.1 hy]; exact h2
 ·split at hy
  ·rw [List.mem_singleton.1 hy]; exact ⟨[], V.nil⟩
  ·cases hy
theorem yy573 {s : NS} {c : CompV} (h1 : AllV s.out) (h2 : ∃ v, V s.text v) (hc : ∃ v, V c.text v) : AllV (nStep s c).out ∧ ∃ v, V (nStep s c).text v := by
 unfold nStep
 split
 ·obtain ⟨va, ha⟩ := h2
  obtain ⟨vb, hb⟩ := hc
  exact ⟨h1, _, ha.append hb⟩
 ·split
  ·exact ⟨h1, h2⟩
  ·split
   ·exact ⟨h1, h2⟩
   ·split
    ·exact ⟨yy299 h1 h2, [], V.nil⟩
    ·exact ⟨h1, h2⟩
theorem yy666 (l : List CompV) (hv : AllV l) : AllV (yy19 l) := by
 have : ∀ (l : List CompV) (s : NS), AllV l → AllV s.out → (∃ v, V s.text v) → AllV (l.foldl nStep s).out ∧ ∃ v, V (l.foldl nStep s).text v := by
  intro l
  induction l with
  | nil => intro s _ h1 h2; exact ⟨h1, h2⟩
  | cons c l ih =>
   intro s hv h1 h2
   have hst := yy573 h1 h2 (hv c (by simp))
   exact ih _ (fun y hy => hv y (by simp [hy])) hst.1 hst.2
 have h := this l nStart hv (fun y hy => by cases hy) ⟨[], V.nil⟩
 exact yy299 h.1 h.2
theorem yy300 (s : NS) : tlen s.flush = tlen s.out + s.text.length := by
 rw [NS.flush, yy80, yy80, yy80]
 have e1 : tlen (keepOf s.keep) = 0 := by unfold keepOf; split <;> rfl
 have e2 : tlen (textOf s.text) = s.text.length := by
  unfold textOf; split
  ·rename_i e; rw [e]; rfl
  ·simp [tlen]
 have e3 : tlen (goneOf s.gone) = 0 := by unfold goneOf; split <;> rfl
 omega
theorem yy574 (s : NS) (c : CompV) : tlen (nStep s c).out + (nStep s c).text.length ≤ tlen s.out + s.text.length + c.text.length := by
 unfold nStep
 split
 ·show tlen s.out + (s.text ++ c.text).length ≤ _
  rw [List.length_append]; omega
 ·split
  ·show tlen s.out + s.text.length ≤ _; omega
  ·split
   ·omega
   ·split
    ·show tlen s.flush + 0 ≤ _
     rw [yy300]; omega
    ·show tlen s.out + s.text.length ≤ _; omega
theorem yy263 (l : List CompV) : tlen (yy19 l) ≤ tlen l := by
 have : ∀ (l : List CompV) (s : NS), tlen (l.foldl nStep s).out + (l.foldl nStep s).text.length ≤ tlen s.out + s.text.length + tlen l := by
  intro l
  induction l with
  | nil => intro s; exact Nat.le_add_right _ _
  | cons c l ih =>
   intro s
   have e : tlen (c :: l) = c.text.length + tlen l := by simp [tlen]
   have h1 := ih (nStep s c)
   have h2 := yy574 s c
   rw [List.foldl_cons, e]
   omega
 have h := this l nStart
 rw [yy19, yy300]
 have e : tlen nStart.out + nStart.text.length = 0 := rfl
 have e2 : nRun l = l.foldl nStep nStart := rfl
 rw [e2]
 omega
theorem yy667 (l : List CompV) : (yy19 l).length ≤ 3 * l.length + 3 := Nat.le_trans (yy210 _) (by have := (yy484 l).out; omega)
def Gd (c : CompV) : Prop := Fit64 c.kind ∧ Fit64 c.n ∧ ∀ x ∈ c.text, x < 256
theorem yy487 {s : NS} (hi : NInv s) (h1 : ∀ y ∈ s.out, Gd y) (h2 : ∀ x ∈ s.text, x < 256) : ∀ y ∈ s.flush, Gd y := by
 intro y hy
 have k0 := hi.keep0; have k1 := hi.keep1; have g0 := hi.gone0; have g1 := hi.gone1
 unfold NS.flush keepOf textOf goneOf at hy
 simp only [List.mem_append] at hy
 rcases hy with ((hy | hy) | hy) | hy
 ·exact h1 y hy
 ·split at hy
  ·rw [List.mem_singleton.1 hy]; exact ⟨by unfold Fit64; simp, by unfold Fit64; show _ ≤ s.keep ∧ s.keep ≤ _; omega, fun x hx => by cases hx⟩
  ·cases hy
 ·split at hy
  ·cases hy
  ·rw [List.mem_singleton.1 hy]; exact ⟨by unfold Fit64; simp, by unfold Fit64; simp, h2⟩
 ·split at hy
  ·rw [List.mem_singleton.1 hy]; exact ⟨by unfold Fit64; simp, by unfold Fit64; show _ ≤ s.gone ∧ s.gone ≤ _; omega, fun x hx => by cases hx⟩
  ·cases hy
theorem yy575 (l : List CompV) (hg : ∀ y ∈ l, y.Good) (ht : tlen l ≤ 1099511627776) : ∀ y ∈ yy19 l, y.Good := by
 have : ∀ (l : List CompV) (s : NS), (∀ y ∈ l, y.Good) → NInv s → (∀ y ∈ s.out, Gd y) → (∀ x ∈ s.text, x < 256) → (∀ y ∈ (l.foldl nStep s).out, Gd y) ∧ ∀ x ∈ (l.foldl nStep s).text, x < 256 := by
  intro l
  induction l with
  | nil => intro s _ _ h1 h2; exact ⟨h1, h2⟩
  | cons c l ih =>
   intro s hg hi h1 h2
   have hc := hg c (by simp)
   have hs : (∀ y ∈ (nStep s c).out, Gd y) ∧ ∀ x ∈ (nStep s c).text, x < 256 := by
    unfold nStep
    split
    ·refine ⟨h1, fun x hx => ?_⟩
     rcases List.mem_append.1 hx with hx | hx
     ·exact h2 x hx
     ·exact hc.2.2.1 x hx
    ·split
     ·exact ⟨h1, h2⟩
     ·split
      ·exact ⟨h1, h2⟩
      ·split
       ·exact ⟨yy487 hi h1 h2, fun x hx => by cases hx⟩
       ·exact ⟨h1, h2⟩
   exact ih _ (fun y hy => hg y (by simp [hy])) (hi.step c) hs.1 hs.2
 have h := this l nStart hg .start (fun y hy => by cases hy) (fun x hx => by cases hx)
 have h2 := yy487 (yy486 l) h.1 h.2
 intro y hy
 have h3 := h2 y hy
 have h4 : y.text.length ≤ tlen (yy19 l) := by
  obtain ⟨i, hi, rfl⟩ := List.getElem_of_mem hy
  have := yy262 hi
  omega
 have h5 := yy263 l
 exact ⟨h3.1, h3.2.1, h3.2.2, by unfold maxLen; omega⟩
noncomputable def cps (t : List Nat) : List Nat := @dite _ (∃ vs, V t vs) (Classical.propDecidable _) (fun h => Classical.choose h) (fun _ => [])
theorem cps_of {t vs : List Nat} (h : V t vs) : cps t = vs := by
 unfold cps
 rw [dif_pos ⟨vs, h⟩]
 exact V.uniq (Classical.choose_spec (⟨vs, h⟩ : ∃ vs, V t vs)) h
theorem yy211 : cps [] = [] := cps_of V.nil
theorem cps_E {vs : List Nat} (h : ∀ v ∈ vs, May v) : cps (E vs) = vs := cps_of (V.mk h)
theorem cps_V {t : List Nat} (h : ∃ vs, V t vs) : V t (cps t) := by
 obtain ⟨vs, h⟩ := h
 rw [cps_of h]
 exact h
theorem yy264 {t : List Nat} (h : ∃ vs, V t vs) : loose t = (cps t).length := (cps_V h).loose
def Wh (c : CompV) : Prop := ((c.kind = 1 ∨ c.kind = 3) ∧ 1 ≤ c.n ∧ c.text = []) ∨ (c.kind = 2 ∧ c.n = 0 ∧ c.text ≠ [] ∧ ∃ vs, V c.text vs)
theorem Wh.cases {c : CompV} (h : Wh c) : (c.kind = 1 ∧ 1 ≤ c.n ∧ c.text = []) ∨ (c.kind = 3 ∧ 1 ≤ c.n ∧ c.text = []) ∨ (c.kind = 2 ∧ c.n = 0 ∧ c.text ≠ [] ∧ ∃ vs, V c.text vs) := by
 rcases h with ⟨h | h, g⟩ | h
 ·exact .inl ⟨h, g⟩
 ·exact .inr (.inl ⟨h, g⟩)
 ·exact .inr (.inr h)
theorem cps_ne {t : List Nat} (h : ∃ vs, V t vs) (h0 : t ≠ []) : 0 < (cps t).length := by
 have hv := cps_V h
 cases hc : cps t with
 | nil => exact absurd (by rw [← hv.bytes, hc]; exact E_nil) h0
 | cons v vs => simp
noncomputable def ed : List CompV → List Nat → List Nat
 | [], _ => []
 | c :: l, vs => if c.kind = 1 then vs.take c.n.toNat ++ ed l (vs.drop c.n.toNat) else if c.kind = 2 then cps c.text ++ ed l vs else ed l (vs.drop c.n.toNat)
theorem ed_nil (vs : List Nat) : ed [] vs = [] := rfl
theorem ed_one {c : CompV} (h : c.kind = 1) (l : List CompV) (vs : List Nat) : ed (c :: l) vs = vs.take c.n.toNat ++ ed l (vs.drop c.n.toNat) := by rw [ed, if_pos h]
theorem ed_two {c : CompV} (h : c.kind = 2) (l : List CompV) (vs : List Nat) : ed (c :: l) vs = cps c.text ++ ed l vs := by rw [ed, if_neg (by omega), if_pos h]
theorem yy166 {c : CompV} (h : c.kind = 3) (l : List CompV) (vs : List Nat) : ed (c :: l) vs = ed l (vs.drop c.n.toNat) := by rw [ed, if_neg (by omega), if_neg (by omega)]
def inN (c : CompV) : Nat := if c.kind = 2 then 0 else c.n.toNat
noncomputable def outN (c : CompV) : Nat := if c.kind = 1 then c.n.toNat else if c.kind = 2 then (cps c.text).length else 0
def inS : List CompV → Nat
 | [] => 0
 | c :: l => inN c + inS l
noncomputable def outS : List CompV → Nat
 | [] => 0
 | c :: l => outN c + outS l
theorem yy67 : inS [] = 0 := rfl
theorem yy488 : outS [] = 0 := rfl
theorem yy28 (c : CompV) (l : List CompV) : inS (c :: l) = inN c + inS l := rfl
theorem yy60 (c : CompV) (l : List CompV) : outS (c :: l) = outN c + outS l := rfl
theorem in_one {c : CompV} (h : c.kind = 1) : inN c = c.n.toNat := if_neg (by omega)
theorem in_two {c : CompV} (h : c.kind = 2) : inN c = 0 := if_pos h
theorem yy65 {c : CompV} (h : c.kind = 3) : inN c = c.n.toNat := if_neg (by omega)
theorem yy212 {c : CompV} (h : c.kind = 1) : outN c = c.n.toNat := if_pos h
theorem yy145 {c : CompV} (h : c.kind = 2) : outN c = (cps c.text).length := by rw [outN, if_neg (by omega), if_pos h]
theorem yy116 {c : CompV} (h : c.kind = 3) : outN c = 0 := by rw [outN, if_neg (by omega), if_neg (by omega)]
theorem yy57 : ∀ (a b : List CompV), inS (a ++ b) = inS a + inS b
 | [], b => by simp [inS]
 | c :: a, b => by rw [List.cons_append, inS, inS, yy57 a b]; omega
theorem yy265 : ∀ (l : List CompV) (vs : List Nat), (∀ c ∈ l, Wh c) → inS l ≤ vs.length → (ed l vs).length = outS l
 | [], vs, _, _ => rfl
 | c :: l, vs, hw, h => by
  have ih := fun vs h => yy265 l vs (fun x hx => hw x (List.mem_cons_of_mem _ hx)) h
  rw [inS] at h
  rw [outS]
  rcases (hw c (by simp)).cases with ⟨hk, _⟩ | ⟨hk, _⟩ | ⟨hk, _⟩
  ·rw [in_one hk] at h
   rw [ed_one hk, yy212 hk, List.length_append, List.length_take, ih _ (by rw [List.length_drop]; omega)]
   omega
  ·rw [yy65 hk] at h
   rw [yy166 hk, yy116 hk, ih _ (by rw [List.length_drop]; omega)]
   omega
  ·rw [in_two hk] at h
   rw [ed_two hk, yy145 hk, List.length_append, ih _ (by omega)]
theorem yy635 : ∀ (l : List CompV), (∀ c ∈ l, Wh c) → sumB l = (inS l : Int) ∧ sumU l = (outS l : Int)
 | [], _ => ⟨rfl, rfl⟩
 | c :: l, hw => by
  have ih := yy635 l fun x hx => hw x (List.mem_cons_of_mem _ hx)
  have h1 : sumB (c :: l) = bOf c + sumB l := by simp [sumB]
  have h2 : sumU (c :: l) = uOf c + sumU l := by simp [sumU]
  rw [h1, h2, ih.1, ih.2, inS, outS, bOf, uOf]
  rcases (hw c (by simp)).cases with ⟨hk, hn, _⟩ | ⟨hk, hn, _⟩ | ⟨hk, _, _, ht⟩
  ·rw [in_one hk, yy212 hk, if_pos (.inl hk), if_pos hk]; omega
  ·rw [yy65 hk, yy116 hk, if_pos (.inr hk), if_neg (by omega), if_neg (by omega)]; omega
  ·rw [in_two hk, yy145 hk, if_neg (by omega), if_neg (by omega), if_pos hk, yy264 ht]; omega
theorem Nrm.wh {l : List CompV} (h : Nrm l) : ∀ c ∈ l, Wh c := fun c hc => by
 obtain ⟨i, hi, rfl⟩ := List.getElem_of_mem hc
 rcases (h i _ (List.getElem?_eq_getElem hi)).1 with g | g
 ·exact .inl g
 ·exact .inr ⟨g.1, g.2.1, g.2.2.1, g.2.2.2.1⟩
structure Ok (l : List CompV) : Prop where
 len : l.length ≤ 100
 nrm : Nrm l
 wh : ∀ c ∈ l, Wh c
 base : rBase l = (inS l : Int)
 out : rOut l = (outS l : Int)
 base1 : inS l ≤ 2000
 out1 : outS l ≤ 2000
theorem ok_of {l : List CompV} (h : rCheck l = 0) : Ok l := by
 obtain ⟨h1, h2, h3, h4⟩ := yy485 h
 have hs := yy635 l h2.wh
 have e1 := yy665 l
 have e2 := yy724 l
 rw [hs.1] at e1
 rw [hs.2] at e2
 exact ⟨h1, h2, h2.wh, by omega, by omega, by omega, by omega⟩
theorem Ok.check {l : List CompV} (h : Ok l) : rCheck l = 0 := by
 have h1 := h.base; have h2 := h.out; have h3 := h.base1; have h4 := h.out1
 unfold rCheck
 rw [if_neg (by have := h.len; omega), if_neg (by rw [yy165 h.nrm]; simp), if_neg (by omega)]
def Ch : Int → List CompV → Prop
 | _, [] => True
 | k, c :: l => Wh c ∧ k ≠ c.kind ∧ ¬ (k = 3 ∧ c.kind = 2) ∧ Ch c.kind l
def lastOr : Int → List CompV → Int
 | k, [] => k
 | _, c :: l => lastOr c.kind l
theorem yy245 : ∀ (p : List CompV) (k : Int) (c : CompV), lastOr k (p ++ [c]) = c.kind
 | [], _, _ => rfl
 | d :: p, k, c => by rw [List.cons_append, lastOr, yy245 p]
theorem Ch.append : ∀ (p : List CompV) (k : Int) (l : List CompV), Ch k (p ++ l) ↔ Ch k p ∧ Ch (lastOr k p) l
 | [], k, l => by simp [Ch, lastOr]
 | c :: p, k, l => by rw [List.cons_append, Ch, Ch, lastOr, Ch.append p]; exact ⟨fun h => ⟨⟨h.1, h.2.1, h.2.2.1, h.2.2.2.1⟩, h.2.2.2.2⟩, fun h => ⟨h.1.1, h.1.2.1, h.1.2.2.1, h.1.2.2.2, h.2⟩⟩
theorem Ch.wh : ∀ {l : List CompV} {k : Int}, Ch k l → ∀ c ∈ l, Wh c
 | [], _, _ => fun c hc => by cases hc
 | d :: l, _, h => fun c hc => by
  rcases List.mem_cons.1 hc with rfl | hc
  ·exact h.1
  ·exact Ch.wh h.2.2.2 c hc
theorem yy668 : ∀ {p : List CompV}, Nm p → lastK p = lastOr 0 p := fun h => by
 cases h with
 | nil => rfl
 | snoc p c _ _ _ _ => rw [yy144, yy245]
theorem yy669 {l : List CompV} (h : Nm l) : (∀ y ∈ l, y.kind = 2 → ∃ vs, V y.text vs) → Ch 0 l := by
 induction h with
 | nil => intro _; trivial
 | snoc p c hp hc h1 h2 ih =>
  intro hv
  rw [Ch.append, ← yy668 hp]
  refine ⟨ih fun y hy => hv y (List.mem_append_left _ hy), ?_, h1, h2, trivial⟩
  rcases hc with h | ⟨g1, g2, g3⟩
  ·exact .inl h
  ·exact .inr ⟨g1, g2, g3, hv c (by simp) g1⟩
attribute [irreducible] ed inS outS
theorem yy70 : ∀ (a b : List CompV) (vs : List Nat), ed (a ++ b) vs = ed a vs ++ ed b (vs.drop (inS a))
 | [], b, vs => by rw [List.nil_append, ed_nil, yy67, List.drop_zero, List.nil_append]
 | c :: a, b, vs => by
  rw [List.cons_append, yy28]
  by_cases h1 : c.kind = 1
  ·rw [ed_one h1, ed_one h1, yy70 a b, in_one h1, List.append_assoc, List.drop_drop]
  ·by_cases h2 : c.kind = 2
   ·rw [ed_two h2, ed_two h2, yy70 a b, in_two h2, List.append_assoc, Nat.zero_add]
   ·have e : ∀ l, ed (c :: l) vs = ed l (vs.drop c.n.toNat) := fun l => by rw [ed, if_neg h1, if_neg h2]
    rw [e, e, yy70 a b, inN, if_neg h2, List.drop_drop]
theorem yy489 {a b : List Nat} (ha : ∃ vs, V a vs) (hb : ∃ vs, V b vs) : cps (a ++ b) = cps a ++ cps b := cps_of ((cps_V ha).append (cps_V hb))
theorem yy636 {n : Int} (h : 0 ≤ n) (vs : List Nat) : ed (keepOf n) vs = vs.take n.toNat ∧ inS (keepOf n) = n.toNat := by
 unfold keepOf
 by_cases h0 : 0 < n
 ·rw [if_pos h0, ed_one rfl, ed_nil, yy28, yy67, in_one rfl]
  simp
 ·rw [if_neg h0, ed_nil, yy67, show n.toNat = 0 by omega]
  simp
theorem yy637 {n : Int} (h : 0 ≤ n) (vs : List Nat) : ed (goneOf n) vs = [] ∧ inS (goneOf n) = n.toNat := by
 unfold goneOf
 by_cases h0 : 0 < n
 ·rw [if_pos h0, yy166 rfl, ed_nil, yy28, yy67, yy65 rfl]
  simp
 ·rw [if_neg h0, ed_nil, yy67, show n.toNat = 0 by omega]
  simp
theorem yy638 (t : List Nat) (vs : List Nat) : ed (textOf t) vs = cps t ∧ inS (textOf t) = 0 := by
 unfold textOf
 by_cases h0 : t = []
 ·rw [if_pos h0, ed_nil, yy67, h0, yy211]
  simp
 ·rw [if_neg h0, ed_two rfl, ed_nil, yy28, yy67, in_two rfl]
  simp
theorem yy213 {s : NS} (hk : 0 ≤ s.keep) (hg : 0 ≤ s.gone) (vs : List Nat) :
  ed s.flush vs = ed s.out vs ++ (vs.drop (inS s.out)).take s.keep.toNat ++ cps s.text ∧ inS s.flush = inS s.out + s.keep.toNat + s.gone.toNat := by
 unfold NS.flush
 rw [yy70, yy70, yy70, (yy636 hk _).1, (yy638 _ _).1, (yy637 hg _).1, List.append_nil, yy57, yy57, yy57, (yy636 hk vs).2, (yy638 s.text vs).2, (yy637 hg vs).2]
 exact ⟨rfl, by omega⟩
structure NEd (l : List CompV) (s : NS) : Prop where
 ed : ∀ vs, ed s.flush vs = ed l vs
 ins : inS s.flush = inS l
 text : ∃ vs, V s.text vs
theorem yy670 {l : List CompV} {s : NS} (h : NEd l s) (hi : NInv s) (c : CompV) (hc : Wh c) (hl : inS (l ++ [c]) ≤ 1099511627776) : NEd (l ++ [c]) (nStep s c) := by
 have hk := hi.keep0; have hg := hi.gone0
 have hf := fun vs => yy213 hk hg vs
 have he := h.ed; have hs := h.ins; have ht := h.text
 have hin := (hf []).2
 rw [yy57, yy28, yy67] at hl
 rcases hc.cases with ⟨g, gn, gt⟩ | ⟨g, gn, gt⟩ | ⟨g, gn, gt, gv⟩
 ·rw [in_one g] at hl
  have e0 : hld 0 c.n = c.n := by unfold hld; omega
  rw [nStep, if_neg (by omega), if_neg (by omega), if_neg (by omega)]
  by_cases ho : s.text ≠ [] ∨ 0 < s.gone
  ·rw [if_pos ho, e0]
   have hf2 := fun vs => yy213 (s := ⟨s.flush, c.n, 0, []⟩) (by show 0 ≤ c.n; omega) (by show (0 : Int) ≤ 0; omega) vs
   refine ⟨fun vs => ?_, ?_, [], V.nil⟩
   ·rw [(hf2 vs).1, yy70, ed_one g, ed_nil, yy211, List.append_nil, List.append_nil, he, hs]
   ·rw [(hf2 []).2, yy57, yy28, yy67, in_one g, hs]
    show inS l + c.n.toNat + (0 : Int).toNat = _
    omega
  ·have ht0 : s.text = [] := Classical.byContradiction fun e => ho (.inl e)
   have hg0 : s.gone = 0 := by
    have : ¬ 0 < s.gone := fun e => ho (.inr e)
    omega
   rw [if_neg ho]
   have ek : hld s.keep c.n = s.keep + c.n := by unfold hld; omega
   have hf2 := fun vs => yy213 (s := { s with keep := hld s.keep c.n }) (by show 0 ≤ hld s.keep c.n; exact yy101 _ _) hg vs
   refine ⟨fun vs => ?_, ?_, ht⟩
   ·rw [(hf2 vs).1, yy70, ed_one g, ed_nil, ← he, ← hs, (hf vs).1, (hf vs).2]
    show ed s.out vs ++ List.take (hld s.keep c.n).toNat (List.drop (inS s.out) vs) ++ cps s.text = _
    rw [ht0, yy211, List.append_nil, List.append_nil, List.append_nil, ek, show (s.keep + c.n).toNat = s.keep.toNat + c.n.toNat by omega, List.take_add, List.drop_drop, hg0, List.append_assoc]
    simp
   ·rw [(hf2 []).2, yy57, yy28, yy67, in_one g, ← hs, hin]
    show inS s.out + (hld s.keep c.n).toNat + s.gone.toNat = _
    rw [ek]
    omega
 ·rw [yy65 g] at hl
  have ek : hld s.gone c.n = s.gone + c.n := by unfold hld; omega
  rw [nStep, if_neg (by omega), if_pos g]
  have hf2 := fun vs => yy213 (s := { s with gone := hld s.gone c.n }) hk (by show 0 ≤ hld s.gone c.n; exact yy101 _ _) vs
  refine ⟨fun vs => ?_, ?_, ht⟩
  ·rw [(hf2 vs).1, yy70, yy166 g, ed_nil, List.append_nil, ← he, (hf vs).1]
  ·rw [(hf2 []).2, yy57, yy28, yy67, yy65 g, ← hs, hin]
   show inS s.out + s.keep.toNat + (hld s.gone c.n).toNat = _
   rw [ek]
   omega
 ·rw [nStep, if_pos g]
  have hf2 := fun vs => yy213 (s := { s with text := s.text ++ c.text }) hk hg vs
  refine ⟨fun vs => ?_, ?_, ?_⟩
  ·rw [(hf2 vs).1, yy70, ed_two g, ed_nil, List.append_nil, ← he, (hf vs).1]
   show ed s.out vs ++ List.take s.keep.toNat (List.drop (inS s.out) vs) ++ cps (s.text ++ c.text) = _
   rw [yy489 ht gv, List.append_assoc, List.append_assoc, List.append_assoc]
  ·rw [(hf2 []).2, yy57, yy28, yy67, in_two g, ← hs, hin]
   show inS s.out + s.keep.toNat + s.gone.toNat = _
   omega
  ·exact ⟨_, (cps_V ht).append (cps_V gv)⟩
theorem run_ed (l : List CompV) (hw : ∀ c ∈ l, Wh c) (hl : inS l ≤ 1099511627776) : NEd l (nRun l) := by
 have : ∀ k, k ≤ l.length → NEd (l.take k) (nRun (l.take k)) := by
  intro k
  induction k with
  | zero => exact fun _ => ⟨fun vs => by rw [List.take_zero]; rfl, by rw [List.take_zero]; rfl, [], V.nil⟩
  | succ k ih =>
   intro hk
   rw [List.take_succ_eq_append_getElem (by omega), yy197]
   refine yy670 (ih (by omega)) (yy486 _) _ (hw _ (List.getElem_mem _)) ?_
   rw [← List.take_succ_eq_append_getElem (by omega)]
   have := yy57 (l.take (k + 1)) (l.drop (k + 1))
   rw [List.take_append_drop] at this
   omega
 have h := this l.length (Nat.le_refl _)
 rwa [List.take_length] at h
theorem yy725 {l : List CompV} (hw : ∀ c ∈ l, Wh c) : AllV l := fun y hy => by
 rcases (hw y hy).cases with ⟨_, _, e⟩ | ⟨_, _, e⟩ | ⟨_, _, _, e⟩
 ·exact ⟨[], by rw [e]; exact V.nil⟩
 ·exact ⟨[], by rw [e]; exact V.nil⟩
 ·exact e
structure NormEd (l m : List CompV) : Prop where
 ch : Ch 0 m
 ed : ∀ vs, ed m vs = ed l vs
 ins : inS m = inS l
 outs : outS m = outS l
theorem yy726 {l : List CompV} (hw : ∀ c ∈ l, Wh c) (hl : inS l ≤ 1099511627776) : NormEd l (yy19 l) := by
 have h := run_ed l hw hl
 have hc : Ch 0 (yy19 l) := yy669 (yy723 l) fun y hy _ => yy666 l (yy725 hw) y hy
 refine ⟨hc, h.ed, h.ins, ?_⟩
 have e1 := yy265 (yy19 l) (List.replicate (inS l) 0) hc.wh (by rw [List.length_replicate]; exact Nat.le_of_eq h.ins)
 have e2 := yy265 l (List.replicate (inS l) 0) hw (by rw [List.length_replicate]; exact Nat.le_refl _)
 have e3 : ed (yy19 l) (List.replicate (inS l) 0) = ed l (List.replicate (inS l) 0) := h.ed _
 rw [← e1, ← e2, e3]
noncomputable def sz (c : CompV) : Nat := if c.kind = 2 then (cps c.text).length else c.n.toNat
noncomputable def cut (c : CompV) (n : Nat) : CompV := if c.kind = 2 then ⟨2, 0, E ((cps c.text).drop n)⟩ else ⟨c.kind, c.n - n, []⟩
noncomputable def piece (c : CompV) (k : Nat) : CompV := if c.kind = 2 then ⟨2, 0, E ((cps c.text).take k)⟩ else ⟨c.kind, k, []⟩
noncomputable def chop (c : CompV) (l : List CompV) (n : Nat) : List CompV := if n = sz c then l else cut c n :: l
theorem sz_two {c : CompV} (h : c.kind = 2) : sz c = (cps c.text).length := if_pos h
theorem sz_not {c : CompV} (h : c.kind ≠ 2) : sz c = c.n.toNat := if_neg h
theorem Wh.sz {c : CompV} (h : Wh c) : 0 < sz c := by
 rcases h.cases with ⟨g, gn, _⟩ | ⟨g, gn, _⟩ | ⟨g, _, gt, gv⟩
 ·rw [sz_not (by omega)]; omega
 ·rw [sz_not (by omega)]; omega
 ·rw [sz_two g]; exact cps_ne gv gt
theorem yy82 (c : CompV) (n : Nat) : (cut c n).kind = c.kind := by unfold cut; split <;> simp_all
theorem yy103 (c : CompV) (n : Nat) : (piece c n).kind = c.kind := by unfold piece; split <;> simp_all
theorem yy167 {t : List Nat} (h : ∃ vs, V t vs) (n : Nat) : ∀ v ∈ (cps t).drop n, May v := fun v hv => (cps_V h).may v (List.mem_of_mem_drop hv)
theorem yy266 {t : List Nat} (h : ∃ vs, V t vs) (n : Nat) : ∀ v ∈ (cps t).take n, May v := fun v hv => (cps_V h).may v (List.mem_of_mem_take hv)
theorem E_ne {vs : List Nat} (h : 0 < vs.length) : E vs ≠ [] := fun e => by
 have := yy164 vs
 rw [e] at this
 have : vs.length ≤ 0 := this
 omega
theorem cut_wh {c : CompV} (h : Wh c) {n : Nat} (hn : n < sz c) : Wh (cut c n) ∧ sz (cut c n) = sz c - n := by
 rcases h.cases with ⟨g, gn, gt⟩ | ⟨g, gn, gt⟩ | ⟨g, gn, gt, gv⟩
 ·rw [sz_not (c := c) (by omega)] at hn ⊢
  have e : cut c n = ⟨c.kind, c.n - n, []⟩ := if_neg (by omega)
  rw [e]
  exact ⟨.inl ⟨.inl g, by show 1 ≤ c.n - n; omega, rfl⟩, by rw [sz_not (by show c.kind ≠ 2; omega)]; show (c.n - n).toNat = _; omega⟩
 ·rw [sz_not (c := c) (by omega)] at hn ⊢
  have e : cut c n = ⟨c.kind, c.n - n, []⟩ := if_neg (by omega)
  rw [e]
  exact ⟨.inl ⟨.inr g, by show 1 ≤ c.n - n; omega, rfl⟩, by rw [sz_not (by show c.kind ≠ 2; omega)]; show (c.n - n).toNat = _; omega⟩
 ·rw [sz_two (c := c) g] at hn ⊢
  have e : cut c n = ⟨2, 0, E ((cps c.text).drop n)⟩ := if_pos g
  rw [e]
  refine ⟨.inr ⟨rfl, rfl, E_ne (by rw [List.length_drop]; omega), _, V.mk (yy167 gv n)⟩, ?_⟩
  rw [sz_two rfl]
  show (cps (E _)).length = _
  rw [cps_E (yy167 gv n), List.length_drop]
theorem yy267 {c : CompV} (h : Wh c) {n : Nat} (h0 : 0 < n) (hn : n ≤ sz c) : Wh (piece c n) ∧ sz (piece c n) = n := by
 rcases h.cases with ⟨g, gn, gt⟩ | ⟨g, gn, gt⟩ | ⟨g, gn, gt, gv⟩
 ·have e : piece c n = ⟨c.kind, n, []⟩ := if_neg (by omega)
  rw [e]
  exact ⟨.inl ⟨.inl g, by show (1 : Int) ≤ n; omega, rfl⟩, by rw [sz_not (by show c.kind ≠ 2; omega)]; rfl⟩
 ·have e : piece c n = ⟨c.kind, n, []⟩ := if_neg (by omega)
  rw [e]
  exact ⟨.inl ⟨.inr g, by show (1 : Int) ≤ n; omega, rfl⟩, by rw [sz_not (by show c.kind ≠ 2; omega)]; rfl⟩
 ·rw [sz_two g] at hn
  have e : piece c n = ⟨2, 0, E ((cps c.text).take n)⟩ := if_pos g
  rw [e]
  refine ⟨.inr ⟨rfl, rfl, E_ne (by rw [List.length_take]; omega), _, V.mk (yy266 gv n)⟩, ?_⟩
  rw [sz_two rfl]
  show (cps (E _)).length = _
  rw [cps_E (yy266 gv n), List.length_take]
  omega
theorem yy490 {c : CompV} (h : Wh c) : cut c 0 = c := by
 obtain ⟨a, b, t⟩ := c
 rcases h.cases with ⟨g, gn, gt⟩ | ⟨g, gn, gt⟩ | ⟨g, gn, gt, gv⟩
 ·simp only at g gt
  subst g gt
  show CompV.mk 1 (b - (0 : Nat)) [] = _
  rw [show b - ((0 : Nat) : Int) = b by omega]
 ·simp only at g gt
  subst g gt
  show CompV.mk 3 (b - (0 : Nat)) [] = _
  rw [show b - ((0 : Nat) : Int) = b by omega]
 ·simp only at g gn gv
  subst g gn
  show CompV.mk 2 0 (E ((cps t).drop 0)) = _
  rw [List.drop_zero, (cps_V gv).bytes]
theorem yy78 {c : CompV} (h : Wh c) : piece c (sz c) = c := by
 obtain ⟨a, b, t⟩ := c
 rcases h.cases with ⟨g, gn, gt⟩ | ⟨g, gn, gt⟩ | ⟨g, gn, gt, gv⟩
 ·simp only at g gt gn
  subst g gt
  show CompV.mk 1 ((b.toNat : Nat) : Int) [] = _
  rw [show (b.toNat : Int) = b by omega]
 ·simp only at g gt gn
  subst g gt
  show CompV.mk 3 ((b.toNat : Nat) : Int) [] = _
  rw [show (b.toNat : Int) = b by omega]
 ·simp only at g gn gv
  subst g gn
  show CompV.mk 2 0 (E ((cps t).take (cps t).length)) = _
  rw [List.take_length, (cps_V gv).bytes]
theorem yy727 {c : CompV} (h : Wh c) (n m : Nat) : cut (cut c n) m = cut c (n + m) := by
 rcases h.cases with ⟨g, gn, gt⟩ | ⟨g, gn, gt⟩ | ⟨g, gn, gt, gv⟩
 ·have e : ∀ n, cut c n = ⟨c.kind, c.n - n, []⟩ := fun n => if_neg (by omega)
  rw [cut, if_neg (by rw [yy82]; omega), e, e]
  show CompV.mk c.kind (c.n - n - m) [] = _
  rw [show c.n - n - m = c.n - ((n + m : Nat) : Int) by omega]
 ·have e : ∀ n, cut c n = ⟨c.kind, c.n - n, []⟩ := fun n => if_neg (by omega)
  rw [cut, if_neg (by rw [yy82]; omega), e, e]
  show CompV.mk c.kind (c.n - n - m) [] = _
  rw [show c.n - n - m = c.n - ((n + m : Nat) : Int) by omega]
 ·have e : ∀ n, cut c n = ⟨2, 0, E ((cps c.text).drop n)⟩ := fun n => if_pos g
  rw [cut, if_pos (by rw [yy82]; exact g), e, e]
  show CompV.mk 2 0 (E ((cps (E ((cps c.text).drop n))).drop m)) = _
  rw [cps_E (yy167 gv n), List.drop_drop]
theorem yy576 {c : CompV} (h : Wh c) (n k : Nat) : piece (cut c n) k = if c.kind = 2 then ⟨2, 0, E (((cps c.text).take (n + k)).drop n)⟩ else ⟨c.kind, k, []⟩ := by
 rcases h.cases with ⟨g, gn, gt⟩ | ⟨g, gn, gt⟩ | ⟨g, gn, gt, gv⟩
 ·rw [piece, if_neg (by rw [yy82]; omega), yy82, if_neg (by omega)]
 ·rw [piece, if_neg (by rw [yy82]; omega), yy82, if_neg (by omega)]
 ·rw [piece, if_pos (by rw [yy82]; exact g), if_pos g, cut, if_pos g]
  simp only
  rw [cps_E (yy167 gv n), List.drop_take, show n + k - n = k by omega]
theorem yy639 {c : CompV} (h : Wh c) (l : List CompV) {n : Nat} (h0 : 0 < n) (hn : n ≤ sz c) :
  (∀ vs, ed (c :: l) vs = ed (piece c n :: chop c l n) vs) ∧ inS (c :: l) = inN (piece c n) + inS (chop c l n) ∧ outS (c :: l) = outN (piece c n) + outS (chop c l n) ∧ ((∀ x ∈ l, Wh x) → ∀ x ∈ chop c l n, Wh x) := by
 have hp := (yy267 h h0 hn)
 by_cases he : n = sz c
 ·have e : chop c l n = l := if_pos he
  rw [e, he, yy78 h, yy28, yy60]
  exact ⟨fun _ => rfl, rfl, rfl, fun h => h⟩
 ·have hlt : n < sz c := by omega
  have hc := cut_wh h hlt
  have e : chop c l n = cut c n :: l := if_neg he
  rw [e, yy28, yy28, yy60, yy60]
  have hk := yy82 c n
  have hq := yy103 c n
  have hw : (∀ x ∈ l, Wh x) → ∀ x ∈ cut c n :: l, Wh x := fun h x hx => by
   rcases List.mem_cons.1 hx with rfl | hx
   ·exact hc.1
   ·exact h x hx
  rcases h.cases with ⟨g, gn, gt⟩ | ⟨g, gn, gt⟩ | ⟨g, gn, gt, gv⟩
  ·rw [g] at hk hq
   have e1 : (cut c n).n = c.n - n := by rw [cut, if_neg (by omega)]
   have e2 : (piece c n).n = n := by rw [piece, if_neg (by omega)]
   rw [sz_not (by omega)] at hlt
   rw [in_one g, in_one hk, in_one hq, yy212 g, yy212 hk, yy212 hq, e1, e2]
   refine ⟨fun vs => ?_, by omega, by omega, hw⟩
   rw [ed_one g, ed_one hq, ed_one hk, e1, e2, ← List.append_assoc, List.drop_drop, Int.toNat_natCast, ← List.take_add, show n + (c.n - n).toNat = c.n.toNat by omega]
  ·rw [g] at hk hq
   have e1 : (cut c n).n = c.n - n := by rw [cut, if_neg (by omega)]
   have e2 : (piece c n).n = n := by rw [piece, if_neg (by omega)]
   rw [sz_not (by omega)] at hlt
   rw [yy65 g, yy65 hk, yy65 hq, yy116 g, yy116 hk, yy116 hq, e1, e2]
   refine ⟨fun vs => ?_, by omega, by omega, hw⟩
   rw [yy166 g, yy166 hq, yy166 hk, e1, e2, List.drop_drop, Int.toNat_natCast, show n + (c.n - n).toNat = c.n.toNat by omega]
  ·rw [g] at hk hq
   have e1 : (cut c n).text = E ((cps c.text).drop n) := by rw [cut, if_pos g]
   have e2 : (piece c n).text = E ((cps c.text).take n) := by rw [piece, if_pos g]
   rw [sz_two g] at hlt
   rw [in_two g, in_two hk, in_two hq, yy145 g, yy145 hk, yy145 hq, e1, e2, cps_E (yy167 gv n), cps_E (yy266 gv n), List.length_drop, List.length_take]
   refine ⟨fun vs => ?_, by omega, by omega, hw⟩
   rw [ed_two g, ed_two hq, ed_two hk, e1, e2, cps_E (yy167 gv n), cps_E (yy266 gv n), ← List.append_assoc, List.take_append_drop]
def kd : List CompV → Int
 | [] => 0
 | c :: _ => c.kind
inductive Cmp : List CompV → List CompV → List CompV → Prop
 | nil : Cmp [] [] []
 | gone (c : CompV) (a b o : List CompV) : c.kind = 3 → Cmp a b o → Cmp (c :: a) b (c :: o)
 | puts (a : List CompV) (d : CompV) (b o : List CompV) : kd a ≠ 3 → d.kind = 2 → Cmp a b o → Cmp a (d :: b) (d :: o)
 | both (c : CompV) (a : List CompV) (d : CompV) (b o : List CompV) (n : Nat) : c.kind ≠ 3 → d.kind ≠ 2 → n = min (sz c) (sz d) → Cmp (chop c a n) (chop d b n) o →
   Cmp (c :: a) (d :: b) ((if d.kind = 1 then [piece c n] else if c.kind = 1 then [piece d n] else []) ++ o)
theorem yy396 {c : CompV} {l : List CompV} (h1 : Wh c) (h2 : ∀ x ∈ l, Wh x) : ∀ x ∈ c :: l, Wh x := fun x hx => by
 rcases List.mem_cons.1 hx with rfl | hx
 ·exact h1
 ·exact h2 x hx
theorem Cmp.one {a b o : List CompV} (h : Cmp a b o) : ∀ {o' : List CompV}, Cmp a b o' → o = o' := by
 induction h with
 | nil => intro o' h'; cases h'; rfl
 | gone c a b o hk _ ih =>
  intro o' h'
  cases h' with
  | gone _ _ _ o2 _ g => rw [ih g]
  | puts _ _ _ _ g => exact absurd hk g
  | both _ _ _ _ _ _ g => exact absurd hk g
 | puts a d b o h3 hk _ ih =>
  intro o' h'
  cases h' with
  | gone _ _ _ o2 g => exact absurd g h3
  | puts _ _ _ _ _ _ g => rw [ih g]
  | both _ _ _ _ _ _ _ g => exact absurd hk g
 | both c a d b o n h3 h2 hmin _ ih =>
  intro o' h'
  cases h' with
  | gone _ _ _ o2 g => exact absurd g h3
  | puts _ _ _ _ _ g => exact absurd g h2
  | both _ _ _ _ _ m _ _ hm g => subst hmin; subst hm; rw [ih g]
end Go.Proofs.YtjpjdkdbgjipnaaGreatDoor
namespace Go.Proofs.YtjpjdkdbgjipnaaGreatDoor
open Go.RowKit Go.Deep
def wid : Option (Nat × List Nat) → Nat
 | some (v, _) => (enc v).length
 | none => 1
theorem yy397 (p : Prop) [Decidable p] (a b : Option (Nat × List Nat)) : wid (if p then a else b) = if p then wid a else wid b := by split <;> rfl
theorem yy268 : wid none = 1 := rfl
theorem yy269 (v : Nat) (r : List Nat) : wid (some (v, r)) = if v < 128 then 1 else if v < 2048 then 2 else if v < 65536 then 3 else 4 := yy140 v
theorem yy398 (l : List Nat) : yy55 l = wid (st l) := by
 unfold yy55
 cases st l with
 | none => rfl
 | some p => rfl
theorem yy399 (p : Prop) [Decidable p] (a b : Nat × Nat) : (if p then a else b).2 = if p then a.2 else b.2 := by split <;> rfl
set_option maxHeartbeats 4000000 in
theorem yy431 (c : Nat) (d e f : Nat) : yy55 [c] = (Lib.decodeN 1 c d e f).2 := by
 rw [yy398, yy47]
 simp only [yy45, yy244, yy397, yy268, yy269, Lib.decodeN, yy399]
 unfold May
 repeat' split
 all_goals omega
set_option maxHeartbeats 4000000 in
theorem yy432 (c d : Nat) (h : c < 256) (hd : d < 256) (e f : Nat) : yy55 [c, d] = (Lib.decodeN 2 c d e f).2 := by
 rw [yy398, yy47]
 simp only [yy61, yy45, yy244, yy397, yy268, yy269, Lib.decodeN, yy399]
 unfold May
 repeat' split
 all_goals omega
set_option maxHeartbeats 4000000 in
theorem yy433 (c d e : Nat) (h : c < 256) (f : Nat) : yy55 [c, d, e] = (Lib.decodeN 3 c d e f).2 := by
 rw [yy398, yy47]
 simp only [yy61, yy45, yy244, yy397, yy268, yy269, Lib.decodeN, yy399]
 unfold May
 repeat' split
 all_goals omega
set_option maxHeartbeats 8000000 in
theorem yy434 (c d e f : Nat) (t : List Nat) (h : c < 256) (n : Nat) (hn : 4 ≤ n) : yy55 (c :: d :: e :: f :: t) = (Lib.decodeN n c d e f).2 := by
 have n1 : (1 < n) = True := eq_true (by omega)
 have n2 : (2 < n) = True := eq_true (by omega)
 have n3 : (3 < n) = True := eq_true (by omega)
 rw [yy398, yy47]
 simp only [yy61, yy45, yy397, yy268, yy269, Lib.decodeN, yy399, n1, n2, n3, true_and]
 clear n1 n2 n3
 unfold May
 by_cases h1 : c < 128
 ·simp only [h1, if_true]
  repeat' split
  all_goals omega
 by_cases h2 : c < 192
 ·simp only [h1, h2, if_true, if_false, show ¬ c / 32 = 6 by omega, show ¬ c / 16 = 14 by omega, show ¬ c / 8 = 30 by omega, false_and]
 by_cases h3 : c < 224
 ·simp only [h1, h2, h3, if_true, if_false, show c / 32 = 6 by omega, true_and]
  by_cases d1 : d / 64 = 2
  ·simp only [d1, if_true]
   repeat' split
   all_goals omega
  ·simp only [d1, if_false, show ¬ c / 16 = 14 by omega, show ¬ c / 8 = 30 by omega, false_and]
 by_cases h4 : c < 240
 ·simp only [h1, h2, h3, h4, if_true, if_false, show ¬ c / 32 = 6 by omega, show c / 16 = 14 by omega, true_and, false_and]
  by_cases d1 : d / 64 = 2 <;> by_cases d2 : e / 64 = 2 <;> simp only [d1, d2, if_true, if_false, show ¬ c / 8 = 30 by omega, false_and, and_false, and_true]
  repeat' split
  all_goals omega
 by_cases h5 : c < 248
 ·simp only [h1, h2, h3, h4, h5, if_true, if_false, show ¬ c / 32 = 6 by omega, show ¬ c / 16 = 14 by omega, show c / 8 = 30 by omega, true_and, false_and]
  by_cases d1 : d / 64 = 2 <;> by_cases d2 : e / 64 = 2 <;> by_cases d3 : f / 64 = 2 <;> simp only [d1, d2, d3, if_true, if_false, and_false, and_true]
  repeat' split
  all_goals omega
 ·simp only [h1, h2, h3, h4, h5, if_false, show ¬ c / 32 = 6 by omega, show ¬ c / 16 = 14 by omega, show ¬ c / 8 = 30 by omega, false_and]
theorem yy671 (l : List Nat) (hb : ∀ x ∈ l, x < 256) (i c : Nat) (h : l[i]? = some c) : ((bstr l).get! i).toNat = c := by
 have hi : i < l.length := (List.getElem?_eq_some_iff.1 h).1
 have hc : l[i] = c := (List.getElem?_eq_some_iff.1 h).2
 have hlt := hb _ (List.getElem_mem hi)
 have e2 : (bstr l).data.toList[i]? = some (UInt8.ofNat l[i]) := by
  rw [yy94, List.getElem?_map, List.getElem?_eq_getElem hi]
  rfl
 have e3 : (bstr l).data[i]? = some (UInt8.ofNat l[i]) := by rw [← Array.getElem?_toList]; exact e2
 show ((bstr l).data[i]!).toNat = c
 rw [Array.getElem!_eq_getD, Array.getD_eq_getD_getElem?, e3, ← hc]
 simp
 omega
theorem yy491 (l : List Nat) (hb : ∀ x ∈ l, x < 256) (p : Nat) (hp : p < l.length) : (Utf8.decode (bstr l) p).2 = yy55 (l.drop p) := by
 rw [Lib.decode_at, bstr_size]
 have hlen : (l.drop p).length = l.length - p := List.length_drop
 have hg : ∀ k c, (l.drop p)[k]? = some c → ((bstr l).get! (p + k)).toNat = c ∧ c < 256 := fun k c h => by
  rw [List.getElem?_drop] at h
  exact ⟨yy671 l hb _ _ h, hb _ (List.mem_of_getElem? h)⟩
 generalize l.drop p = r at hlen hg
 rw [← hlen]
 match r, hg, hlen with
 | [], _, hlen => simp at hlen; omega
 | [c], hg, _ =>
  have h0 := hg 0 c rfl
  rw [Nat.add_zero] at h0
  rw [h0.1]
  exact (yy431 c _ _ _).symm
 | [c, d], hg, _ =>
  have h0 := hg 0 c rfl
  have h1 := hg 1 d rfl
  rw [Nat.add_zero] at h0
  rw [h0.1, h1.1]
  exact (yy432 c d h0.2 h1.2 _ _).symm
 | [c, d, e], hg, _ =>
  have h0 := hg 0 c rfl
  have h1 := hg 1 d rfl
  have h2 := hg 2 e rfl
  rw [Nat.add_zero] at h0
  rw [h0.1, h1.1, h2.1]
  exact (yy433 c d e h0.2 _).symm
 | c :: d :: e :: f :: t, hg, _ =>
  have h0 := hg 0 c rfl
  have h1 := hg 1 d rfl
  have h2 := hg 2 e rfl
  have h3 := hg 3 f rfl
  rw [Nat.add_zero] at h0
  rw [h0.1, h1.1, h2.1, h3.1]
  exact (yy434 c d e f t h0.2 _ (by simp)).symm
set_option maxHeartbeats 1000000 in
set_option maxRecDepth 100000 in
theorem yy577 (l : List Nat) (hb : ∀ x ∈ l, x < 256) (hl : l.length ≤ 1099511627776) (w : World) :
  Calls Tryz.prog 85 #[.string (bstr l)] w fun e w' => e = .returned (.int .i64 (loose l : Int)) ∧ Below w.heap.size w w' := by
 have hsz := bstr_size l
 have HB := xh hb; clear hb
 obtain ⟨T, HT⟩ : ∃ T, Hid (loose l = T) := ⟨_, xh rfl⟩
 have HTL : Hid (T ≤ l.length) := by show _ ≤ _; rw [← HT.out]; exact yy102 l
 rw [HT.out]
 go_enter Tryz.func85, Tryz.ntmps85
 go_wp2
 go_loopw [2] (fun n wr => ∃ p q : Nat, wr = w.iter (bstr l) p ∧ p ≤ l.length ∧ n = .int .i64 q ∧ q + loose (l.drop p) = T) (fun _ wr => l.length - wr.iterPos w.heap.size)
 case atStart => exact ⟨0, 0, rfl, Nat.zero_le _, rfl, by rw [Nat.zero_add]; exact HT.out⟩
 case round =>
  obtain ⟨p, q, rfl, hp, rfl, hq⟩ := hrel
  have HQ := xh hq; clear hq
  by_cases hlt : p < l.length
  ·have hnx : ∀ ty, (Instr.next (.pointer (some ⟨w.heap.size, 0, none⟩)) true ty).run Tryz.prog (w.iter (bstr l) p) = _ := fun ty => run_next_any w (bstr l) p ty (by rw [hsz]; exact hlt)
   have HW := xh (yy491 l HB.out p hlt)
   have hne : l.drop p ≠ [] := fun e => by have := congrArg List.length e; rw [List.length_drop] at this; simp at this; omega
   have hs1 := yy90 (l.drop p)
   have hs2 := yy209 hne
   rw [List.length_drop] at hs2
   have HN := xh (yy143 hne)
   rw [List.drop_drop] at HN
   clear hne
   obtain ⟨s, HS⟩ : ∃ s, Hid (yy55 (l.drop p) = s) := ⟨_, xh rfl⟩
   rw [HS.out] at hs1 hs2 HN HW
   have HQ2 : Hid (q + 1 + loose (l.drop (p + s)) = T) := by show _ = _; have := HQ.out; rw [HN.out] at this; omega
   have hqt : q < 1099511627776 := by have := HQ2.out; have := HTL.out; omega
   have hpl : p + s ≤ l.length := by omega
   rw [HW.out] at hnx
   generalize (Utf8.decode (bstr l) p).1 = v at hnx
   go_wp2
   go_roundw
   case rel => exact ⟨p + s, q + 1, rfl, hpl, by go_num, HQ2.out⟩
   case measure => simp; omega
  ·have hnx : ∀ ty, (Instr.next (.pointer (some ⟨w.heap.size, 0, none⟩)) true ty).run Tryz.prog (w.iter (bstr l) p) = _ := fun ty => run_next_end w (bstr l) p ty (by rw [hsz]; exact hlt)
   have HE : Hid (q = T) := by
    show q = T
    have := HQ.out
    rw [List.drop_eq_nil_of_le (by omega), yy196] at this
    omega
   go_wp2
   go_ret
   exact ⟨by rw [← HE.out]; rfl, (Below.refl _ _).alloc (Nat.le_refl _) _⟩
end Go.Proofs.YtjpjdkdbgjipnaaGreatDoor
namespace Go.Proofs.YtjpjdkdbgjipnaaGreatDoor
inductive Ov (f : Bool) : List CompV → List CompV → List CompV → Prop
 | nil : Ov f [] [] []
 | puts (c : CompV) (a b o : List CompV) : c.kind = 2 → (f = true ∨ kd b ≠ 2) → Ov f a b o → Ov f (c :: a) b (c :: o)
 | pass (a : List CompV) (d : CompV) (b o : List CompV) : ¬ (kd a = 2 ∧ f = true) → d.kind = 2 → Ov f a b o → Ov f a (d :: b) (⟨1, (sz d : Int), []⟩ :: o)
 | both (c : CompV) (a : List CompV) (d : CompV) (b o : List CompV) (n : Nat) : c.kind ≠ 2 → d.kind ≠ 2 → n = min (sz c) (sz d) → Ov f (chop c a n) (chop d b n) o →
   Ov f (c :: a) (d :: b) ((if d.kind = 1 then [piece c n] else []) ++ o)
theorem yy643 {n : Nat} (h : 0 < n) : Wh ⟨1, (n : Int), []⟩ := .inl ⟨.inl rfl, by show (1 : Int) ≤ n; omega, rfl⟩
structure Chopped (c d p q : CompV) (a b a' b' : List CompV) (n : Nat) : Prop where
 pos : 0 < n
 ea : ∀ vs, ed (c :: a) vs = ed (p :: a') vs
 eb : ∀ vs, ed (d :: b) vs = ed (q :: b') vs
 ia : inS (c :: a) = n + inS a'
 ib : inS (d :: b) = n + inS b'
 oa : outS (c :: a) = outN p + outS a'
 ob : outS (d :: b) = outN q + outS b'
 wa : ∀ x ∈ a', Wh x
 wb : ∀ x ∈ b', Wh x
 wp : Wh p
 wq : Wh q
 kp : p.kind = c.kind
 kq : q.kind = d.kind
 np : p.n.toNat = n
 nq : q.n.toNat = n
theorem yy404 {c d : CompV} {a b : List CompV} {n : Nat} (hc2 : c.kind ≠ 2) (hd2 : d.kind ≠ 2) (hn : n = min (sz c) (sz d)) (ha : ∀ x ∈ c :: a, Wh x) (hb : ∀ x ∈ d :: b, Wh x) :
  Chopped c d (piece c n) (piece d n) a b (chop c a n) (chop d b n) n := by
 have wc := ha c (by simp)
 have wd := hb d (by simp)
 have hc0 := wc.sz; have hd0 := wd.sz
 obtain ⟨c1, c2, c3, c4⟩ := yy639 wc a (n := n) (by omega) (by omega)
 obtain ⟨d1, d2, d3, d4⟩ := yy639 wd b (n := n) (by omega) (by omega)
 have pc := yy267 wc (n := n) (by omega) (by omega)
 have pd := yy267 wd (n := n) (by omega) (by omega)
 have kc := yy103 c n
 have kq := yy103 d n
 have np : (piece c n).n.toNat = n := by have := pc.2; rwa [sz_not (by omega)] at this
 have nq : (piece d n).n.toNat = n := by have := pd.2; rwa [sz_not (by omega)] at this
 have ip : inN (piece c n) = n := by rw [inN, if_neg (by omega), np]
 have iq : inN (piece d n) = n := by rw [inN, if_neg (by omega), nq]
 rw [ip] at c2
 rw [iq] at d2
 exact ⟨by omega, c1, d1, c2, d2, c3, d3, c4 fun x hx => ha x (List.mem_cons_of_mem _ hx), d4 fun x hx => hb x (List.mem_cons_of_mem _ hx), pc.1, pd.1, kc, kq, np, nq⟩
theorem Wh.kind13 {c : CompV} (h : Wh c) (h2 : c.kind ≠ 2) : c.kind = 1 ∨ c.kind = 3 := by
 rcases h.cases with g | g | g <;> omega
theorem Ov.wh {f : Bool} {a b o : List CompV} (h : Ov f a b o) : (∀ x ∈ a, Wh x) → (∀ x ∈ b, Wh x) → inS a = inS b → (∀ x ∈ o, Wh x) ∧ inS o = outS b := by
 induction h with
 | nil => exact fun _ _ _ => ⟨fun x hx => (by cases hx), by rw [yy67, yy488]⟩
 | puts c a b o hk _ _ ih =>
  intro ha hb hn
  rw [yy28, in_two hk, Nat.zero_add] at hn
  have i := ih (fun x hx => ha x (List.mem_cons_of_mem _ hx)) hb hn
  exact ⟨yy396 (ha c (by simp)) i.1, by rw [yy28, in_two hk, i.2, Nat.zero_add]⟩
 | pass a d b o _ hk _ ih =>
  intro ha hb hn
  rw [yy28, in_two hk, Nat.zero_add] at hn
  have i := ih ha (fun x hx => hb x (List.mem_cons_of_mem _ hx)) hn
  exact ⟨yy396 (yy643 (hb d (by simp)).sz) i.1, by rw [yy28, in_one rfl, i.2, yy60, yy145 hk, ← sz_two hk]; rfl⟩
 | both c a d b o n h1 h2 hmin _ ih =>
  intro ha hb hn
  have k := yy404 (a := a) (b := b) h1 h2 hmin ha hb
  have hia := k.ia; have hib := k.ib
  have i := ih k.wa k.wb (by omega)
  have hob := k.ob
  by_cases hd : d.kind = 1
  ·rw [if_pos hd, List.singleton_append]
   have e1 : outN (piece d n) = n := by rw [yy212 (by rw [k.kq]; exact hd), k.nq]
   exact ⟨yy396 k.wp i.1, by rw [yy28, i.2, hob, e1, inN, if_neg (by rw [k.kp]; exact h1), k.np]⟩
  ·rw [if_neg hd, List.nil_append]
   have hd3 : d.kind = 3 := by rcases (hb d (by simp)).kind13 h2 with g | g <;> omega
   have e1 : outN (piece d n) = 0 := yy116 (by rw [k.kq]; exact hd3)
   exact ⟨i.1, by rw [i.2, hob, e1, Nat.zero_add]⟩
theorem Ov.one {f : Bool} {a b o : List CompV} (h : Ov f a b o) : ∀ {o' : List CompV}, Ov f a b o' → o = o' := by
 induction h with
 | nil => intro o' h'; cases h'; rfl
 | puts c a b o hk hf _ ih =>
  intro o' h'
  cases h' with
  | puts _ _ _ o2 _ _ g => rw [ih g]
  | pass _ _ _ _ g g2 =>
   exfalso
   rcases hf with hf | hf
   ·exact g ⟨hk, hf⟩
   ·exact hf g2
  | both _ _ _ _ _ _ g => exact absurd hk g
 | pass a d b o hf hk _ ih =>
  intro o' h'
  cases h' with
  | puts _ _ _ o2 g gf =>
   exfalso
   rcases gf with gf | gf
   ·exact hf ⟨g, gf⟩
   ·exact gf hk
  | pass _ _ _ _ _ _ g => rw [ih g]
  | both _ _ _ _ _ _ _ g => exact absurd hk g
 | both c a d b o n h1 h2 hmin _ ih =>
  intro o' h'
  cases h' with
  | puts _ _ _ o2 g => exact absurd g h1
  | pass _ _ _ _ _ g => exact absurd g h2
  | both _ _ _ _ _ m _ _ hm g => subst hmin; subst hm; rw [ih g]
noncomputable def cmpOf (a b : List CompV) : List CompV := @dite _ (∃ o, Cmp a b o) (Classical.propDecidable _) (fun h => Classical.choose h) (fun _ => [])
theorem yy682 {a b o : List CompV} (h : Cmp a b o) : cmpOf a b = o := by
 unfold cmpOf
 rw [dif_pos ⟨o, h⟩]
 exact Cmp.one (Classical.choose_spec (⟨o, h⟩ : ∃ o, Cmp a b o)) h
noncomputable def ovOf (f : Bool) (a b : List CompV) : List CompV := @dite _ (∃ o, Ov f a b o) (Classical.propDecidable _) (fun h => Classical.choose h) (fun _ => [])
theorem yy732 {f : Bool} {a b o : List CompV} (h : Ov f a b o) : ovOf f a b = o := by
 unfold ovOf
 rw [dif_pos ⟨o, h⟩]
 exact Ov.one (Classical.choose_spec (⟨o, h⟩ : ∃ o, Ov f a b o)) h
noncomputable def rTwo (a b : List CompV) : List CompV × Nat :=
 if rCheck a ≠ 0 then ([], rCheck a) else if rCheck b ≠ 0 then ([], rCheck b) else if rOut a ≠ rBase b then ([], 11) else (yy19 (cmpOf a b), 0)
noncomputable def rOver (f : Bool) (a b : List CompV) : List CompV × Nat :=
 if rCheck a ≠ 0 then ([], rCheck a) else if rCheck b ≠ 0 then ([], rCheck b) else if rBase a ≠ rBase b then ([], 11) else (yy19 (ovOf f a b), 0)
noncomputable def yy683 (s : List CompV × Nat) (x : List CompV) : List CompV × Nat := if s.2 ≠ 0 then s else rTwo s.1 x
noncomputable def rAll (s : List CompV × Nat) (l : List (List CompV)) : List CompV × Nat := l.foldl yy683 s
theorem yy585 {f : Bool} {a b : List CompV} (h : (rOver f a b).2 ≠ 0) : (rOver f a b).1 = [] := by
 unfold rOver at h ⊢
 split
 ·rfl
 ·split
  ·rfl
  ·split
   ·rfl
   ·rename_i h1 h2 h3
    rw [if_neg h1, if_neg h2, if_neg h3] at h
    exact absurd rfl h
theorem rTwo_yes {a b o : List CompV} (ha : rCheck a = 0) (hb : rCheck b = 0) (he : rOut a = rBase b) (h : Cmp a b o) : rTwo a b = (yy19 o, 0) := by
 rw [rTwo, if_neg (by omega), if_neg (by omega), if_neg (by omega), yy682 h]
theorem yy201 {f : Bool} {a b o : List CompV} (ha : rCheck a = 0) (hb : rCheck b = 0) (he : rBase a = rBase b) (h : Ov f a b o) : rOver f a b = (yy19 o, 0) := by
 rw [rOver, if_neg (by omega), if_neg (by omega), if_neg (by omega), yy732 h]
attribute [irreducible] cmpOf ovOf rTwo rOver rAll
end Go.Proofs.YtjpjdkdbgjipnaaGreatDoor
