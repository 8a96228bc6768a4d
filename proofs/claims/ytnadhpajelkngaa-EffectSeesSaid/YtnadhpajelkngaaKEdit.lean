/- What memory may hold of an edit that was checked. No condition beyond those that each lemma states. (Merged of 12 texts.) -/
import Derived.Test.YtnadhpajelkngaaKCells
import Derived.Test.YtnadhpajelkngaaKUm
/- Edits in plain mathematics: sums held at the top, how long a text an edit asks for and makes, code points told loosely. No condition. -/
namespace Go.Proofs.Ytnadhpajelkngaa

/-- A sum, held at the top. -/
def hld (a b : Int) : Int := min (min (max a 0) 1099511627776 + min (max b 0) 1099511627776) 1099511627776
theorem hld_pos (a b : Int) : 0 ≤ hld a b := by unfold hld; omega
theorem hld_top (a b : Int) : hld a b ≤ 1099511627776 := by unfold hld; omega
/-- How many bytes the first code point has; 1 of what is none. -/
def lseStep (l : List Nat) : Nat := match st l with | some (v, _) => (enc v).length | none => 1
theorem lseStep_pos (l : List Nat) : 0 < lseStep l := by
  unfold lseStep
  split
  · exact enc_pos _
  · omega
theorem lseStep_le {l : List Nat} (h : l ≠ []) : lseStep l ≤ l.length := by
  unfold lseStep
  split
  · next v r hs =>
    have := congrArg List.length (st_some hs).2
    rw [List.length_append] at this
    omega
  · have := List.length_pos_iff.2 h
    omega
/-- How many code points bytes have, told loosely: each byte that begins none is one. -/
def loose (l : List Nat) : Nat := if h : l = [] then 0 else 1 + loose (l.drop (lseStep l))
termination_by l.length
decreasing_by
  have := lseStep_pos l
  have := List.length_pos_iff.2 h
  simp only [List.length_drop]
  omega
theorem loose_nil : loose [] = 0 := by rw [loose, dif_pos rfl]
theorem loose_next {l : List Nat} (h : l ≠ []) : loose l = 1 + loose (l.drop (lseStep l)) := by rw [loose, dif_neg h]
theorem loose_le (l : List Nat) : loose l ≤ l.length := by
  by_cases h : l = []
  · rw [h, loose_nil]; simp
  · rw [loose_next h]
    have h1 := lseStep_pos l
    have h2 := lseStep_le h
    have := loose_le (l.drop (lseStep l))
    rw [List.length_drop] at this
    omega
termination_by l.length
decreasing_by
  have := lseStep_pos l
  have := List.length_pos_iff.2 h
  simp only [List.length_drop]
  omega
theorem loose_text : ∀ (vs : List Nat), (∀ v ∈ vs, May v) → loose (E vs) = vs.length
  | [], _ => by rw [E_nil, loose_nil]; rfl
  | v :: vs, h => by
    have hv := h v (by simp)
    have hne : E (v :: vs) ≠ [] := by
      intro e
      have := E_pos (v := v) (vs := vs)
      rw [e] at this
      simp at this
    have hs : lseStep (E (v :: vs)) = (enc v).length := by
      rw [lseStep, E_cons, st_enc hv]
    rw [loose_next hne, hs, E_cons, List.drop_left' rfl, loose_text vs fun x hx => h x (by simp [hx]), List.length_cons]
    omega
theorem V.loose {l vs : List Nat} (h : V l vs) : loose l = vs.length := by rw [← h.bytes]; exact loose_text vs h.may

/-- How long a text an edit asks for, and makes. -/
def baseStep (n : Int) (c : CompV) : Int := if c.kind = 1 ∨ c.kind = 3 then hld n c.n else n
def outStep (n : Int) (c : CompV) : Int := if c.kind = 1 then hld n c.n else if c.kind = 2 then hld n (loose c.text : Int) else n
def rBase (l : List CompV) : Int := l.foldl baseStep 0
def rOut (l : List CompV) : Int := l.foldl outStep 0
theorem rBase_nil : rBase [] = 0 := rfl
theorem rOut_nil : rOut [] = 0 := rfl
theorem rBase_snoc (l : List CompV) (c : CompV) : rBase (l ++ [c]) = baseStep (rBase l) c := by rw [rBase, List.foldl_append]; rfl
theorem rOut_snoc (l : List CompV) (c : CompV) : rOut (l ++ [c]) = outStep (rOut l) c := by rw [rOut, List.foldl_append]; rfl
theorem rBase_fit (l : List CompV) : 0 ≤ rBase l ∧ rBase l ≤ 1099511627776 := by
  have : ∀ (l : List CompV) (n : Int), 0 ≤ n → n ≤ 1099511627776 → 0 ≤ l.foldl baseStep n ∧ l.foldl baseStep n ≤ 1099511627776 := by
    intro l
    induction l with
    | nil => intro n h1 h2; exact ⟨h1, h2⟩
    | cons c l ih =>
      intro n h1 h2
      rw [List.foldl_cons]
      unfold baseStep
      split
      · exact ih _ (hld_pos _ _) (hld_top _ _)
      · exact ih _ h1 h2
  exact this l 0 (by omega) (by omega)
theorem rOut_fit (l : List CompV) : 0 ≤ rOut l ∧ rOut l ≤ 1099511627776 := by
  have : ∀ (l : List CompV) (n : Int), 0 ≤ n → n ≤ 1099511627776 → 0 ≤ l.foldl outStep n ∧ l.foldl outStep n ≤ 1099511627776 := by
    intro l
    induction l with
    | nil => intro n h1 h2; exact ⟨h1, h2⟩
    | cons c l ih =>
      intro n h1 h2
      rw [List.foldl_cons]
      unfold outStep
      split
      · exact ih _ (hld_pos _ _) (hld_top _ _)
      · split
        · exact ih _ (hld_pos _ _) (hld_top _ _)
        · exact ih _ h1 h2
  exact this l 0 (by omega) (by omega)

/-- A part may stand at place i of a normal edit. -/
def NormAt (l : List CompV) (i : Nat) (c : CompV) : Prop :=
  (((c.kind = 1 ∨ c.kind = 3) ∧ 1 ≤ c.n ∧ c.text = []) ∨ (c.kind = 2 ∧ c.n = 0 ∧ c.text ≠ [] ∧ (∃ vs, V c.text vs) ∧ ∀ p, 0 < i → l[i - 1]? = some p → p.kind ≠ 3)) ∧ ∀ p, 0 < i → l[i - 1]? = some p → p.kind ≠ c.kind
/-- A normal edit. -/
def Nrm (l : List CompV) : Prop := ∀ i c, l[i]? = some c → NormAt l i c
noncomputable def nrmB (l : List CompV) : Bool := @decide (Nrm l) (Classical.propDecidable _)
theorem nrmB_yes {l : List CompV} (h : Nrm l) : nrmB l = true := by unfold nrmB; exact @decide_eq_true _ (Classical.propDecidable _) h
theorem nrmB_no {l : List CompV} (h : ¬ Nrm l) : nrmB l = false := by unfold nrmB; exact @decide_eq_false _ (Classical.propDecidable _) h
noncomputable def rCheck (l : List CompV) : Nat := if 100 < l.length then 3 else if nrmB l = false then 1 else if 2000 < rBase l ∨ 2000 < rOut l then 3 else 0
/-- What memory may hold of an edit's texts. -/
def Fine1 (l : List CompV) : Prop := ∀ y ∈ l, y.Good ∧ y.text.length ≤ 1099511627776
end Go.Proofs.Ytnadhpajelkngaa

/- The normal form of an edit, as the document's own code makes it, in plain mathematics. No condition. -/
namespace Go.Proofs.Ytnadhpajelkngaa

/-- What came ahead of a part that keeps: what was made, what is to be kept, deleted, put in. -/
structure NS where
  out : List CompV
  keep : Int
  gone : Int
  text : List Nat
def keepOf (n : Int) : List CompV := if 0 < n then [⟨1, n, []⟩] else []
def textOf (t : List Nat) : List CompV := if t = [] then [] else [⟨2, 0, t⟩]
def goneOf (n : Int) : List CompV := if 0 < n then [⟨3, n, []⟩] else []
def NS.flush (s : NS) : List CompV := s.out ++ keepOf s.keep ++ textOf s.text ++ goneOf s.gone
def nStep (s : NS) (c : CompV) : NS :=
  if c.kind = 2 then { s with text := s.text ++ c.text } else if c.kind = 3 then { s with gone := hld s.gone c.n } else if c.kind ≠ 1 ∨ c.n < 1 then s
  else if s.text ≠ [] ∨ 0 < s.gone then ⟨s.flush, hld 0 c.n, 0, []⟩ else { s with keep := hld s.keep c.n }
def nStart : NS := ⟨[], 0, 0, []⟩
def nRun (l : List CompV) : NS := l.foldl nStep nStart
/-- The normal form. -/
def rNormal (l : List CompV) : List CompV := (nRun l).flush
theorem nRun_snoc (l : List CompV) (c : CompV) : nRun (l ++ [c]) = nStep (nRun l) c := by rw [nRun, List.foldl_append]; rfl
structure NS.Fit (s : NS) (n m : Nat) : Prop where
  keep0 : 0 ≤ s.keep
  keep1 : s.keep ≤ 1099511627776
  gone0 : 0 ≤ s.gone
  gone1 : s.gone ≤ 1099511627776
  out : s.out.length ≤ n
  text : s.text.length ≤ m
theorem flush_length (s : NS) : s.flush.length ≤ s.out.length + 3 := by
  unfold NS.flush keepOf textOf goneOf
  simp only [List.length_append]
  split <;> split <;> split <;> simp <;> omega
theorem nStep_fit {s : NS} {n m : Nat} (h : s.Fit n m) (c : CompV) : (nStep s c).Fit (n + 3) (m + c.text.length) := by
  have h1 := h.keep0; have h2 := h.keep1; have h3 := h.gone0; have h4 := h.gone1; have h5 := h.out; have h6 := h.text
  have hf := flush_length s
  unfold nStep
  split
  · exact ⟨h1, h2, h3, h4, by show s.out.length ≤ _; omega, by show (s.text ++ c.text).length ≤ _; rw [List.length_append]; omega⟩
  · split
    · exact ⟨h1, h2, hld_pos _ _, hld_top _ _, by show s.out.length ≤ _; omega, by show s.text.length ≤ _; omega⟩
    · split
      · exact ⟨h1, h2, h3, h4, by omega, by omega⟩
      · split
        · exact ⟨hld_pos _ _, hld_top _ _, Int.le_refl _, by show (0 : Int) ≤ _; omega, by show s.flush.length ≤ _; omega, Nat.zero_le _⟩
        · exact ⟨hld_pos _ _, hld_top _ _, h3, h4, by show s.out.length ≤ _; omega, by show s.text.length ≤ _; omega⟩
/-- How many bytes the texts of an edit have. -/
def tlen (l : List CompV) : Nat := (l.flatMap CompV.text).length
theorem run_fit (l : List CompV) : (nRun l).Fit (3 * l.length) (tlen l) := by
  have : ∀ (l : List CompV) (s : NS) (n m : Nat), s.Fit n m → (l.foldl nStep s).Fit (n + 3 * l.length) (m + tlen l) := by
    intro l
    induction l with
    | nil => intro s n m h; simpa [tlen] using h
    | cons c l ih =>
      intro s n m h
      rw [List.foldl_cons]
      have := ih (nStep s c) _ _ (nStep_fit h c)
      rw [show tlen (c :: l) = c.text.length + tlen l by simp [tlen], List.length_cons]
      rwa [show n + 3 * (l.length + 1) = n + 3 + 3 * l.length by omega, ← Nat.add_assoc]
  have h := this l nStart 0 0 ⟨Int.le_refl _, by show (0 : Int) ≤ _; omega, Int.le_refl _, by show (0 : Int) ≤ _; omega, Nat.zero_le _, Nat.zero_le _⟩
  rw [Nat.zero_add, Nat.zero_add] at h
  exact h
theorem tlen_append (a b : List CompV) : tlen (a ++ b) = tlen a + tlen b := by rw [tlen, List.flatMap_append, List.length_append]; rfl
theorem tlen_take (l : List CompV) (k : Nat) : tlen (l.take k) ≤ tlen l := by
  have e := congrArg tlen (List.take_append_drop k l)
  have := tlen_append (l.take k) (l.drop k)
  omega
theorem tlen_get {l : List CompV} {k : Nat} (h : k < l.length) : tlen (l.take k) + l[k].text.length ≤ tlen l := by
  have h1 := tlen_take l (k + 1)
  rw [List.take_succ_eq_append_getElem h] at h1
  have h2 := tlen_append (l.take k) [l[k]]
  have : tlen [l[k]] = l[k].text.length := by simp [tlen]
  omega
theorem tlen_mem {l : List CompV} {y : CompV} (h : y ∈ l) : y.text.length ≤ tlen l := by
  obtain ⟨i, hi, rfl⟩ := List.getElem_of_mem h
  have := tlen_get hi
  omega
end Go.Proofs.Ytnadhpajelkngaa

/- What an edit makes of a text, in plain mathematics. No condition. -/
namespace Go.Proofs.Ytnadhpajelkngaa

theorem check_zero {l : List CompV} (h : rCheck l = 0) : l.length ≤ 100 ∧ Nrm l ∧ rBase l ≤ 2000 ∧ rOut l ≤ 2000 := by
  unfold rCheck at h
  by_cases h1 : 100 < l.length
  · rw [if_pos h1] at h; omega
  · rw [if_neg h1] at h
    by_cases h2 : nrmB l = false
    · rw [if_pos h2] at h; omega
    · rw [if_neg h2] at h
      by_cases h3 : 2000 < rBase l ∨ 2000 < rOut l
      · rw [if_pos h3] at h; omega
      · refine ⟨by omega, Classical.byContradiction fun g => h2 (nrmB_no g), by omega, by omega⟩
/-- A part of a normal edit. -/
def Fair (c : CompV) : Prop := ((c.kind = 1 ∨ c.kind = 3) ∧ 1 ≤ c.n) ∨ c.kind = 2
theorem Nrm.fair {l : List CompV} (h : Nrm l) : ∀ c ∈ l, Fair c := fun c hc => by
  obtain ⟨i, hi, rfl⟩ := List.getElem_of_mem hc
  rcases (h i _ (List.getElem?_eq_getElem hi)).1 with g | g
  · exact .inl ⟨g.1, g.2.1⟩
  · exact .inr g.1
theorem Nrm.text {l : List CompV} (h : Nrm l) : ∀ c ∈ l, c.kind = 2 → ∃ vs, V c.text vs := fun c hc hk => by
  obtain ⟨i, hi, rfl⟩ := List.getElem_of_mem hc
  rcases (h i _ (List.getElem?_eq_getElem hi)).1 with g | g
  · have := g.1; omega
  · exact g.2.2.2.1
/-- Where an edit is in the text behind some parts. -/
def sumStep (m : Int) (c : CompV) : Int := if c.kind = 2 then m else m + c.n
def sumT (l : List CompV) : Int := l.foldl sumStep 0
theorem sum_fold : ∀ (l : List CompV) (n m : Int), 0 ≤ m → n = min m 1099511627776 → (∀ c ∈ l, Fair c) →
    l.foldl baseStep n = min (l.foldl sumStep m) 1099511627776 ∧ m ≤ l.foldl sumStep m
  | [], n, m, h0, h, _ => ⟨h, Int.le_refl _⟩
  | c :: l, n, m, h0, h, hf => by
    rw [List.foldl_cons, List.foldl_cons]
    have hc := hf c (by simp)
    have hl := fun x hx => hf x (List.mem_cons_of_mem _ hx)
    rcases hc with ⟨hk, hn⟩ | hk
    · rw [show baseStep n c = hld n c.n from if_pos hk, show sumStep m c = m + c.n from if_neg (by omega)]
      have := sum_fold l (hld n c.n) (m + c.n) (by omega) (by unfold hld; omega) hl
      exact ⟨this.1, by have := this.2; omega⟩
    · rw [show baseStep n c = n from if_neg (by omega), show sumStep m c = m from if_pos hk]
      exact sum_fold l n m h0 h hl
theorem sum_take {l : List CompV} (hf : ∀ c ∈ l, Fair c) (k : Nat) : 0 ≤ sumT (l.take k) ∧ sumT (l.take k) ≤ sumT l := by
  have h1 := (sum_fold (l.take k) 0 0 (Int.le_refl _) (by omega) fun c hc => hf c (List.mem_of_mem_take hc)).2
  have h2 := (sum_fold (l.drop k) (min (sumT (l.take k)) 1099511627776) (sumT (l.take k)) h1 rfl fun c hc => hf c (List.mem_of_mem_drop hc)).2
  have h3 : l.foldl sumStep 0 = (l.drop k).foldl sumStep ((l.take k).foldl sumStep 0) := by rw [← List.foldl_append, List.take_append_drop]
  refine ⟨h1, ?_⟩
  show _ ≤ l.foldl sumStep 0
  rw [h3]
  exact h2
theorem sum_base {l : List CompV} (hf : ∀ c ∈ l, Fair c) (hb : rBase l ≤ 2000) : sumT l = rBase l := by
  have := (sum_fold l 0 0 (Int.le_refl _) (by omega) hf).1
  show l.foldl sumStep 0 = l.foldl baseStep 0
  have hb' : l.foldl baseStep 0 ≤ 2000 := hb
  omega
theorem sum_snoc (l : List CompV) (c : CompV) : sumT (l ++ [c]) = sumStep (sumT l) c := by rw [sumT, List.foldl_append]; rfl

/-- What an edit has made behind some parts. -/
def doStep (vs : List Nat) (s : Int × List Nat) (c : CompV) : Int × List Nat :=
  if c.kind = 1 then (s.1 + c.n, s.2 ++ E ((vs.take (s.1 + c.n).toNat).drop s.1.toNat)) else if c.kind = 2 then (s.1, s.2 ++ c.text) else (s.1 + c.n, s.2)
def doRun (vs : List Nat) (l : List CompV) : Int × List Nat := l.foldl (doStep vs) (0, [])
theorem doRun_snoc (vs : List Nat) (l : List CompV) (c : CompV) : doRun vs (l ++ [c]) = doStep vs (doRun vs l) c := by rw [doRun, List.foldl_append]; rfl
theorem doRun_at (vs : List Nat) (l : List CompV) : (doRun vs l).1 = sumT l := by
  have : ∀ (l : List CompV) (s : Int × List Nat), (l.foldl (doStep vs) s).1 = l.foldl sumStep s.1 := by
    intro l
    induction l with
    | nil => intro s; rfl
    | cons c l ih =>
      intro s
      rw [List.foldl_cons, List.foldl_cons, ih]
      congr 1
      unfold doStep sumStep
      split
      · next h => rw [if_neg (by omega)]
      · split <;> rfl
  exact this l (0, [])
theorem piece_len (vs : List Nat) (a b : Nat) : (E ((vs.take b).drop a)).length ≤ (E vs).length := by
  have h1 := congrArg (fun l => (E l).length) (List.take_append_drop b vs)
  have h2 := congrArg (fun l => (E l).length) (List.take_append_drop a (vs.take b))
  simp only [E_append, List.length_append] at h1 h2
  omega
theorem doRun_len (vs : List Nat) (hv : (E vs).length ≤ 1073741824) (l : List CompV) : (doRun vs l).2.length ≤ l.length * 1073741824 + tlen l := by
  have : ∀ (l : List CompV) (s : Int × List Nat), (l.foldl (doStep vs) s).2.length ≤ s.2.length + l.length * 1073741824 + tlen l := by
    intro l
    induction l with
    | nil => intro s; simp [tlen]
    | cons c l ih =>
      intro s
      rw [List.foldl_cons]
      refine Nat.le_trans (ih _) ?_
      have ht : tlen (c :: l) = c.text.length + tlen l := by simp [tlen]
      have hs : (doStep vs s c).2.length ≤ s.2.length + 1073741824 + c.text.length := by
        unfold doStep
        split
        · have := piece_len vs s.1.toNat (s.1 + c.n).toNat
          simp only [List.length_append]
          omega
        · split
          · simp only [List.length_append]; omega
          · simp only; omega
      rw [ht, List.length_cons]
      omega
  have := this l (0, [])
  show (l.foldl (doStep vs) (0, [])).2.length ≤ _
  simpa using this
end Go.Proofs.Ytnadhpajelkngaa

/- The normal form in plain mathematics: a normal edit is its own; any edit's normal form is normal, asks for as much, and makes as much, text. Conditions: as each lemma states. -/
namespace Go.Proofs.Ytnadhpajelkngaa

/-- The kind of the last part. -/
def lastK (p : List CompV) : Int := match p.getLast? with | some c => c.kind | none => 0
theorem lastK_nil : lastK [] = 0 := rfl
theorem lastK_snoc (p : List CompV) (c : CompV) : lastK (p ++ [c]) = c.kind := by simp [lastK]
/-- A part of a normal edit, but for its text's bytes. -/
def Part0 (c : CompV) : Prop := ((c.kind = 1 ∨ c.kind = 3) ∧ 1 ≤ c.n ∧ c.text = []) ∨ (c.kind = 2 ∧ c.n = 0 ∧ c.text ≠ [])
/-- A normal edit, but for its texts' bytes. -/
inductive Nm : List CompV → Prop
  | nil : Nm []
  | snoc (p : List CompV) (c : CompV) : Nm p → Part0 c → lastK p ≠ c.kind → ¬ (lastK p = 3 ∧ c.kind = 2) → Nm (p ++ [c])
theorem lastK_take (l : List CompV) (k : Nat) (h : k < l.length) : lastK (l.take (k + 1)) = l[k].kind := by rw [List.take_succ_eq_append_getElem h, lastK_snoc]
theorem nm_of_nrm {l : List CompV} (h : Nrm l) : Nm l := by
  have : ∀ k, k ≤ l.length → Nm (l.take k) := by
    intro k
    induction k with
    | zero => intro _; exact .nil
    | succ k ih =>
      intro hk
      have hn := h k l[k] (List.getElem?_eq_getElem (by omega))
      have hlast : ∀ q : Int, q ≠ 0 → lastK (l.take k) = q → 0 < k ∧ ∃ p, l[k - 1]? = some p ∧ p.kind = q := fun q hq e => by
        cases k with
        | zero => rw [List.take_zero, lastK_nil] at e; omega
        | succ j => exact ⟨by omega, l[j], by rw [Nat.add_sub_cancel]; exact List.getElem?_eq_getElem (by omega), by rw [← e, lastK_take l j (by omega)]⟩
      have hk0 : l[k].kind ≠ 0 := by rcases hn.1 with ⟨h, _⟩ | ⟨h, _⟩ <;> omega
      rw [List.take_succ_eq_append_getElem (by omega)]
      refine .snoc _ _ (ih (by omega)) ?_ (fun e => ?_) (fun e => ?_)
      · rcases hn.1 with h | ⟨h1, h2, h3, _⟩
        · exact .inl h
        · exact .inr ⟨h1, h2, h3⟩
      · obtain ⟨h0, p, hp, hpk⟩ := hlast _ hk0 e
        exact hn.2 p h0 hp hpk
      · obtain ⟨h0, p, hp, hpk⟩ := hlast 3 (by omega) e.1
        rcases hn.1 with ⟨h, _⟩ | ⟨_, _, _, _, h5⟩
        · omega
        · exact h5 p h0 hp hpk
  have h2 := this l.length (Nat.le_refl _)
  rwa [List.take_length] at h2
theorem nrm_of_nm {l : List CompV} (h : Nm l) : (∀ y ∈ l, y.kind = 2 → ∃ vs, V y.text vs) → Nrm l := by
  induction h with
  | nil => intro _ i c h; simp at h
  | snoc p c hp hc h1 h2 ih =>
    intro hv i d hd
    have ihp := ih (fun y hy => hv y (List.mem_append_left _ hy))
    have hpre : ∀ j q, j ≤ p.length → 0 < j → (p ++ [c])[j - 1]? = some q → p[j - 1]? = some q := fun j q hj h0 hq => by
      rwa [List.getElem?_append_left (by omega)] at hq
    rcases Nat.lt_or_ge i p.length with hi | hi
    · rw [List.getElem?_append_left hi] at hd
      have hn := ihp i d hd
      refine ⟨?_, fun q h0 hq => hn.2 q h0 (hpre i q (by omega) h0 hq)⟩
      rcases hn.1 with h | ⟨g1, g2, g3, g4, g5⟩
      · exact .inl h
      · exact .inr ⟨g1, g2, g3, g4, fun q h0 hq => g5 q h0 (hpre i q (by omega) h0 hq)⟩
    · have hi2 : i = p.length := by
        have := (List.getElem?_eq_some_iff.1 hd).1
        rw [List.length_append] at this
        simp at this
        omega
      subst hi2
      have hdc : d = c := by simpa using hd.symm
      subst hdc
      have hq : ∀ q, 0 < p.length → (p ++ [d])[p.length - 1]? = some q → q.kind = lastK p := fun q h0 hq => by
        have e := hpre _ q (Nat.le_refl _) h0 hq
        rw [← List.getLast?_eq_getElem?] at e
        rw [lastK, e]
      refine ⟨?_, fun q h0 e => by rw [hq q h0 e]; exact h1⟩
      rcases hc with h | ⟨g1, g2, g3⟩
      · exact .inl h
      · exact .inr ⟨g1, g2, g3, hv d (by simp) g1, fun q h0 e g => h2 ⟨by rw [← hq q h0 e]; exact g, g1⟩⟩

/-- What is always so of what came ahead. -/
structure NInv (s : NS) : Prop where
  nm : Nm s.out
  keep : s.out ≠ [] → 0 < s.keep
  last : s.out ≠ [] → lastK s.out ≠ 1
  keep0 : 0 ≤ s.keep
  keep1 : s.keep ≤ 1099511627776
  gone0 : 0 ≤ s.gone
  gone1 : s.gone ≤ 1099511627776
  top : ∀ y ∈ s.out, y.n ≤ 1099511627776
theorem NInv.start : NInv nStart := ⟨.nil, fun h => absurd rfl h, fun h => absurd rfl h, Int.le_refl _, by show (0 : Int) ≤ _; omega, Int.le_refl _, by show (0 : Int) ≤ _; omega, fun y hy => by cases hy⟩
theorem NInv.kept {s : NS} (h : NInv s) : Nm (s.out ++ keepOf s.keep) ∧ (lastK (s.out ++ keepOf s.keep) = 0 ∨ lastK (s.out ++ keepOf s.keep) = 1) := by
  by_cases hk : 0 < s.keep
  · rw [keepOf, if_pos hk]
    refine ⟨.snoc _ _ h.nm (.inl ⟨.inl rfl, by show 1 ≤ s.keep; omega, rfl⟩) ?_ (fun e => by simp at e), .inr (lastK_snoc _ _)⟩
    by_cases ho : s.out = []
    · rw [ho, lastK_nil]; show (0 : Int) ≠ 1; omega
    · exact h.last ho
  · have ho : s.out = [] := by
      by_cases ho : s.out = []
      · exact ho
      · exact absurd (h.keep ho) hk
    rw [keepOf, if_neg hk, ho]
    exact ⟨.nil, .inl rfl⟩
theorem NInv.texted {s : NS} (h : NInv s) : Nm (s.out ++ keepOf s.keep ++ textOf s.text) ∧ lastK (s.out ++ keepOf s.keep ++ textOf s.text) ≠ 3 ∧ (s.text ≠ [] → lastK (s.out ++ keepOf s.keep ++ textOf s.text) = 2) := by
  obtain ⟨h1, h2⟩ := h.kept
  by_cases ht : s.text = []
  · rw [textOf, if_pos ht, List.append_nil]
    exact ⟨h1, by omega, fun e => absurd ht e⟩
  · rw [textOf, if_neg ht, lastK_snoc]
    exact ⟨.snoc _ _ h1 (.inr ⟨rfl, rfl, ht⟩) (by show _ ≠ (2 : Int); omega) (fun e => by omega), by show (2 : Int) ≠ 3; omega, fun _ => rfl⟩
theorem NInv.flush {s : NS} (h : NInv s) : Nm s.flush ∧ (s.text ≠ [] ∨ 0 < s.gone → s.flush ≠ [] ∧ lastK s.flush ≠ 1) := by
  obtain ⟨h1, h2, h3⟩ := h.texted
  rw [NS.flush]
  by_cases hg : 0 < s.gone
  · rw [goneOf, if_pos hg]
    exact ⟨.snoc _ _ h1 (.inl ⟨.inr rfl, by show 1 ≤ s.gone; omega, rfl⟩) h2 (fun e => by simp at e), fun _ => ⟨by simp, by rw [lastK_snoc]; show (3 : Int) ≠ 1; omega⟩⟩
  · rw [goneOf, if_neg hg, List.append_nil]
    refine ⟨h1, fun e => ?_⟩
    have ht : s.text ≠ [] := e.elim (fun h => h) (fun h => absurd h hg)
    have h4 := h3 ht
    refine ⟨fun e => ?_, by omega⟩
    rw [e, lastK_nil] at h4
    omega
theorem flush_top {s : NS} (h : NInv s) : ∀ y ∈ s.flush, y.n ≤ 1099511627776 := by
  intro y hy
  have h1 := h.keep1
  have h2 := h.gone1
  unfold NS.flush keepOf textOf goneOf at hy
  simp only [List.mem_append] at hy
  rcases hy with ((hy | hy) | hy) | hy
  · exact h.top y hy
  · split at hy
    · rw [List.mem_singleton.1 hy]; exact h1
    · cases hy
  · split at hy
    · cases hy
    · rw [List.mem_singleton.1 hy]; show (0 : Int) ≤ _; omega
  · split at hy
    · rw [List.mem_singleton.1 hy]; exact h2
    · cases hy
theorem NInv.step {s : NS} (h : NInv s) (c : CompV) : NInv (nStep s c) := by
  unfold nStep
  split
  · exact ⟨h.nm, h.keep, h.last, h.keep0, h.keep1, h.gone0, h.gone1, h.top⟩
  · split
    · exact ⟨h.nm, h.keep, h.last, h.keep0, h.keep1, hld_pos _ _, hld_top _ _, h.top⟩
    · split
      · exact h
      · rename_i hn
        have hpos : ∀ a : Int, 0 < hld a c.n := fun a => by
          have : ¬ c.n < 1 := fun e => hn (.inr e)
          unfold hld
          omega
        split
        · rename_i ht
          have hf := h.flush
          exact ⟨hf.1, fun _ => hpos 0, (hf.2 ht).2 |> fun e _ => e, hld_pos _ _, hld_top _ _, Int.le_refl _, by show (0 : Int) ≤ _; omega, flush_top h⟩
        · exact ⟨h.nm, fun _ => hpos s.keep, h.last, hld_pos _ _, hld_top _ _, h.gone0, h.gone1, h.top⟩
theorem run_inv (l : List CompV) : NInv (nRun l) := by
  have : ∀ (l : List CompV) (s : NS), NInv s → NInv (l.foldl nStep s) := by
    intro l
    induction l with
    | nil => intro s h; exact h
    | cons c l ih => intro s h; exact ih _ (h.step c)
  exact this l _ .start
theorem norm_nm (l : List CompV) : Nm (rNormal l) := (run_inv l).flush.1
theorem norm_top (l : List CompV) : ∀ y ∈ rNormal l, y.n ≤ 1099511627776 := flush_top (run_inv l)

theorem hld_zero {n : Int} (h : 0 ≤ n) (h1 : n ≤ 1099511627776) : hld 0 n = n := by unfold hld; omega
theorem flush_keep (o : List CompV) (n : Int) (h : 0 < n) : NS.flush ⟨o, n, 0, []⟩ = o ++ [⟨1, n, []⟩] := by simp [NS.flush, keepOf, textOf, goneOf, h]
/-- A normal edit is its own normal form. -/
theorem norm_self {l : List CompV} (h : Nm l) : (∀ y ∈ l, y.n ≤ 1099511627776) → rNormal l = l := by
  induction h with
  | nil => intro _; rfl
  | snoc p c hp hc h1 h2 ih =>
    intro ht
    have ihp : (nRun p).flush = p := ih (fun y hy => ht y (List.mem_append_left _ hy))
    have hi := run_inv p
    have htc := ht c (by simp)
    rw [rNormal, nRun_snoc]
    generalize nRun p = s at ihp hi
    have hg0 := hi.gone0
    have hk0 := hi.keep0
    obtain ⟨kd, n, t⟩ := c
    simp only at htc h1 h2
    rcases hc with ⟨hk, hn, htx⟩ | ⟨hk, hn, htx⟩
    · simp only at hk hn htx
      subst htx
      have h0 := hld_zero (n := n) (by omega) htc
      rcases hk with rfl | rfl
      · by_cases hf : s.text ≠ [] ∨ 0 < s.gone
        · rw [nStep, if_neg (by simp), if_neg (by simp), if_neg (by simp only; omega), if_pos hf]
          rw [h0, flush_keep _ _ (by omega), ihp]
        · have hte : s.text = [] := by
            by_cases e : s.text = []
            · exact e
            · exact absurd (.inl e) hf
          have hge : s.gone = 0 := by
            by_cases e : 0 < s.gone
            · exact absurd (.inr e) hf
            · omega
          rw [NS.flush, hte, hge, textOf, if_pos rfl, goneOf, if_neg (by omega), List.append_nil, List.append_nil] at ihp
          have hke : s.keep = 0 := by
            by_cases e : 0 < s.keep
            · rw [keepOf, if_pos e] at ihp
              rw [← ihp, lastK_snoc] at h1
              exact absurd rfl h1
            · omega
          have hoe : s.out = [] := by
            by_cases e : s.out = []
            · exact e
            · have := hi.keep e; omega
          rw [hke, hoe, keepOf, if_neg (by omega), List.append_nil] at ihp
          rw [nStep, if_neg (by simp), if_neg (by simp), if_neg (by simp only; omega), if_neg hf]
          simp only [NS.flush, hke, h0, hoe, hte, hge]
          rw [← ihp, keepOf, if_pos (by omega), textOf, if_pos rfl, goneOf, if_neg (by omega), List.append_nil, List.append_nil]
      · have hge : s.gone = 0 := by
          by_cases e : 0 < s.gone
          · rw [NS.flush, goneOf, if_pos e] at ihp
            rw [← ihp, lastK_snoc] at h1
            exact absurd rfl h1
          · omega
        rw [NS.flush, hge, goneOf, if_neg (by omega), List.append_nil] at ihp
        rw [nStep, if_neg (by simp), if_pos rfl]
        simp only [NS.flush, hge, h0]
        rw [goneOf, if_pos (by omega), ihp]
    · simp only at hk hn htx
      subst hk hn
      have hge : s.gone = 0 := by
        by_cases e : 0 < s.gone
        · rw [NS.flush, goneOf, if_pos e] at ihp
          rw [← ihp, lastK_snoc] at h2
          exact absurd ⟨rfl, rfl⟩ h2
        · omega
      rw [NS.flush, hge, goneOf, if_neg (by omega), List.append_nil] at ihp
      have hte : s.text = [] := by
        by_cases e : s.text = []
        · exact e
        · rw [textOf, if_neg e] at ihp
          rw [← ihp, lastK_snoc] at h1
          exact absurd rfl h1
      rw [hte, textOf, if_pos rfl, List.append_nil] at ihp
      rw [nStep, if_pos rfl]
      simp only [NS.flush, hge, hte, List.nil_append]
      rw [ihp, textOf, if_neg htx, goneOf, if_neg (by omega), List.append_nil]
theorem norm_norm (l : List CompV) : rNormal (rNormal l) = rNormal l := norm_self (norm_nm l) (norm_top l)

/-- What a part asks for, and makes. -/
def bOf (c : CompV) : Int := if c.kind = 1 ∨ c.kind = 3 then max c.n 0 else 0
def uOf (c : CompV) : Int := if c.kind = 1 then max c.n 0 else if c.kind = 2 then (loose c.text : Int) else 0
def nOf (c : CompV) : Int := max c.n 0
def sumB (l : List CompV) : Int := (l.map bOf).sum
def sumU (l : List CompV) : Int := (l.map uOf).sum
def sumN (l : List CompV) : Int := (l.map nOf).sum
theorem bOf_pos (c : CompV) : 0 ≤ bOf c ∧ bOf c ≤ nOf c := by unfold bOf nOf; split <;> omega
theorem uOf_pos (c : CompV) : 0 ≤ uOf c ∧ uOf c ≤ nOf c + c.text.length := by
  have := loose_le c.text
  unfold uOf nOf
  split
  · omega
  · split <;> omega
theorem sumB_append (a b : List CompV) : sumB (a ++ b) = sumB a + sumB b := by simp [sumB]
theorem sumU_append (a b : List CompV) : sumU (a ++ b) = sumU a + sumU b := by simp [sumU]
theorem sumN_append (a b : List CompV) : sumN (a ++ b) = sumN a + sumN b := by simp [sumN]
theorem sumB_one (c : CompV) : sumB [c] = bOf c := by simp [sumB]
theorem sumU_one (c : CompV) : sumU [c] = uOf c := by simp [sumU]
theorem sumN_one (c : CompV) : sumN [c] = nOf c := by simp [sumN]
theorem sumB_pos (l : List CompV) : 0 ≤ sumB l := by
  induction l with
  | nil => exact Int.le_refl _
  | cons c l ih => have := bOf_pos c; have h : sumB (c :: l) = bOf c + sumB l := by simp [sumB]
                   omega
theorem sumU_pos (l : List CompV) : 0 ≤ sumU l := by
  induction l with
  | nil => exact Int.le_refl _
  | cons c l ih => have := uOf_pos c; have h : sumU (c :: l) = uOf c + sumU l := by simp [sumU]
                   omega
theorem sumN_pos (l : List CompV) : 0 ≤ sumN l := by
  induction l with
  | nil => exact Int.le_refl _
  | cons c l ih => have h : sumN (c :: l) = nOf c + sumN l := by simp [sumN]
                   have : 0 ≤ nOf c := by unfold nOf; omega
                   omega
theorem sumB_mem {l : List CompV} {y : CompV} (h : y ∈ l) : bOf y ≤ sumB l := by
  obtain ⟨a, b, rfl⟩ := List.append_of_mem h
  have h1 := sumB_pos a
  have h2 := sumB_pos b
  have e : sumB (a ++ y :: b) = sumB a + (bOf y + sumB b) := by simp [sumB]
  omega
theorem base_min (l : List CompV) : rBase l = min (sumB l) 1099511627776 := by
  have : ∀ (l : List CompV) (n : Int), 0 ≤ n → n ≤ 1099511627776 → l.foldl baseStep n = min (n + sumB l) 1099511627776 := by
    intro l
    induction l with
    | nil => intro n h1 h2; show n = min (n + 0) _; omega
    | cons c l ih =>
      intro n h1 h2
      have e : sumB (c :: l) = bOf c + sumB l := by simp [sumB]
      have hp := sumB_pos l
      have e2 : baseStep n c = min (n + bOf c) 1099511627776 := by
        unfold baseStep bOf
        split
        · unfold hld; omega
        · omega
      have hb := bOf_pos c
      rw [List.foldl_cons, e, e2, ih _ (by omega) (by omega)]
      omega
  have h := this l 0 (by omega) (by omega)
  rwa [Int.zero_add] at h
theorem out_min (l : List CompV) : rOut l = min (sumU l) 1099511627776 := by
  have : ∀ (l : List CompV) (n : Int), 0 ≤ n → n ≤ 1099511627776 → l.foldl outStep n = min (n + sumU l) 1099511627776 := by
    intro l
    induction l with
    | nil => intro n h1 h2; show n = min (n + 0) _; omega
    | cons c l ih =>
      intro n h1 h2
      have e : sumU (c :: l) = uOf c + sumU l := by simp [sumU]
      have hp := sumU_pos l
      have e2 : outStep n c = min (n + uOf c) 1099511627776 := by
        unfold outStep uOf
        split
        · unfold hld; omega
        · split
          · unfold hld; omega
          · omega
      have hb := uOf_pos c
      rw [List.foldl_cons, e, e2, ih _ (by omega) (by omega)]
      omega
  have h := this l 0 (by omega) (by omega)
  rwa [Int.zero_add] at h
/-- Checked parts are few and small: such an edit is its own normal form. -/
theorem norm_checked {l : List CompV} (h : rCheck l = 0) : rNormal l = l := by
  unfold rCheck at h
  split at h
  · omega
  split at h
  · omega
  split at h
  · omega
  rename_i h1 h2 h3
  have hn : Nrm l := Classical.byContradiction fun e => h2 (nrmB_no e)
  refine norm_self (nm_of_nrm hn) fun y hy => ?_
  have hb := sumB_mem hy
  rw [base_min] at h3
  obtain ⟨i, hi, rfl⟩ := List.getElem_of_mem hy
  rcases (hn i _ (List.getElem?_eq_getElem hi)).1 with ⟨hk, _⟩ | ⟨_, hz, _⟩
  · rw [bOf, if_pos hk] at hb
    omega
  · omega

theorem V.append {a b va vb : List Nat} (h1 : V a va) (h2 : V b vb) : V (a ++ b) (va ++ vb) := by
  refine ⟨fun v hv => ?_, by rw [E_append, h1.bytes, h2.bytes]⟩
  rcases List.mem_append.1 hv with hv | hv
  · exact h1.may v hv
  · exact h2.may v hv
theorem loose_append {a b : List Nat} (h1 : ∃ v, V a v) (h2 : ∃ v, V b v) : loose (a ++ b) = loose a + loose b := by
  obtain ⟨va, h1⟩ := h1
  obtain ⟨vb, h2⟩ := h2
  rw [(h1.append h2).loose, h1.loose, h2.loose, List.length_append]
/-- All texts are Valid. -/
def AllV (l : List CompV) : Prop := ∀ y ∈ l, ∃ vs, V y.text vs
/-- What came ahead asks for, and makes, what it did. -/
structure NSum (s : NS) (b u : Int) : Prop where
  base : sumB s.out + s.keep + s.gone = b
  out : sumU s.out + s.keep + (loose s.text : Int) = u
theorem sum_flush {s : NS} {b : Int} (hi : NInv s) (h : sumB s.out + s.keep + s.gone = b) : sumB s.flush = b := by
  have h1 := hi.keep0
  have h2 := hi.gone0
  rw [NS.flush, sumB_append, sumB_append, sumB_append]
  have e1 : sumB (keepOf s.keep) = s.keep := by
    unfold keepOf; split
    · rw [sumB_one, bOf, if_pos (.inl rfl)]; show max s.keep 0 = _; omega
    · show 0 = s.keep; omega
  have e2 : sumB (textOf s.text) = 0 := by
    unfold textOf; split
    · rfl
    · rw [sumB_one, bOf, if_neg (by simp)]
  have e3 : sumB (goneOf s.gone) = s.gone := by
    unfold goneOf; split
    · rw [sumB_one, bOf, if_pos (.inr rfl)]; show max s.gone 0 = _; omega
    · show 0 = s.gone; omega
  omega
theorem sumU_flush {s : NS} {u : Int} (hi : NInv s) (h : sumU s.out + s.keep + (loose s.text : Int) = u) : sumU s.flush = u := by
  have h1 := hi.keep0
  rw [NS.flush, sumU_append, sumU_append, sumU_append]
  have e1 : sumU (keepOf s.keep) = s.keep := by
    unfold keepOf; split
    · rw [sumU_one, uOf, if_pos rfl]; show max s.keep 0 = _; omega
    · show 0 = s.keep; omega
  have e2 : sumU (textOf s.text) = (loose s.text : Int) := by
    unfold textOf; split
    · rename_i e; rw [e, loose_nil]; rfl
    · rw [sumU_one, uOf, if_neg (by simp), if_pos rfl]
  have e3 : sumU (goneOf s.gone) = 0 := by
    unfold goneOf; split
    · rw [sumU_one, uOf, if_neg (by simp), if_neg (by simp)]
    · rfl
  omega
theorem sum_step {s : NS} {b : Int} (hi : NInv s) (c : CompV) (h : sumB s.out + s.keep + s.gone = b) (hb : b + nOf c ≤ 1099511627776) :
    sumB (nStep s c).out + (nStep s c).keep + (nStep s c).gone = b + bOf c := by
  have h1 := hi.keep0; have h2 := hi.gone0; have h3 := sumB_pos s.out
  unfold nOf at hb
  unfold nStep
  split
  · rename_i e
    rw [bOf, if_neg (by omega)]; show sumB s.out + s.keep + s.gone = _; omega
  · split
    · rename_i e
      rw [bOf, if_pos (.inr e)]
      show sumB s.out + s.keep + hld s.gone c.n = _
      unfold hld
      omega
    · split
      · rename_i e1 e2 e3
        show sumB s.out + s.keep + s.gone = _
        by_cases hk : c.kind = 1
        · rw [bOf, if_pos (.inl hk)]; omega
        · rw [bOf, if_neg (by omega)]; omega
      · rename_i e1 e2 e3
        have hk : c.kind = 1 := Classical.byContradiction fun e => e3 (.inl e)
        rw [bOf, if_pos (show c.kind = 1 ∨ c.kind = 3 from .inl hk)]
        split
        · show sumB s.flush + hld 0 c.n + 0 = _
          rw [sum_flush hi h]
          unfold hld
          omega
        · show sumB s.out + hld s.keep c.n + s.gone = _
          unfold hld
          omega
theorem sumU_step {s : NS} {u : Int} (hi : NInv s) (c : CompV) (h : sumU s.out + s.keep + (loose s.text : Int) = u) (hu : u + nOf c ≤ 1099511627776) (hs : ∃ v, V s.text v) (hc : ∃ v, V c.text v) :
    sumU (nStep s c).out + (nStep s c).keep + (loose (nStep s c).text : Int) = u + uOf c := by
  have h1 := hi.keep0; have h2 := hi.gone0; have h3 := sumU_pos s.out
  unfold nOf at hu
  unfold nStep
  split
  · rename_i e
    rw [uOf, if_neg (by omega), if_pos e]
    show sumU s.out + s.keep + (loose (s.text ++ c.text) : Int) = _
    rw [loose_append hs hc]
    omega
  · split
    · rename_i e
      rw [uOf, if_neg (by omega), if_neg (by omega)]
      show sumU s.out + s.keep + (loose s.text : Int) = _
      omega
    · split
      · rename_i e1 e2 e3
        show sumU s.out + s.keep + (loose s.text : Int) = _
        by_cases hk : c.kind = 1
        · rw [uOf, if_pos hk]; omega
        · rw [uOf, if_neg hk, if_neg e1]; omega
      · rename_i e1 e2 e3
        have hk : c.kind = 1 := Classical.byContradiction fun e => e3 (.inl e)
        rw [uOf, if_pos hk]
        split
        · show sumU s.flush + hld 0 c.n + (loose [] : Int) = _
          have := sumU_flush hi h
          rw [this, loose_nil]
          unfold hld
          omega
        · show sumU s.out + hld s.keep c.n + (loose s.text : Int) = _
          unfold hld
          omega
theorem allV_flush {s : NS} (h1 : AllV s.out) (h2 : ∃ v, V s.text v) : AllV s.flush := by
  intro y hy
  unfold NS.flush keepOf textOf goneOf at hy
  simp only [List.mem_append] at hy
  rcases hy with ((hy | hy) | hy) | hy
  · exact h1 y hy
  · split at hy
    · rw [List.mem_singleton.1 hy]; exact ⟨[], V.nil⟩
    · cases hy
  · split at hy
    · cases hy
    · rw [List.mem_singleton.1 hy]; exact h2
  · split at hy
    · rw [List.mem_singleton.1 hy]; exact ⟨[], V.nil⟩
    · cases hy
theorem allV_step {s : NS} {c : CompV} (h1 : AllV s.out) (h2 : ∃ v, V s.text v) (hc : ∃ v, V c.text v) : AllV (nStep s c).out ∧ ∃ v, V (nStep s c).text v := by
  unfold nStep
  split
  · obtain ⟨va, ha⟩ := h2
    obtain ⟨vb, hb⟩ := hc
    exact ⟨h1, _, ha.append hb⟩
  · split
    · exact ⟨h1, h2⟩
    · split
      · exact ⟨h1, h2⟩
      · split
        · exact ⟨allV_flush h1 h2, [], V.nil⟩
        · exact ⟨h1, h2⟩
theorem run_base (l : List CompV) (h : sumN l ≤ 1099511627776) : sumB (nRun l).out + (nRun l).keep + (nRun l).gone = sumB l := by
  have : ∀ (l : List CompV) (s : NS) (b : Int), NInv s → sumB s.out + s.keep + s.gone = b → b + sumN l ≤ 1099511627776 → sumB (l.foldl nStep s).out + (l.foldl nStep s).keep + (l.foldl nStep s).gone = b + sumB l := by
    intro l
    induction l with
    | nil => intro s b _ h _; rw [List.foldl_nil, h]; show b = b + 0; omega
    | cons c l ih =>
      intro s b hi h hb
      have e1 : sumN (c :: l) = nOf c + sumN l := by simp [sumN]
      have e2 : sumB (c :: l) = bOf c + sumB l := by simp [sumB]
      have hp := sumN_pos l
      have hbo := bOf_pos c
      rw [List.foldl_cons, ih _ (b + bOf c) (hi.step c) (sum_step hi c h (by omega)) (by omega), e2]
      omega
  have h2 := this l nStart 0 .start rfl (by omega)
  rwa [Int.zero_add] at h2
theorem run_out (l : List CompV) (hv : AllV l) (h : sumN l + tlen l ≤ 1099511627776) : sumU (nRun l).out + (nRun l).keep + (loose (nRun l).text : Int) = sumU l := by
  have : ∀ (l : List CompV) (s : NS) (u : Int), NInv s → AllV l → AllV s.out → (∃ v, V s.text v) → sumU s.out + s.keep + (loose s.text : Int) = u → u + sumN l + tlen l ≤ 1099511627776 → sumU (l.foldl nStep s).out + (l.foldl nStep s).keep + (loose (l.foldl nStep s).text : Int) = u + sumU l := by
    intro l
    induction l with
    | nil => intro s u _ _ _ _ h _; rw [List.foldl_nil, h]; show u = u + 0; omega
    | cons c l ih =>
      intro s u hi hv hso hst h hu
      have e1 : sumN (c :: l) = nOf c + sumN l := by simp [sumN]
      have e2 : sumU (c :: l) = uOf c + sumU l := by simp [sumU]
      have e3 : tlen (c :: l) = c.text.length + tlen l := by simp [tlen]
      have hp := sumN_pos l
      have huo := uOf_pos c
      have hcv := hv c (by simp)
      have hst2 := allV_step hso hst hcv
      rw [List.foldl_cons, ih _ (u + uOf c) (hi.step c) (fun y hy => hv y (by simp [hy])) hst2.1 hst2.2 (sumU_step hi c h (by omega) hst hcv) (by omega), e2]
      omega
  have h2 := this l nStart 0 .start hv (fun y hy => by cases hy) ⟨[], V.nil⟩ (by show (0 : Int) + 0 + (loose [] : Int) = 0; rw [loose_nil]; rfl) (by omega)
  rwa [Int.zero_add] at h2
theorem run_allV (l : List CompV) (hv : AllV l) : AllV (rNormal l) := by
  have : ∀ (l : List CompV) (s : NS), AllV l → AllV s.out → (∃ v, V s.text v) → AllV (l.foldl nStep s).out ∧ ∃ v, V (l.foldl nStep s).text v := by
    intro l
    induction l with
    | nil => intro s _ h1 h2; exact ⟨h1, h2⟩
    | cons c l ih =>
      intro s hv h1 h2
      have hst := allV_step h1 h2 (hv c (by simp))
      exact ih _ (fun y hy => hv y (by simp [hy])) hst.1 hst.2
  have h := this l nStart hv (fun y hy => by cases hy) ⟨[], V.nil⟩
  exact allV_flush h.1 h.2
theorem norm_base (l : List CompV) (h : sumN l ≤ 1099511627776) : rBase (rNormal l) = rBase l := by
  rw [base_min, base_min, rNormal, sum_flush (run_inv l) (run_base l h)]
theorem norm_out (l : List CompV) (hv : AllV l) (h : sumN l + tlen l ≤ 1099511627776) : rOut (rNormal l) = rOut l := by
  rw [out_min, out_min, rNormal, sumU_flush (run_inv l) (run_out l hv h)]
theorem norm_check (l : List CompV) (hv : AllV l) (h1 : (rNormal l).length ≤ 100) (h2 : rBase (rNormal l) ≤ 2000) (h3 : rOut (rNormal l) ≤ 2000) : rCheck (rNormal l) = 0 := by
  have hn : Nrm (rNormal l) := nrm_of_nm (norm_nm l) (fun y hy _ => run_allV l hv y hy)
  rw [rCheck, if_neg (by omega), nrmB_yes hn, if_neg (by simp), if_neg (by omega)]

/-- How much text there is in all, and which bytes. -/
theorem tlen_flush (s : NS) : tlen s.flush = tlen s.out + s.text.length := by
  rw [NS.flush, tlen_append, tlen_append, tlen_append]
  have e1 : tlen (keepOf s.keep) = 0 := by unfold keepOf; split <;> rfl
  have e2 : tlen (textOf s.text) = s.text.length := by
    unfold textOf; split
    · rename_i e; rw [e]; rfl
    · simp [tlen]
  have e3 : tlen (goneOf s.gone) = 0 := by unfold goneOf; split <;> rfl
  omega
theorem tlen_step (s : NS) (c : CompV) : tlen (nStep s c).out + (nStep s c).text.length ≤ tlen s.out + s.text.length + c.text.length := by
  unfold nStep
  split
  · show tlen s.out + (s.text ++ c.text).length ≤ _
    rw [List.length_append]; omega
  · split
    · show tlen s.out + s.text.length ≤ _; omega
    · split
      · omega
      · split
        · show tlen s.flush + 0 ≤ _
          rw [tlen_flush]; omega
        · show tlen s.out + s.text.length ≤ _; omega
theorem tlen_norm (l : List CompV) : tlen (rNormal l) ≤ tlen l := by
  have : ∀ (l : List CompV) (s : NS), tlen (l.foldl nStep s).out + (l.foldl nStep s).text.length ≤ tlen s.out + s.text.length + tlen l := by
    intro l
    induction l with
    | nil => intro s; exact Nat.le_add_right _ _
    | cons c l ih =>
      intro s
      have e : tlen (c :: l) = c.text.length + tlen l := by simp [tlen]
      have h1 := ih (nStep s c)
      have h2 := tlen_step s c
      rw [List.foldl_cons, e]
      omega
  have h := this l nStart
  rw [rNormal, tlen_flush]
  have e : tlen nStart.out + nStart.text.length = 0 := rfl
  have e2 : nRun l = l.foldl nStep nStart := rfl
  rw [e2]
  omega
theorem norm_len (l : List CompV) : (rNormal l).length ≤ 3 * l.length + 3 := Nat.le_trans (flush_length _) (by have := (run_fit l).out; omega)
/-- A part as memory may hold it. -/
def Gd (c : CompV) : Prop := Fit64 c.kind ∧ Fit64 c.n ∧ ∀ x ∈ c.text, x < 256
theorem gd_flush {s : NS} (hi : NInv s) (h1 : ∀ y ∈ s.out, Gd y) (h2 : ∀ x ∈ s.text, x < 256) : ∀ y ∈ s.flush, Gd y := by
  intro y hy
  have k0 := hi.keep0; have k1 := hi.keep1; have g0 := hi.gone0; have g1 := hi.gone1
  unfold NS.flush keepOf textOf goneOf at hy
  simp only [List.mem_append] at hy
  rcases hy with ((hy | hy) | hy) | hy
  · exact h1 y hy
  · split at hy
    · rw [List.mem_singleton.1 hy]; exact ⟨by unfold Fit64; simp, by unfold Fit64; show _ ≤ s.keep ∧ s.keep ≤ _; omega, fun x hx => by cases hx⟩
    · cases hy
  · split at hy
    · cases hy
    · rw [List.mem_singleton.1 hy]; exact ⟨by unfold Fit64; simp, by unfold Fit64; simp, h2⟩
  · split at hy
    · rw [List.mem_singleton.1 hy]; exact ⟨by unfold Fit64; simp, by unfold Fit64; show _ ≤ s.gone ∧ s.gone ≤ _; omega, fun x hx => by cases hx⟩
    · cases hy
theorem norm_good (l : List CompV) (hg : ∀ y ∈ l, y.Good) (ht : tlen l ≤ 1099511627776) : ∀ y ∈ rNormal l, y.Good := by
  have : ∀ (l : List CompV) (s : NS), (∀ y ∈ l, y.Good) → NInv s → (∀ y ∈ s.out, Gd y) → (∀ x ∈ s.text, x < 256) → (∀ y ∈ (l.foldl nStep s).out, Gd y) ∧ ∀ x ∈ (l.foldl nStep s).text, x < 256 := by
    intro l
    induction l with
    | nil => intro s _ _ h1 h2; exact ⟨h1, h2⟩
    | cons c l ih =>
      intro s hg hi h1 h2
      have hc := hg c (by simp)
      have hs : (∀ y ∈ (nStep s c).out, Gd y) ∧ ∀ x ∈ (nStep s c).text, x < 256 := by
        unfold nStep
        split
        · refine ⟨h1, fun x hx => ?_⟩
          rcases List.mem_append.1 hx with hx | hx
          · exact h2 x hx
          · exact hc.2.2.1 x hx
        · split
          · exact ⟨h1, h2⟩
          · split
            · exact ⟨h1, h2⟩
            · split
              · exact ⟨gd_flush hi h1 h2, fun x hx => by cases hx⟩
              · exact ⟨h1, h2⟩
      exact ih _ (fun y hy => hg y (by simp [hy])) (hi.step c) hs.1 hs.2
  have h := this l nStart hg .start (fun y hy => by cases hy) (fun x hx => by cases hx)
  have h2 := gd_flush (run_inv l) h.1 h.2
  intro y hy
  have h3 := h2 y hy
  have h4 : y.text.length ≤ tlen (rNormal l) := by
    obtain ⟨i, hi, rfl⟩ := List.getElem_of_mem hy
    have := tlen_get hi
    omega
  have h5 := tlen_norm l
  exact ⟨h3.1, h3.2.1, h3.2.2, by unfold maxLen; omega⟩
end Go.Proofs.Ytnadhpajelkngaa

/- What an edit makes of code points, told part by part, in plain mathematics. No condition. -/
namespace Go.Proofs.Ytnadhpajelkngaa

/-- The code points of a text. -/
noncomputable def cps (t : List Nat) : List Nat := @dite _ (∃ vs, V t vs) (Classical.propDecidable _) (fun h => Classical.choose h) (fun _ => [])
theorem cps_of {t vs : List Nat} (h : V t vs) : cps t = vs := by
  unfold cps
  rw [dif_pos ⟨vs, h⟩]
  exact V.uniq (Classical.choose_spec (⟨vs, h⟩ : ∃ vs, V t vs)) h
theorem cps_nil : cps [] = [] := cps_of V.nil
theorem cps_E {vs : List Nat} (h : ∀ v ∈ vs, May v) : cps (E vs) = vs := cps_of (V.mk h)
theorem cps_V {t : List Nat} (h : ∃ vs, V t vs) : V t (cps t) := by
  obtain ⟨vs, h⟩ := h
  rw [cps_of h]
  exact h
theorem cps_loose {t : List Nat} (h : ∃ vs, V t vs) : loose t = (cps t).length := (cps_V h).loose
/-- A part of a normal edit. -/
def Wh (c : CompV) : Prop := ((c.kind = 1 ∨ c.kind = 3) ∧ 1 ≤ c.n ∧ c.text = []) ∨ (c.kind = 2 ∧ c.n = 0 ∧ c.text ≠ [] ∧ ∃ vs, V c.text vs)
theorem Wh.cases {c : CompV} (h : Wh c) : (c.kind = 1 ∧ 1 ≤ c.n ∧ c.text = []) ∨ (c.kind = 3 ∧ 1 ≤ c.n ∧ c.text = []) ∨ (c.kind = 2 ∧ c.n = 0 ∧ c.text ≠ [] ∧ ∃ vs, V c.text vs) := by
  rcases h with ⟨h | h, g⟩ | h
  · exact .inl ⟨h, g⟩
  · exact .inr (.inl ⟨h, g⟩)
  · exact .inr (.inr h)
theorem Wh.fair {c : CompV} (h : Wh c) : Fair c := by
  rcases h with h | h
  · exact .inl ⟨h.1, h.2.1⟩
  · exact .inr h.1
theorem cps_ne {t : List Nat} (h : ∃ vs, V t vs) (h0 : t ≠ []) : 0 < (cps t).length := by
  have hv := cps_V h
  cases hc : cps t with
  | nil => exact absurd (by rw [← hv.bytes, hc]; exact E_nil) h0
  | cons v vs => simp
/-- What an edit makes of code points. -/
noncomputable def ed : List CompV → List Nat → List Nat
  | [], _ => []
  | c :: l, vs => if c.kind = 1 then vs.take c.n.toNat ++ ed l (vs.drop c.n.toNat) else if c.kind = 2 then cps c.text ++ ed l vs else ed l (vs.drop c.n.toNat)
theorem ed_nil (vs : List Nat) : ed [] vs = [] := rfl
theorem ed_one {c : CompV} (h : c.kind = 1) (l : List CompV) (vs : List Nat) : ed (c :: l) vs = vs.take c.n.toNat ++ ed l (vs.drop c.n.toNat) := by rw [ed, if_pos h]
theorem ed_two {c : CompV} (h : c.kind = 2) (l : List CompV) (vs : List Nat) : ed (c :: l) vs = cps c.text ++ ed l vs := by rw [ed, if_neg (by omega), if_pos h]
theorem ed_three {c : CompV} (h : c.kind = 3) (l : List CompV) (vs : List Nat) : ed (c :: l) vs = ed l (vs.drop c.n.toNat) := by rw [ed, if_neg (by omega), if_neg (by omega)]
/-- How many code points it asks for, and makes. -/
def inN (c : CompV) : Nat := if c.kind = 2 then 0 else c.n.toNat
noncomputable def outN (c : CompV) : Nat := if c.kind = 1 then c.n.toNat else if c.kind = 2 then (cps c.text).length else 0
def inS : List CompV → Nat
  | [] => 0
  | c :: l => inN c + inS l
noncomputable def outS : List CompV → Nat
  | [] => 0
  | c :: l => outN c + outS l
theorem inS_nil : inS [] = 0 := rfl
theorem outS_nil : outS [] = 0 := rfl
theorem inS_cons (c : CompV) (l : List CompV) : inS (c :: l) = inN c + inS l := rfl
theorem outS_cons (c : CompV) (l : List CompV) : outS (c :: l) = outN c + outS l := rfl
theorem in_one {c : CompV} (h : c.kind = 1) : inN c = c.n.toNat := if_neg (by omega)
theorem in_two {c : CompV} (h : c.kind = 2) : inN c = 0 := if_pos h
theorem in_three {c : CompV} (h : c.kind = 3) : inN c = c.n.toNat := if_neg (by omega)
theorem out_one {c : CompV} (h : c.kind = 1) : outN c = c.n.toNat := if_pos h
theorem out_two {c : CompV} (h : c.kind = 2) : outN c = (cps c.text).length := by rw [outN, if_neg (by omega), if_pos h]
theorem out_three {c : CompV} (h : c.kind = 3) : outN c = 0 := by rw [outN, if_neg (by omega), if_neg (by omega)]
theorem inS_append : ∀ (a b : List CompV), inS (a ++ b) = inS a + inS b
  | [], b => by simp [inS]
  | c :: a, b => by rw [List.cons_append, inS, inS, inS_append a b]; omega
theorem outS_append : ∀ (a b : List CompV), outS (a ++ b) = outS a + outS b
  | [], b => by simp [outS]
  | c :: a, b => by rw [List.cons_append, outS, outS, outS_append a b]; omega
theorem ed_length : ∀ (l : List CompV) (vs : List Nat), (∀ c ∈ l, Wh c) → inS l ≤ vs.length → (ed l vs).length = outS l
  | [], vs, _, _ => rfl
  | c :: l, vs, hw, h => by
    have ih := fun vs h => ed_length l vs (fun x hx => hw x (List.mem_cons_of_mem _ hx)) h
    rw [inS] at h
    rw [outS]
    rcases (hw c (by simp)).cases with ⟨hk, _⟩ | ⟨hk, _⟩ | ⟨hk, _⟩
    · rw [in_one hk] at h
      rw [ed_one hk, out_one hk, List.length_append, List.length_take, ih _ (by rw [List.length_drop]; omega)]
      omega
    · rw [in_three hk] at h
      rw [ed_three hk, out_three hk, ih _ (by rw [List.length_drop]; omega)]
      omega
    · rw [in_two hk] at h
      rw [ed_two hk, out_two hk, List.length_append, ih _ (by omega)]
theorem ed_may : ∀ (l : List CompV) (vs : List Nat), (∀ c ∈ l, Wh c) → (∀ v ∈ vs, May v) → ∀ v ∈ ed l vs, May v
  | [], vs, _, _ => fun v hv => by cases hv
  | c :: l, vs, hw, h => fun v hv => by
    have ih := fun vs h => ed_may l vs (fun x hx => hw x (List.mem_cons_of_mem _ hx)) h v
    rcases (hw c (by simp)).cases with ⟨hk, _⟩ | ⟨hk, _⟩ | ⟨hk, _, _, ht⟩
    · rw [ed_one hk] at hv
      rcases List.mem_append.1 hv with hv | hv
      · exact h v (List.mem_of_mem_take hv)
      · exact ih _ (fun x hx => h x (List.mem_of_mem_drop hx)) hv
    · rw [ed_three hk] at hv
      exact ih _ (fun x hx => h x (List.mem_of_mem_drop hx)) hv
    · rw [ed_two hk] at hv
      rcases List.mem_append.1 hv with hv | hv
      · exact (cps_V ht).may v hv
      · exact ih _ h hv

theorem sumT_in : ∀ (l : List CompV) (m : Int), (∀ c ∈ l, Wh c) → l.foldl sumStep m = m + (inS l : Int)
  | [], m, _ => by simp [inS]
  | c :: l, m, hw => by
    rw [List.foldl_cons, sumT_in l _ fun x hx => hw x (List.mem_cons_of_mem _ hx), inS]
    rcases (hw c (by simp)).cases with ⟨hk, hn, _⟩ | ⟨hk, hn, _⟩ | ⟨hk, _⟩
    · rw [in_one hk, sumStep, if_neg (by omega)]; omega
    · rw [in_three hk, sumStep, if_neg (by omega)]; omega
    · rw [in_two hk, sumStep, if_pos hk]; omega
theorem sumB_in : ∀ (l : List CompV), (∀ c ∈ l, Wh c) → sumB l = (inS l : Int) ∧ sumU l = (outS l : Int)
  | [], _ => ⟨rfl, rfl⟩
  | c :: l, hw => by
    have ih := sumB_in l fun x hx => hw x (List.mem_cons_of_mem _ hx)
    have h1 : sumB (c :: l) = bOf c + sumB l := by simp [sumB]
    have h2 : sumU (c :: l) = uOf c + sumU l := by simp [sumU]
    rw [h1, h2, ih.1, ih.2, inS, outS, bOf, uOf]
    rcases (hw c (by simp)).cases with ⟨hk, hn, _⟩ | ⟨hk, hn, _⟩ | ⟨hk, _, _, ht⟩
    · rw [in_one hk, out_one hk, if_pos (.inl hk), if_pos hk]; omega
    · rw [in_three hk, out_three hk, if_pos (.inr hk), if_neg (by omega), if_neg (by omega)]; omega
    · rw [in_two hk, out_two hk, if_neg (by omega), if_neg (by omega), if_pos hk, cps_loose ht]; omega
theorem Nrm.wh {l : List CompV} (h : Nrm l) : ∀ c ∈ l, Wh c := fun c hc => by
  obtain ⟨i, hi, rfl⟩ := List.getElem_of_mem hc
  rcases (h i _ (List.getElem?_eq_getElem hi)).1 with g | g
  · exact .inl g
  · exact .inr ⟨g.1, g.2.1, g.2.2.1, g.2.2.2.1⟩
theorem wh_base {l : List CompV} (h : ∀ c ∈ l, Wh c) (hb : inS l ≤ 1099511627776) : rBase l = (inS l : Int) := by
  rw [base_min, (sumB_in l h).1]; omega
theorem wh_out {l : List CompV} (h : ∀ c ∈ l, Wh c) (hb : outS l ≤ 1099511627776) : rOut l = (outS l : Int) := by
  rw [out_min, (sumB_in l h).2]; omega
/-- What is so of an edit that is checked. -/
structure Ok (l : List CompV) : Prop where
  len : l.length ≤ 100
  nrm : Nrm l
  wh : ∀ c ∈ l, Wh c
  base : rBase l = (inS l : Int)
  out : rOut l = (outS l : Int)
  base1 : inS l ≤ 2000
  out1 : outS l ≤ 2000
theorem ok_of {l : List CompV} (h : rCheck l = 0) : Ok l := by
  obtain ⟨h1, h2, h3, h4⟩ := check_zero h
  have hs := sumB_in l h2.wh
  have e1 := base_min l
  have e2 := out_min l
  rw [hs.1] at e1
  rw [hs.2] at e2
  exact ⟨h1, h2, h2.wh, by omega, by omega, by omega, by omega⟩
theorem Ok.check {l : List CompV} (h : Ok l) : rCheck l = 0 := by
  have h1 := h.base; have h2 := h.out; have h3 := h.base1; have h4 := h.out1
  unfold rCheck
  rw [if_neg (by have := h.len; omega), if_neg (by rw [nrmB_yes h.nrm]; simp), if_neg (by omega)]
theorem ok_mk {l : List CompV} (h1 : l.length ≤ 100) (h2 : Nrm l) (h3 : inS l ≤ 2000) (h4 : outS l ≤ 2000) : Ok l :=
  ⟨h1, h2, h2.wh, wh_base h2.wh (by omega), wh_out h2.wh (by omega), h3, h4⟩

theorem doStep_ed : ∀ (vs : List Nat) (l : List CompV) (m : Nat) (o : List Nat), (∀ c ∈ l, Wh c) →
    (l.foldl (doStep vs) ((m : Int), o)).2 = o ++ E (ed l (vs.drop m))
  | vs, [], m, o, _ => by simp [ed_nil, E_nil]
  | vs, c :: l, m, o, hw => by
    have ih := fun m o => doStep_ed vs l m o fun x hx => hw x (List.mem_cons_of_mem _ hx)
    rw [List.foldl_cons]
    rcases (hw c (by simp)).cases with ⟨hk, hn, _⟩ | ⟨hk, hn, _⟩ | ⟨hk, _, _, ht⟩
    · rw [doStep, if_pos hk, ed_one hk, show ((m : Int) + c.n) = ((m + c.n.toNat : Nat) : Int) by omega, ih]
      simp only [Int.toNat_natCast]
      rw [E_append, List.append_assoc, List.drop_drop, List.drop_take, show m + c.n.toNat - m = c.n.toNat by omega]
    · rw [doStep, if_neg (by omega), if_neg (by omega), ed_three hk, show ((m : Int) + c.n) = ((m + c.n.toNat : Nat) : Int) by omega, ih, List.drop_drop]
    · rw [doStep, if_neg (by omega), if_pos hk, ed_two hk, ih, E_append, List.append_assoc, (cps_V ht).bytes]
theorem doRun_ed (vs : List Nat) {l : List CompV} (hw : ∀ c ∈ l, Wh c) : (doRun vs l).2 = E (ed l vs) := by
  have := doStep_ed vs l 0 [] hw
  rw [List.drop_zero, List.nil_append] at this
  exact this

/-- Parts that may stand behind one of kind k. -/
def Ch : Int → List CompV → Prop
  | _, [] => True
  | k, c :: l => Wh c ∧ k ≠ c.kind ∧ ¬ (k = 3 ∧ c.kind = 2) ∧ Ch c.kind l
def lastOr : Int → List CompV → Int
  | k, [] => k
  | _, c :: l => lastOr c.kind l
theorem lastOr_snoc : ∀ (p : List CompV) (k : Int) (c : CompV), lastOr k (p ++ [c]) = c.kind
  | [], _, _ => rfl
  | d :: p, k, c => by rw [List.cons_append, lastOr, lastOr_snoc p]
theorem Ch.append : ∀ (p : List CompV) (k : Int) (l : List CompV), Ch k (p ++ l) ↔ Ch k p ∧ Ch (lastOr k p) l
  | [], k, l => by simp [Ch, lastOr]
  | c :: p, k, l => by rw [List.cons_append, Ch, Ch, lastOr, Ch.append p]; exact ⟨fun h => ⟨⟨h.1, h.2.1, h.2.2.1, h.2.2.2.1⟩, h.2.2.2.2⟩, fun h => ⟨h.1.1, h.1.2.1, h.1.2.2.1, h.1.2.2.2, h.2⟩⟩
theorem Ch.wh : ∀ {l : List CompV} {k : Int}, Ch k l → ∀ c ∈ l, Wh c
  | [], _, _ => fun c hc => by cases hc
  | d :: l, _, h => fun c hc => by
    rcases List.mem_cons.1 hc with rfl | hc
    · exact h.1
    · exact Ch.wh h.2.2.2 c hc
theorem lastK_or : ∀ {p : List CompV}, Nm p → lastK p = lastOr 0 p := fun h => by
  cases h with
  | nil => rfl
  | snoc p c _ _ _ _ => rw [lastK_snoc, lastOr_snoc]
theorem ch_of_nm {l : List CompV} (h : Nm l) : (∀ y ∈ l, y.kind = 2 → ∃ vs, V y.text vs) → Ch 0 l := by
  induction h with
  | nil => intro _; trivial
  | snoc p c hp hc h1 h2 ih =>
    intro hv
    rw [Ch.append, ← lastK_or hp]
    refine ⟨ih fun y hy => hv y (List.mem_append_left _ hy), ?_, h1, h2, trivial⟩
    rcases hc with h | ⟨g1, g2, g3⟩
    · exact .inl h
    · exact .inr ⟨g1, g2, g3, hv c (by simp) g1⟩
theorem nm_of_ch : ∀ (l p : List CompV), Nm p → Ch (lastOr 0 p) l → Nm (p ++ l)
  | [], p, hp, _ => by rwa [List.append_nil]
  | c :: l, p, hp, h => by
    rw [show p ++ c :: l = (p ++ [c]) ++ l by simp]
    have hk := h.2.1
    have hk3 := h.2.2.1
    rw [← lastK_or hp] at hk hk3
    refine nm_of_ch l _ (.snoc p c hp ?_ hk hk3) (by rw [lastOr_snoc]; exact h.2.2.2)
    rcases h.1 with g | ⟨g1, g2, g3, _⟩
    · exact .inl g
    · exact .inr ⟨g1, g2, g3⟩
theorem Ch.nm {l : List CompV} (h : Ch 0 l) : Nm l := nm_of_ch l [] .nil h
theorem Ch.nrm {l : List CompV} (h : Ch 0 l) : Nrm l := nrm_of_nm h.nm fun y hy hk => by
  rcases (h.wh y hy).cases with ⟨g, _⟩ | ⟨g, _⟩ | ⟨_, _, _, g⟩
  · omega
  · omega
  · exact g
theorem Nrm.ch {l : List CompV} (h : Nrm l) : Ch 0 l := ch_of_nm (nm_of_nrm h) h.text
attribute [irreducible] ed inS outS
end Go.Proofs.Ytnadhpajelkngaa

/- What undoes an edit of a text, in plain mathematics. No condition. -/
namespace Go.Proofs.Ytnadhpajelkngaa

/-- What undoes some parts. -/
def undoStep (vs : List Nat) (s : Int × List CompV) (c : CompV) : Int × List CompV :=
  if c.kind = 1 then (s.1 + c.n, s.2 ++ [c]) else if c.kind = 2 then (s.1, s.2 ++ [⟨3, (loose c.text : Int), []⟩]) else (s.1 + c.n, s.2 ++ [⟨2, 0, E ((vs.take (s.1 + c.n).toNat).drop s.1.toNat)⟩])
def undoRun (vs : List Nat) (l : List CompV) : Int × List CompV := l.foldl (undoStep vs) (0, [])
theorem undoRun_snoc (vs : List Nat) (l : List CompV) (c : CompV) : undoRun vs (l ++ [c]) = undoStep vs (undoRun vs l) c := by rw [undoRun, List.foldl_append]; rfl
theorem undoRun_at (vs : List Nat) (l : List CompV) : (undoRun vs l).1 = sumT l := by
  have : ∀ (l : List CompV) (s : Int × List CompV), (l.foldl (undoStep vs) s).1 = l.foldl sumStep s.1 := by
    intro l
    induction l with
    | nil => intro s; rfl
    | cons c l ih =>
      intro s
      rw [List.foldl_cons, List.foldl_cons, ih]
      congr 1
      unfold undoStep sumStep
      split
      · next h => rw [if_neg (by omega)]
      · split <;> rfl
  exact this l (0, [])
theorem undoRun_len (vs : List Nat) (l : List CompV) : (undoRun vs l).2.length = l.length := by
  have : ∀ (l : List CompV) (s : Int × List CompV), (l.foldl (undoStep vs) s).2.length = s.2.length + l.length := by
    intro l
    induction l with
    | nil => intro s; rfl
    | cons c l ih =>
      intro s
      rw [List.foldl_cons, ih, List.length_cons]
      have : (undoStep vs s c).2.length = s.2.length + 1 := by
        unfold undoStep
        split
        · simp
        · split <;> simp
      omega
  have := this l (0, [])
  show (l.foldl (undoStep vs) (0, [])).2.length = _
  simpa using this
theorem undoRun_text (vs : List Nat) (hv : (E vs).length ≤ 1073741824) (l : List CompV) : tlen (undoRun vs l).2 ≤ l.length * 1073741824 + tlen l := by
  have : ∀ (l : List CompV) (s : Int × List CompV), tlen (l.foldl (undoStep vs) s).2 ≤ tlen s.2 + l.length * 1073741824 + tlen l := by
    intro l
    induction l with
    | nil => intro s; simp [tlen]
    | cons c l ih =>
      intro s
      rw [List.foldl_cons]
      refine Nat.le_trans (ih _) ?_
      have ht : tlen (c :: l) = c.text.length + tlen l := by simp [tlen]
      have hs : tlen (undoStep vs s c).2 ≤ tlen s.2 + 1073741824 + c.text.length := by
        unfold undoStep
        split
        · have h1 : tlen [c] = c.text.length := by simp [tlen]
          simp only [tlen_append, h1]
          omega
        · split
          · have h1 : tlen [⟨3, (loose c.text : Int), []⟩] = 0 := by simp [tlen]
            simp only [tlen_append, h1]
            omega
          · have := piece_len vs s.1.toNat (s.1 + c.n).toNat
            have h1 : tlen [⟨2, 0, E ((vs.take (s.1 + c.n).toNat).drop s.1.toNat)⟩] = (E ((vs.take (s.1 + c.n).toNat).drop s.1.toNat)).length := by simp [tlen]
            simp only [tlen_append, h1]
            omega
      rw [ht, List.length_cons]
      omega
  have := this l (0, [])
  show tlen (l.foldl (undoStep vs) (0, [])).2 ≤ _
  simpa [tlen] using this
end Go.Proofs.Ytnadhpajelkngaa

/- What undoes an edit, in plain mathematics: it gives the code points back; what undoes it is the edit itself. No condition. -/
namespace Go.Proofs.Ytnadhpajelkngaa

/-- What undoes parts, one by one. -/
noncomputable def undoL : List CompV → List Nat → List CompV
  | [], _ => []
  | c :: l, vs => if c.kind = 1 then c :: undoL l (vs.drop c.n.toNat) else if c.kind = 2 then ⟨3, ((cps c.text).length : Int), []⟩ :: undoL l vs else ⟨2, 0, E (vs.take c.n.toNat)⟩ :: undoL l (vs.drop c.n.toNat)
/-- What undoes a normal edit, in its normal form. -/
noncomputable def undoN : List CompV → List Nat → List CompV
  | [], _ => []
  | [c], vs => if c.kind = 1 then [c] else if c.kind = 2 then [⟨3, ((cps c.text).length : Int), []⟩] else [⟨2, 0, E (vs.take c.n.toNat)⟩]
  | c :: d :: r, vs => if c.kind = 1 then c :: undoN (d :: r) (vs.drop c.n.toNat) else if c.kind = 2 then
      (if d.kind = 3 then ⟨2, 0, E (vs.take d.n.toNat)⟩ :: ⟨3, ((cps c.text).length : Int), []⟩ :: undoN r (vs.drop d.n.toNat) else ⟨3, ((cps c.text).length : Int), []⟩ :: undoN (d :: r) vs)
      else ⟨2, 0, E (vs.take c.n.toNat)⟩ :: undoN (d :: r) (vs.drop c.n.toNat)
theorem undoN_nil (vs : List Nat) : undoN [] vs = [] := by rw [undoN]
theorem undoN_one {c : CompV} (h : c.kind = 1) (l : List CompV) (vs : List Nat) : undoN (c :: l) vs = c :: undoN l (vs.drop c.n.toNat) := by
  cases l with
  | nil => rw [undoN_nil, undoN, if_pos h]
  | cons d r => rw [undoN, if_pos h]
theorem undoN_three {c : CompV} (h : c.kind = 3) (l : List CompV) (vs : List Nat) : undoN (c :: l) vs = ⟨2, 0, E (vs.take c.n.toNat)⟩ :: undoN l (vs.drop c.n.toNat) := by
  cases l with
  | nil => rw [undoN_nil, undoN, if_neg (by omega), if_neg (by omega)]
  | cons d r => rw [undoN, if_neg (by omega), if_neg (by omega)]
theorem undoN_both {c d : CompV} (h : c.kind = 2) (h3 : d.kind = 3) (r : List CompV) (vs : List Nat) :
    undoN (c :: d :: r) vs = ⟨2, 0, E (vs.take d.n.toNat)⟩ :: ⟨3, ((cps c.text).length : Int), []⟩ :: undoN r (vs.drop d.n.toNat) := by rw [undoN, if_neg (by omega), if_pos h, if_pos h3]
/-- Nothing follows, or a part that keeps. -/
def Rh (l : List CompV) : Prop := ∀ c r, l = c :: r → c.kind = 1
theorem Rh.nil : Rh [] := fun c r h => by cases h
theorem Rh.cons {c : CompV} {r : List CompV} (h : c.kind = 1) : Rh (c :: r) := fun d s e => by cases e; exact h
theorem undoN_two {c : CompV} (h : c.kind = 2) {l : List CompV} (hl : Rh l) (vs : List Nat) : undoN (c :: l) vs = ⟨3, ((cps c.text).length : Int), []⟩ :: undoN l vs := by
  cases l with
  | nil => rw [undoN_nil, undoN, if_neg (by omega), if_pos h]
  | cons d r => rw [undoN, if_neg (by omega), if_pos h, if_neg (by have := hl d r rfl; omega)]
theorem undoN_rh {l : List CompV} (hl : Rh l) (vs : List Nat) : Rh (undoN l vs) := by
  cases l with
  | nil => rw [undoN_nil]; exact Rh.nil
  | cons d r => rw [undoN_one (hl d r rfl)]; exact Rh.cons (hl d r rfl)
/-- The ways in which a normal edit goes on. -/
theorem Ch.ways {k : Int} {c : CompV} {l : List CompV} (h : Ch k (c :: l)) :
    (c.kind = 1 ∧ 1 ≤ c.n ∧ Ch 1 l) ∨ (c.kind = 3 ∧ 1 ≤ c.n ∧ c.text = [] ∧ Ch 3 l ∧ Rh l) ∨
    (c.kind = 2 ∧ c.n = 0 ∧ c.text ≠ [] ∧ (∃ vs, V c.text vs) ∧ ((Ch 2 l ∧ Rh l) ∨ ∃ d r, l = d :: r ∧ d.kind = 3 ∧ 1 ≤ d.n ∧ d.text = [] ∧ Ch 3 r ∧ Rh r)) := by
  obtain ⟨hw, h1, h2, h3⟩ := h
  have rh3 : ∀ r : List CompV, Ch 3 r → Rh r := fun r hr d s e => by
    subst e
    rcases hr.1.cases with ⟨g, _⟩ | ⟨g, _⟩ | ⟨g, _⟩
    · exact g
    · exact absurd g.symm hr.2.1
    · exact absurd ⟨rfl, g⟩ hr.2.2.1
  rcases hw.cases with ⟨g, gn, _⟩ | ⟨g, gn, gt⟩ | ⟨g, gn, gt, gv⟩
  · rw [g] at h3
    exact .inl ⟨g, gn, h3⟩
  · rw [g] at h3
    exact .inr (.inl ⟨g, gn, gt, h3, rh3 l h3⟩)
  · rw [g] at h3
    refine .inr (.inr ⟨g, gn, gt, gv, ?_⟩)
    cases l with
    | nil => exact .inl ⟨h3, Rh.nil⟩
    | cons d r =>
      rcases h3.1.cases with ⟨e, _⟩ | ⟨e, en, et⟩ | ⟨e, _⟩
      · exact .inl ⟨h3, Rh.cons e⟩
      · have := h3.2.2.2
        rw [e] at this
        exact .inr ⟨d, r, rfl, e, en, et, this, rh3 r this⟩
      · exact absurd e.symm h3.2.1
theorem undoN_ch : ∀ (l : List CompV) (k k' : Int) (vs : List Nat), Ch k l → inS l ≤ vs.length → (∀ v ∈ vs, May v) → ((k = 0 ∨ k = 1) ∧ k' = k ∨ Rh l ∧ k' ≠ 1) → Ch k' (undoN l vs)
  | [], k, k', vs, _, _, _, _ => by rw [undoN_nil]; trivial
  | c :: l, k, k', vs, h, hn, hm, hk => by
    have hc1 := h.2.1
    have hd : ∀ n, ∀ v ∈ vs.drop n, May v := fun n v hv => hm v (List.mem_of_mem_drop hv)
    have htxt : ∀ n : Int, 1 ≤ n → n.toNat ≤ vs.length → Wh ⟨2, 0, E (vs.take n.toNat)⟩ := fun n h1 h2 => by
      refine .inr ⟨rfl, rfl, fun e => ?_, vs.take n.toNat, V.mk fun v hv => hm v (List.mem_of_mem_take hv)⟩
      have h3 := E_length_le (vs.take n.toNat)
      have e' : E (vs.take n.toNat) = [] := e
      rw [e', List.length_take] at h3
      have h3' : min n.toNat vs.length ≤ 0 := h3
      omega
    have hdel : ∀ t : List Nat, (∃ vs, V t vs) → t ≠ [] → Wh ⟨3, ((cps t).length : Int), []⟩ := fun t h1 h2 => by
      have := cps_ne h1 h2
      exact .inl ⟨.inr rfl, by show (1 : Int) ≤ ((cps t).length : Int); omega, rfl⟩
    rw [inS_cons] at hn
    rcases h.ways with ⟨g, gn, g1⟩ | ⟨g, gn, gt, g1, gr⟩ | ⟨g, gn, gt, gv, ⟨g1, gr⟩ | ⟨d, r, rfl, e, en, et, e1, er⟩⟩
    · rw [in_one g] at hn
      rw [undoN_one g]
      have hk1 : k' ≠ 1 := by
        rcases hk with hk | hk
        · omega
        · exact hk.2
      refine ⟨h.1, by omega, by omega, ?_⟩
      rw [g]
      exact undoN_ch l 1 1 _ g1 (by rw [List.length_drop]; omega) (hd _) (.inl ⟨.inr rfl, rfl⟩)
    · rw [in_three g] at hn
      rw [undoN_three g]
      have hk' : k' = 0 ∨ k' = 1 := by
        rcases hk with hk | hk
        · omega
        · have := hk.1 c l rfl; omega
      refine ⟨htxt _ gn (by omega), by show k' ≠ 2; omega, by show ¬ (k' = 3 ∧ _); omega, ?_⟩
      exact undoN_ch l 3 2 _ g1 (by rw [List.length_drop]; omega) (hd _) (.inr ⟨gr, by omega⟩)
    · rw [in_two g] at hn
      rw [undoN_two g gr]
      have hk' : k' = 0 ∨ k' = 1 := by
        rcases hk with hk | hk
        · omega
        · have := hk.1 c l rfl; omega
      refine ⟨hdel _ gv gt, by show k' ≠ 3; omega, by show ¬ (k' = 3 ∧ (3 : Int) = 2); omega, ?_⟩
      exact undoN_ch l 2 3 _ g1 (by omega) hm (.inr ⟨gr, by omega⟩)
    · rw [in_two g, inS_cons, in_three e] at hn
      rw [undoN_both g e]
      have hk' : k' = 0 ∨ k' = 1 := by
        rcases hk with hk | hk
        · omega
        · have := hk.1 c _ rfl; omega
      refine ⟨htxt _ en (by omega), by show k' ≠ 2; omega, by show ¬ (k' = 3 ∧ _); omega, hdel _ gv gt, by show (2 : Int) ≠ 3; omega, by show ¬ ((2 : Int) = 3 ∧ _); omega, ?_⟩
      exact undoN_ch r 3 3 _ e1 (by rw [List.length_drop]; omega) (hd _) (.inr ⟨er, by omega⟩)
/-- What undoes gives the code points back; undone itself it is the edit; it asks for, and makes, what the edit makes, and asks for. -/
theorem undoN_all : ∀ (l : List CompV) (k : Int) (vs : List Nat), Ch k l → inS l ≤ vs.length → (∀ v ∈ vs, May v) →
    ed (undoN l vs) (ed l vs) = vs.take (inS l) ∧ undoN (undoN l vs) (ed l vs) = l ∧ inS (undoN l vs) = outS l ∧ outS (undoN l vs) = inS l ∧ (undoN l vs).length = l.length
  | [], k, vs, _, _, _ => by
    rw [undoN_nil, ed_nil, ed_nil, undoN_nil, inS_nil, outS_nil, List.take_zero]
    exact ⟨rfl, rfl, rfl, rfl, rfl⟩
  | c :: l, k, vs, h, hn, hm => by
    have hd : ∀ n, ∀ v ∈ vs.drop n, May v := fun n v hv => hm v (List.mem_of_mem_drop hv)
    have ht : ∀ n, ∀ v ∈ vs.take n, May v := fun n v hv => hm v (List.mem_of_mem_take hv)
    have k1 : ∀ (n : Int) t, (CompV.mk 1 n t).kind = 1 := fun _ _ => rfl
    have k2 : ∀ (n : Int) t, (CompV.mk 2 n t).kind = 2 := fun _ _ => rfl
    have k3 : ∀ (n : Int) t, (CompV.mk 3 n t).kind = 3 := fun _ _ => rfl
    rw [inS_cons] at hn
    rcases h.ways with ⟨g, gn, g1⟩ | ⟨g, gn, gt, g1, gr⟩ | ⟨g, gn, gt, gv, ⟨g1, gr⟩ | ⟨d, r, rfl, e, en, et, e1, er⟩⟩
    · rw [in_one g] at hn
      obtain ⟨i1, i2, i3, i4, i5⟩ := undoN_all l 1 (vs.drop c.n.toNat) g1 (by rw [List.length_drop]; omega) (hd _)
      have hl : (vs.take c.n.toNat).length = c.n.toNat := by rw [List.length_take]; omega
      rw [undoN_one g, ed_one g, ed_one g, undoN_one g, inS_cons, inS_cons, outS_cons, outS_cons, in_one g, out_one g, List.take_left' hl, List.drop_left' hl, i1, i2, i3, i4, List.length_cons, i5, List.length_cons]
      refine ⟨?_, rfl, rfl, rfl, rfl⟩
      rw [List.take_add]
    · rw [in_three g] at hn
      obtain ⟨i1, i2, i3, i4, i5⟩ := undoN_all l 3 (vs.drop c.n.toNat) g1 (by rw [List.length_drop]; omega) (hd _)
      have hl : (vs.take c.n.toNat).length = c.n.toNat := by rw [List.length_take]; omega
      rw [undoN_three g, ed_three g, ed_two (k2 _ _), undoN_two (k2 _ _) (undoN_rh gr _), inS_cons, inS_cons, outS_cons, outS_cons, in_three g, out_three g, in_two (k2 _ _), out_two (k2 _ _), i1, i2, i3, i4, List.length_cons, i5, List.length_cons]
      refine ⟨?_, ?_, ?_, ?_, rfl⟩
      · simp only [cps_E (ht _)]
        rw [List.take_add]
      rotate_left
      · simp only
      · simp only [cps_E (ht _), hl]
      simp only [cps_E (ht _), hl]
      obtain ⟨a, b, t⟩ := c
      simp only at g gn gt ⊢
      subst g gt
      rw [Int.toNat_of_nonneg (by omega)]
    · rw [in_two g] at hn
      obtain ⟨i1, i2, i3, i4, i5⟩ := undoN_all l 2 vs g1 (by omega) hm
      have hvc := cps_V gv
      rw [undoN_two g gr, ed_two g, ed_three (k3 _ _), undoN_three (k3 _ _), inS_cons, inS_cons, outS_cons, outS_cons, in_two g, out_two g, in_three (k3 _ _), out_three (k3 _ _)]
      simp only [Int.toNat_natCast]
      rw [List.take_left' rfl, List.drop_left' rfl, i1, i2, i3, i4, List.length_cons, i5, List.length_cons, hvc.bytes, Nat.zero_add]
      refine ⟨rfl, ?_, rfl, rfl, rfl⟩
      obtain ⟨a, b, t⟩ := c
      simp only at g gn
      subst g gn
      rfl
    · rw [in_two g, inS_cons, in_three e] at hn
      obtain ⟨i1, i2, i3, i4, i5⟩ := undoN_all r 3 (vs.drop d.n.toNat) e1 (by rw [List.length_drop]; omega) (hd _)
      have hvc := cps_V gv
      have hl : (vs.take d.n.toNat).length = d.n.toNat := by rw [List.length_take]; omega
      rw [undoN_both g e, ed_two g, ed_three e, ed_two (k2 _ _), ed_three (k3 _ _), undoN_both (k2 _ _) (k3 _ _), inS_cons, inS_cons, inS_cons, inS_cons, outS_cons, outS_cons, outS_cons, outS_cons, in_two g, out_two g, in_three e, out_three e, in_two (k2 _ _), out_two (k2 _ _), in_three (k3 _ _), out_three (k3 _ _)]
      simp only [Int.toNat_natCast, cps_E (ht _), hl]
      rw [List.take_left' rfl, List.drop_left' rfl, i1, i2, i3, i4, List.length_cons, List.length_cons, i5, List.length_cons, List.length_cons, hvc.bytes]
      refine ⟨by rw [Nat.zero_add, List.take_add], ?_, by omega, by omega, rfl⟩
      obtain ⟨a, b, t⟩ := c
      obtain ⟨a', b', t'⟩ := d
      simp only at g gn e en et
      subst g gn e et
      simp only
      rw [Int.toNat_of_nonneg (by omega)]

/-- The document's own way of undoing comes to the same. -/
theorem undoStep_L : ∀ (vs : List Nat) (l : List CompV) (m : Nat) (o : List CompV), (∀ c ∈ l, Wh c) →
    (l.foldl (undoStep vs) ((m : Int), o)).2 = o ++ undoL l (vs.drop m)
  | vs, [], m, o, _ => by simp [undoL]
  | vs, c :: l, m, o, hw => by
    have ih := fun m o => undoStep_L vs l m o fun x hx => hw x (List.mem_cons_of_mem _ hx)
    rw [List.foldl_cons, undoL]
    rcases (hw c (by simp)).cases with ⟨hk, hn, _⟩ | ⟨hk, hn, _⟩ | ⟨hk, _, _, ht⟩
    · rw [undoStep, if_pos hk, if_pos hk, show ((m : Int) + c.n) = ((m + c.n.toNat : Nat) : Int) by omega, ih, List.drop_drop, List.append_assoc]
      rfl
    · rw [undoStep, if_neg (by omega), if_neg (by omega), if_neg (by omega), if_neg (by omega), show ((m : Int) + c.n) = ((m + c.n.toNat : Nat) : Int) by omega, ih]
      simp only [Int.toNat_natCast]
      rw [List.append_assoc, List.drop_drop, List.drop_take, show m + c.n.toNat - m = c.n.toNat by omega]
      rfl
    · rw [undoStep, if_neg (by omega), if_pos hk, if_neg (by omega), if_pos hk, ih, List.append_assoc, cps_loose ht]
      rfl
theorem undoRun_L (vs : List Nat) {l : List CompV} (hw : ∀ c ∈ l, Wh c) : (undoRun vs l).2 = undoL l vs := by
  have := undoStep_L vs l 0 [] hw
  rw [List.drop_zero, List.nil_append] at this
  exact this
theorem nStep_turn (s : NS) (t : List Nat) (n m : Int) : nStep (nStep s ⟨3, n, []⟩) ⟨2, m, t⟩ = nStep (nStep s ⟨2, m, t⟩) ⟨3, n, []⟩ := by
  simp [nStep]
theorem undoL_N : ∀ (l : List CompV) (k : Int) (vs : List Nat) (s : NS), Ch k l → (undoL l vs).foldl nStep s = (undoN l vs).foldl nStep s
  | [], k, vs, s, _ => by rw [undoL, undoN_nil]
  | c :: l, k, vs, s, h => by
    rcases h.ways with ⟨g, gn, g1⟩ | ⟨g, gn, gt, g1, gr⟩ | ⟨g, gn, gt, gv, ⟨g1, gr⟩ | ⟨d, r, rfl, e, en, et, e1, er⟩⟩
    · rw [undoL, if_pos g, undoN_one g, List.foldl_cons, List.foldl_cons, undoL_N l 1 _ _ g1]
    · rw [undoL, if_neg (by omega), if_neg (by omega), undoN_three g, List.foldl_cons, List.foldl_cons, undoL_N l 3 _ _ g1]
    · rw [undoL, if_neg (by omega), if_pos g, undoN_two g gr, List.foldl_cons, List.foldl_cons, undoL_N l 2 _ _ g1]
    · rw [undoL, if_neg (by omega), if_pos g, undoL, if_neg (by omega), if_neg (by omega), undoN_both g e, List.foldl_cons, List.foldl_cons, List.foldl_cons, List.foldl_cons, undoL_N r 3 _ _ e1, nStep_turn]
/-- What undoes a checked edit of code points. -/
theorem undo_ok {l : List CompV} {vs : List Nat} (h : Ok l) (hn : vs.length = inS l) (hm : ∀ v ∈ vs, May v) :
    rNormal (undoRun vs l).2 = undoN l vs ∧ Ok (undoN l vs) ∧ inS (undoN l vs) = outS l ∧ outS (undoN l vs) = inS l ∧ (undoN l vs).length = l.length ∧ ed (undoN l vs) (ed l vs) = vs ∧ undoN (undoN l vs) (ed l vs) = l := by
  have hc := h.nrm.ch
  have hu := undoN_ch l 0 0 vs hc (by omega) hm (.inl ⟨.inl rfl, rfl⟩)
  obtain ⟨a1, a2, a3, a4, a5⟩ := undoN_all l 0 vs hc (by omega) hm
  have hok : Ok (undoN l vs) := ok_mk (by rw [a5]; exact h.len) hu.nrm (by rw [a3]; exact h.out1) (by rw [a4]; exact h.base1)
  refine ⟨?_, hok, a3, a4, a5, by rw [a1, ← hn, List.take_length], a2⟩
  rw [undoRun_L vs h.wh, rNormal, nRun, undoL_N l 0 vs _ hc]
  exact norm_checked hok.check
end Go.Proofs.Ytnadhpajelkngaa

/- An edit's normal form does what it does, in plain mathematics. Condition: it asks for no more than 2^40 code points. -/
namespace Go.Proofs.Ytnadhpajelkngaa

theorem ed_append : ∀ (a b : List CompV) (vs : List Nat), ed (a ++ b) vs = ed a vs ++ ed b (vs.drop (inS a))
  | [], b, vs => by rw [List.nil_append, ed_nil, inS_nil, List.drop_zero, List.nil_append]
  | c :: a, b, vs => by
    rw [List.cons_append, inS_cons]
    by_cases h1 : c.kind = 1
    · rw [ed_one h1, ed_one h1, ed_append a b, in_one h1, List.append_assoc, List.drop_drop]
    · by_cases h2 : c.kind = 2
      · rw [ed_two h2, ed_two h2, ed_append a b, in_two h2, List.append_assoc, Nat.zero_add]
      · have e : ∀ l, ed (c :: l) vs = ed l (vs.drop c.n.toNat) := fun l => by rw [ed, if_neg h1, if_neg h2]
        rw [e, e, ed_append a b, inN, if_neg h2, List.drop_drop]
theorem cps_append {a b : List Nat} (ha : ∃ vs, V a vs) (hb : ∃ vs, V b vs) : cps (a ++ b) = cps a ++ cps b := cps_of ((cps_V ha).append (cps_V hb))
theorem ed_keep {n : Int} (h : 0 ≤ n) (vs : List Nat) : ed (keepOf n) vs = vs.take n.toNat ∧ inS (keepOf n) = n.toNat := by
  unfold keepOf
  by_cases h0 : 0 < n
  · rw [if_pos h0, ed_one rfl, ed_nil, inS_cons, inS_nil, in_one rfl]
    simp
  · rw [if_neg h0, ed_nil, inS_nil, show n.toNat = 0 by omega]
    simp
theorem ed_gone {n : Int} (h : 0 ≤ n) (vs : List Nat) : ed (goneOf n) vs = [] ∧ inS (goneOf n) = n.toNat := by
  unfold goneOf
  by_cases h0 : 0 < n
  · rw [if_pos h0, ed_three rfl, ed_nil, inS_cons, inS_nil, in_three rfl]
    simp
  · rw [if_neg h0, ed_nil, inS_nil, show n.toNat = 0 by omega]
    simp
theorem ed_text (t : List Nat) (vs : List Nat) : ed (textOf t) vs = cps t ∧ inS (textOf t) = 0 := by
  unfold textOf
  by_cases h0 : t = []
  · rw [if_pos h0, ed_nil, inS_nil, h0, cps_nil]
    simp
  · rw [if_neg h0, ed_two rfl, ed_nil, inS_cons, inS_nil, in_two rfl]
    simp
theorem ed_flush {s : NS} (hk : 0 ≤ s.keep) (hg : 0 ≤ s.gone) (vs : List Nat) :
    ed s.flush vs = ed s.out vs ++ (vs.drop (inS s.out)).take s.keep.toNat ++ cps s.text ∧ inS s.flush = inS s.out + s.keep.toNat + s.gone.toNat := by
  unfold NS.flush
  rw [ed_append, ed_append, ed_append, (ed_keep hk _).1, (ed_text _ _).1, (ed_gone hg _).1, List.append_nil, inS_append, inS_append, inS_append, (ed_keep hk vs).2, (ed_text s.text vs).2, (ed_gone hg vs).2]
  exact ⟨rfl, by omega⟩
/-- What was made, and gathered, does what the parts do. -/
structure NEd (l : List CompV) (s : NS) : Prop where
  ed : ∀ vs, ed s.flush vs = ed l vs
  ins : inS s.flush = inS l
  text : ∃ vs, V s.text vs
theorem nStep_ed {l : List CompV} {s : NS} (h : NEd l s) (hi : NInv s) (c : CompV) (hc : Wh c) (hl : inS (l ++ [c]) ≤ 1099511627776) : NEd (l ++ [c]) (nStep s c) := by
  have hk := hi.keep0; have hg := hi.gone0
  have hf := fun vs => ed_flush hk hg vs
  have he := h.ed; have hs := h.ins; have ht := h.text
  have hin := (hf []).2
  rw [inS_append, inS_cons, inS_nil] at hl
  rcases hc.cases with ⟨g, gn, gt⟩ | ⟨g, gn, gt⟩ | ⟨g, gn, gt, gv⟩
  · rw [in_one g] at hl
    have e0 : hld 0 c.n = c.n := by unfold hld; omega
    rw [nStep, if_neg (by omega), if_neg (by omega), if_neg (by omega)]
    by_cases ho : s.text ≠ [] ∨ 0 < s.gone
    · rw [if_pos ho, e0]
      have hf2 := fun vs => ed_flush (s := ⟨s.flush, c.n, 0, []⟩) (by show 0 ≤ c.n; omega) (by show (0 : Int) ≤ 0; omega) vs
      refine ⟨fun vs => ?_, ?_, [], V.nil⟩
      · rw [(hf2 vs).1, ed_append, ed_one g, ed_nil, cps_nil, List.append_nil, List.append_nil, he, hs]
      · rw [(hf2 []).2, inS_append, inS_cons, inS_nil, in_one g, hs]
        show inS l + c.n.toNat + (0 : Int).toNat = _
        omega
    · have ht0 : s.text = [] := Classical.byContradiction fun e => ho (.inl e)
      have hg0 : s.gone = 0 := by
        have : ¬ 0 < s.gone := fun e => ho (.inr e)
        omega
      rw [if_neg ho]
      have ek : hld s.keep c.n = s.keep + c.n := by unfold hld; omega
      have hf2 := fun vs => ed_flush (s := { s with keep := hld s.keep c.n }) (by show 0 ≤ hld s.keep c.n; exact hld_pos _ _) hg vs
      refine ⟨fun vs => ?_, ?_, ht⟩
      · rw [(hf2 vs).1, ed_append, ed_one g, ed_nil, ← he, ← hs, (hf vs).1, (hf vs).2]
        show ed s.out vs ++ List.take (hld s.keep c.n).toNat (List.drop (inS s.out) vs) ++ cps s.text = _
        rw [ht0, cps_nil, List.append_nil, List.append_nil, List.append_nil, ek, show (s.keep + c.n).toNat = s.keep.toNat + c.n.toNat by omega, List.take_add, List.drop_drop, hg0, List.append_assoc]
        simp
      · rw [(hf2 []).2, inS_append, inS_cons, inS_nil, in_one g, ← hs, hin]
        show inS s.out + (hld s.keep c.n).toNat + s.gone.toNat = _
        rw [ek]
        omega
  · rw [in_three g] at hl
    have ek : hld s.gone c.n = s.gone + c.n := by unfold hld; omega
    rw [nStep, if_neg (by omega), if_pos g]
    have hf2 := fun vs => ed_flush (s := { s with gone := hld s.gone c.n }) hk (by show 0 ≤ hld s.gone c.n; exact hld_pos _ _) vs
    refine ⟨fun vs => ?_, ?_, ht⟩
    · rw [(hf2 vs).1, ed_append, ed_three g, ed_nil, List.append_nil, ← he, (hf vs).1]
    · rw [(hf2 []).2, inS_append, inS_cons, inS_nil, in_three g, ← hs, hin]
      show inS s.out + s.keep.toNat + (hld s.gone c.n).toNat = _
      rw [ek]
      omega
  · rw [nStep, if_pos g]
    have hf2 := fun vs => ed_flush (s := { s with text := s.text ++ c.text }) hk hg vs
    refine ⟨fun vs => ?_, ?_, ?_⟩
    · rw [(hf2 vs).1, ed_append, ed_two g, ed_nil, List.append_nil, ← he, (hf vs).1]
      show ed s.out vs ++ List.take s.keep.toNat (List.drop (inS s.out) vs) ++ cps (s.text ++ c.text) = _
      rw [cps_append ht gv, List.append_assoc, List.append_assoc, List.append_assoc]
    · rw [(hf2 []).2, inS_append, inS_cons, inS_nil, in_two g, ← hs, hin]
      show inS s.out + s.keep.toNat + s.gone.toNat = _
      omega
    · exact ⟨_, (cps_V ht).append (cps_V gv)⟩
theorem run_ed (l : List CompV) (hw : ∀ c ∈ l, Wh c) (hl : inS l ≤ 1099511627776) : NEd l (nRun l) := by
  have : ∀ k, k ≤ l.length → NEd (l.take k) (nRun (l.take k)) := by
    intro k
    induction k with
    | zero => exact fun _ => ⟨fun vs => by rw [List.take_zero]; rfl, by rw [List.take_zero]; rfl, [], V.nil⟩
    | succ k ih =>
      intro hk
      rw [List.take_succ_eq_append_getElem (by omega), nRun_snoc]
      refine nStep_ed (ih (by omega)) (run_inv _) _ (hw _ (List.getElem_mem _)) ?_
      rw [← List.take_succ_eq_append_getElem (by omega)]
      have := inS_append (l.take (k + 1)) (l.drop (k + 1))
      rw [List.take_append_drop] at this
      omega
  have h := this l.length (Nat.le_refl _)
  rwa [List.take_length] at h
theorem wh_allV {l : List CompV} (hw : ∀ c ∈ l, Wh c) : AllV l := fun y hy => by
  rcases (hw y hy).cases with ⟨_, _, e⟩ | ⟨_, _, e⟩ | ⟨_, _, _, e⟩
  · exact ⟨[], by rw [e]; exact V.nil⟩
  · exact ⟨[], by rw [e]; exact V.nil⟩
  · exact e
/-- The normal form of parts that stand for themselves. -/
structure NormEd (l m : List CompV) : Prop where
  ch : Ch 0 m
  ed : ∀ vs, ed m vs = ed l vs
  ins : inS m = inS l
  outs : outS m = outS l
theorem norm_ed {l : List CompV} (hw : ∀ c ∈ l, Wh c) (hl : inS l ≤ 1099511627776) : NormEd l (rNormal l) := by
  have h := run_ed l hw hl
  have hc : Ch 0 (rNormal l) := ch_of_nm (norm_nm l) fun y hy _ => run_allV l (wh_allV hw) y hy
  refine ⟨hc, h.ed, h.ins, ?_⟩
  have e1 := ed_length (rNormal l) (List.replicate (inS l) 0) hc.wh (by rw [List.length_replicate]; exact Nat.le_of_eq h.ins)
  have e2 := ed_length l (List.replicate (inS l) 0) hw (by rw [List.length_replicate]; exact Nat.le_refl _)
  have e3 : ed (rNormal l) (List.replicate (inS l) 0) = ed l (List.replicate (inS l) 0) := h.ed _
  rw [← e1, ← e2, e3]
end Go.Proofs.Ytnadhpajelkngaa

/- One edit, then another one, as one: part by part, in plain mathematics. No condition. -/
namespace Go.Proofs.Ytnadhpajelkngaa

/-- How much of a part there is; what is left of it; a piece of it. -/
noncomputable def sz (c : CompV) : Nat := if c.kind = 2 then (cps c.text).length else c.n.toNat
noncomputable def cut (c : CompV) (n : Nat) : CompV := if c.kind = 2 then ⟨2, 0, E ((cps c.text).drop n)⟩ else ⟨c.kind, c.n - n, []⟩
noncomputable def piece (c : CompV) (k : Nat) : CompV := if c.kind = 2 then ⟨2, 0, E ((cps c.text).take k)⟩ else ⟨c.kind, k, []⟩
noncomputable def chop (c : CompV) (l : List CompV) (n : Nat) : List CompV := if n = sz c then l else cut c n :: l
theorem sz_two {c : CompV} (h : c.kind = 2) : sz c = (cps c.text).length := if_pos h
theorem sz_not {c : CompV} (h : c.kind ≠ 2) : sz c = c.n.toNat := if_neg h
theorem Wh.sz {c : CompV} (h : Wh c) : 0 < sz c := by
  rcases h.cases with ⟨g, gn, _⟩ | ⟨g, gn, _⟩ | ⟨g, _, gt, gv⟩
  · rw [sz_not (by omega)]; omega
  · rw [sz_not (by omega)]; omega
  · rw [sz_two g]; exact cps_ne gv gt
theorem cut_kind (c : CompV) (n : Nat) : (cut c n).kind = c.kind := by unfold cut; split <;> simp_all
theorem piece_kind (c : CompV) (n : Nat) : (piece c n).kind = c.kind := by unfold piece; split <;> simp_all
theorem may_drop {t : List Nat} (h : ∃ vs, V t vs) (n : Nat) : ∀ v ∈ (cps t).drop n, May v := fun v hv => (cps_V h).may v (List.mem_of_mem_drop hv)
theorem may_take {t : List Nat} (h : ∃ vs, V t vs) (n : Nat) : ∀ v ∈ (cps t).take n, May v := fun v hv => (cps_V h).may v (List.mem_of_mem_take hv)
theorem E_ne {vs : List Nat} (h : 0 < vs.length) : E vs ≠ [] := fun e => by
  have := E_length_le vs
  rw [e] at this
  have : vs.length ≤ 0 := this
  omega
theorem cut_wh {c : CompV} (h : Wh c) {n : Nat} (hn : n < sz c) : Wh (cut c n) ∧ sz (cut c n) = sz c - n := by
  rcases h.cases with ⟨g, gn, gt⟩ | ⟨g, gn, gt⟩ | ⟨g, gn, gt, gv⟩
  · rw [sz_not (c := c) (by omega)] at hn ⊢
    have e : cut c n = ⟨c.kind, c.n - n, []⟩ := if_neg (by omega)
    rw [e]
    exact ⟨.inl ⟨.inl g, by show 1 ≤ c.n - n; omega, rfl⟩, by rw [sz_not (by show c.kind ≠ 2; omega)]; show (c.n - n).toNat = _; omega⟩
  · rw [sz_not (c := c) (by omega)] at hn ⊢
    have e : cut c n = ⟨c.kind, c.n - n, []⟩ := if_neg (by omega)
    rw [e]
    exact ⟨.inl ⟨.inr g, by show 1 ≤ c.n - n; omega, rfl⟩, by rw [sz_not (by show c.kind ≠ 2; omega)]; show (c.n - n).toNat = _; omega⟩
  · rw [sz_two (c := c) g] at hn ⊢
    have e : cut c n = ⟨2, 0, E ((cps c.text).drop n)⟩ := if_pos g
    rw [e]
    refine ⟨.inr ⟨rfl, rfl, E_ne (by rw [List.length_drop]; omega), _, V.mk (may_drop gv n)⟩, ?_⟩
    rw [sz_two rfl]
    show (cps (E _)).length = _
    rw [cps_E (may_drop gv n), List.length_drop]
theorem piece_wh {c : CompV} (h : Wh c) {n : Nat} (h0 : 0 < n) (hn : n ≤ sz c) : Wh (piece c n) ∧ sz (piece c n) = n := by
  rcases h.cases with ⟨g, gn, gt⟩ | ⟨g, gn, gt⟩ | ⟨g, gn, gt, gv⟩
  · have e : piece c n = ⟨c.kind, n, []⟩ := if_neg (by omega)
    rw [e]
    exact ⟨.inl ⟨.inl g, by show (1 : Int) ≤ n; omega, rfl⟩, by rw [sz_not (by show c.kind ≠ 2; omega)]; rfl⟩
  · have e : piece c n = ⟨c.kind, n, []⟩ := if_neg (by omega)
    rw [e]
    exact ⟨.inl ⟨.inr g, by show (1 : Int) ≤ n; omega, rfl⟩, by rw [sz_not (by show c.kind ≠ 2; omega)]; rfl⟩
  · rw [sz_two g] at hn
    have e : piece c n = ⟨2, 0, E ((cps c.text).take n)⟩ := if_pos g
    rw [e]
    refine ⟨.inr ⟨rfl, rfl, E_ne (by rw [List.length_take]; omega), _, V.mk (may_take gv n)⟩, ?_⟩
    rw [sz_two rfl]
    show (cps (E _)).length = _
    rw [cps_E (may_take gv n), List.length_take]
    omega
theorem cut_zero {c : CompV} (h : Wh c) : cut c 0 = c := by
  obtain ⟨a, b, t⟩ := c
  rcases h.cases with ⟨g, gn, gt⟩ | ⟨g, gn, gt⟩ | ⟨g, gn, gt, gv⟩
  · simp only at g gt
    subst g gt
    show CompV.mk 1 (b - (0 : Nat)) [] = _
    rw [show b - ((0 : Nat) : Int) = b by omega]
  · simp only at g gt
    subst g gt
    show CompV.mk 3 (b - (0 : Nat)) [] = _
    rw [show b - ((0 : Nat) : Int) = b by omega]
  · simp only at g gn gv
    subst g gn
    show CompV.mk 2 0 (E ((cps t).drop 0)) = _
    rw [List.drop_zero, (cps_V gv).bytes]
theorem piece_all {c : CompV} (h : Wh c) : piece c (sz c) = c := by
  obtain ⟨a, b, t⟩ := c
  rcases h.cases with ⟨g, gn, gt⟩ | ⟨g, gn, gt⟩ | ⟨g, gn, gt, gv⟩
  · simp only at g gt gn
    subst g gt
    show CompV.mk 1 ((b.toNat : Nat) : Int) [] = _
    rw [show (b.toNat : Int) = b by omega]
  · simp only at g gt gn
    subst g gt
    show CompV.mk 3 ((b.toNat : Nat) : Int) [] = _
    rw [show (b.toNat : Int) = b by omega]
  · simp only at g gn gv
    subst g gn
    show CompV.mk 2 0 (E ((cps t).take (cps t).length)) = _
    rw [List.take_length, (cps_V gv).bytes]
theorem cut_cut {c : CompV} (h : Wh c) (n m : Nat) : cut (cut c n) m = cut c (n + m) := by
  rcases h.cases with ⟨g, gn, gt⟩ | ⟨g, gn, gt⟩ | ⟨g, gn, gt, gv⟩
  · have e : ∀ n, cut c n = ⟨c.kind, c.n - n, []⟩ := fun n => if_neg (by omega)
    rw [cut, if_neg (by rw [cut_kind]; omega), e, e]
    show CompV.mk c.kind (c.n - n - m) [] = _
    rw [show c.n - n - m = c.n - ((n + m : Nat) : Int) by omega]
  · have e : ∀ n, cut c n = ⟨c.kind, c.n - n, []⟩ := fun n => if_neg (by omega)
    rw [cut, if_neg (by rw [cut_kind]; omega), e, e]
    show CompV.mk c.kind (c.n - n - m) [] = _
    rw [show c.n - n - m = c.n - ((n + m : Nat) : Int) by omega]
  · have e : ∀ n, cut c n = ⟨2, 0, E ((cps c.text).drop n)⟩ := fun n => if_pos g
    rw [cut, if_pos (by rw [cut_kind]; exact g), e, e]
    show CompV.mk 2 0 (E ((cps (E ((cps c.text).drop n))).drop m)) = _
    rw [cps_E (may_drop gv n), List.drop_drop]
theorem piece_cut {c : CompV} (h : Wh c) (n k : Nat) : piece (cut c n) k = if c.kind = 2 then ⟨2, 0, E (((cps c.text).take (n + k)).drop n)⟩ else ⟨c.kind, k, []⟩ := by
  rcases h.cases with ⟨g, gn, gt⟩ | ⟨g, gn, gt⟩ | ⟨g, gn, gt, gv⟩
  · rw [piece, if_neg (by rw [cut_kind]; omega), cut_kind, if_neg (by omega)]
  · rw [piece, if_neg (by rw [cut_kind]; omega), cut_kind, if_neg (by omega)]
  · rw [piece, if_pos (by rw [cut_kind]; exact g), if_pos g, cut, if_pos g]
    simp only
    rw [cps_E (may_drop gv n), List.drop_take, show n + k - n = k by omega]
/-- A part, chopped, does what it did. -/
theorem chop_ed {c : CompV} (h : Wh c) (l : List CompV) {n : Nat} (h0 : 0 < n) (hn : n ≤ sz c) :
    (∀ vs, ed (c :: l) vs = ed (piece c n :: chop c l n) vs) ∧ inS (c :: l) = inN (piece c n) + inS (chop c l n) ∧ outS (c :: l) = outN (piece c n) + outS (chop c l n) ∧ ((∀ x ∈ l, Wh x) → ∀ x ∈ chop c l n, Wh x) := by
  have hp := (piece_wh h h0 hn)
  by_cases he : n = sz c
  · have e : chop c l n = l := if_pos he
    rw [e, he, piece_all h, inS_cons, outS_cons]
    exact ⟨fun _ => rfl, rfl, rfl, fun h => h⟩
  · have hlt : n < sz c := by omega
    have hc := cut_wh h hlt
    have e : chop c l n = cut c n :: l := if_neg he
    rw [e, inS_cons, inS_cons, outS_cons, outS_cons]
    have hk := cut_kind c n
    have hq := piece_kind c n
    have hw : (∀ x ∈ l, Wh x) → ∀ x ∈ cut c n :: l, Wh x := fun h x hx => by
      rcases List.mem_cons.1 hx with rfl | hx
      · exact hc.1
      · exact h x hx
    rcases h.cases with ⟨g, gn, gt⟩ | ⟨g, gn, gt⟩ | ⟨g, gn, gt, gv⟩
    · rw [g] at hk hq
      have e1 : (cut c n).n = c.n - n := by rw [cut, if_neg (by omega)]
      have e2 : (piece c n).n = n := by rw [piece, if_neg (by omega)]
      rw [sz_not (by omega)] at hlt
      rw [in_one g, in_one hk, in_one hq, out_one g, out_one hk, out_one hq, e1, e2]
      refine ⟨fun vs => ?_, by omega, by omega, hw⟩
      rw [ed_one g, ed_one hq, ed_one hk, e1, e2, ← List.append_assoc, List.drop_drop, Int.toNat_natCast, ← List.take_add, show n + (c.n - n).toNat = c.n.toNat by omega]
    · rw [g] at hk hq
      have e1 : (cut c n).n = c.n - n := by rw [cut, if_neg (by omega)]
      have e2 : (piece c n).n = n := by rw [piece, if_neg (by omega)]
      rw [sz_not (by omega)] at hlt
      rw [in_three g, in_three hk, in_three hq, out_three g, out_three hk, out_three hq, e1, e2]
      refine ⟨fun vs => ?_, by omega, by omega, hw⟩
      rw [ed_three g, ed_three hq, ed_three hk, e1, e2, List.drop_drop, Int.toNat_natCast, show n + (c.n - n).toNat = c.n.toNat by omega]
    · rw [g] at hk hq
      have e1 : (cut c n).text = E ((cps c.text).drop n) := by rw [cut, if_pos g]
      have e2 : (piece c n).text = E ((cps c.text).take n) := by rw [piece, if_pos g]
      rw [sz_two g] at hlt
      rw [in_two g, in_two hk, in_two hq, out_two g, out_two hk, out_two hq, e1, e2, cps_E (may_drop gv n), cps_E (may_take gv n), List.length_drop, List.length_take]
      refine ⟨fun vs => ?_, by omega, by omega, hw⟩
      rw [ed_two g, ed_two hq, ed_two hk, e1, e2, cps_E (may_drop gv n), cps_E (may_take gv n), ← List.append_assoc, List.take_append_drop]
/-- The kind of the part that is next; 0: none is. -/
def kd : List CompV → Int
  | [] => 0
  | c :: _ => c.kind
/-- One edit, then another one, part by part. -/
inductive Cmp : List CompV → List CompV → List CompV → Prop
  | nil : Cmp [] [] []
  | gone (c : CompV) (a b o : List CompV) : c.kind = 3 → Cmp a b o → Cmp (c :: a) b (c :: o)
  | puts (a : List CompV) (d : CompV) (b o : List CompV) : kd a ≠ 3 → d.kind = 2 → Cmp a b o → Cmp a (d :: b) (d :: o)
  | both (c : CompV) (a : List CompV) (d : CompV) (b o : List CompV) (n : Nat) : c.kind ≠ 3 → d.kind ≠ 2 → n = min (sz c) (sz d) → Cmp (chop c a n) (chop d b n) o →
      Cmp (c :: a) (d :: b) ((if d.kind = 1 then [piece c n] else if c.kind = 1 then [piece d n] else []) ++ o)
/-- What one edit, then another one, do. -/
structure CmpEd (a b o : List CompV) : Prop where
  wh : ∀ x ∈ o, Wh x
  ins : inS o = inS a
  outs : outS o = outS b
  ed : ∀ vs, vs.length = inS a → ed o vs = ed b (ed a vs)
theorem wh_cons {c : CompV} {l : List CompV} (h1 : Wh c) (h2 : ∀ x ∈ l, Wh x) : ∀ x ∈ c :: l, Wh x := fun x hx => by
  rcases List.mem_cons.1 hx with rfl | hx
  · exact h1
  · exact h2 x hx
theorem Cmp.ed {a b o : List CompV} (h : Cmp a b o) : (∀ x ∈ a, Wh x) → (∀ x ∈ b, Wh x) → outS a = inS b → CmpEd a b o := by
  induction h with
  | nil => exact fun _ _ _ => ⟨fun x hx => (by cases hx), rfl, rfl, fun vs _ => by rw [ed_nil, ed_nil]⟩
  | gone c a b o hk _ ih =>
    intro ha hb hn
    rw [outS_cons, out_three hk, Nat.zero_add] at hn
    have i := ih (fun x hx => ha x (List.mem_cons_of_mem _ hx)) hb hn
    refine ⟨wh_cons (ha c (by simp)) i.wh, by rw [inS_cons, inS_cons, i.ins], by rw [outS_cons, out_three hk, i.outs, Nat.zero_add], fun vs hv => ?_⟩
    rw [inS_cons, in_three hk] at hv
    rw [ed_three hk, ed_three hk, i.ed _ (by rw [List.length_drop]; omega)]
  | puts a d b o _ hk _ ih =>
    intro ha hb hn
    rw [inS_cons, in_two hk, Nat.zero_add] at hn
    have i := ih ha (fun x hx => hb x (List.mem_cons_of_mem _ hx)) hn
    refine ⟨wh_cons (hb d (by simp)) i.wh, by rw [inS_cons, in_two hk, i.ins, Nat.zero_add], by rw [outS_cons, outS_cons, i.outs], fun vs hv => ?_⟩
    rw [ed_two hk, ed_two hk, i.ed _ hv]
  | both c a d b o n h3 h2 hmin _ ih =>
    intro ha hb hn
    have wc := ha c (by simp)
    have wd := hb d (by simp)
    have hc0 := wc.sz; have hd0 := wd.sz
    obtain ⟨c1, c2, c3, c4⟩ := chop_ed wc a (n := n) (by omega) (by omega)
    obtain ⟨d1, d2, d3, d4⟩ := chop_ed wd b (n := n) (by omega) (by omega)
    have pc := piece_wh wc (n := n) (by omega) (by omega)
    have pd := piece_wh wd (n := n) (by omega) (by omega)
    have kc := piece_kind c n
    have kdd := piece_kind d n
    generalize piece c n = p at *
    generalize piece d n = q at *
    rw [c3, d2] at hn
    have ha' := c4 fun x hx => ha x (List.mem_cons_of_mem _ hx)
    have hb' := d4 fun x hx => hb x (List.mem_cons_of_mem _ hx)
    have hq : q.kind = 1 ∨ q.kind = 3 := by
      rcases pd.1.cases with g | g | g <;> omega
    have hp : p.kind = 1 ∨ p.kind = 2 := by
      rcases pc.1.cases with g | g | g <;> omega
    have sp := pc.2
    have sq := pd.2
    have hqn : q.n.toNat = n := by rw [sz_not (by omega)] at sq; exact sq
    have eq1 : inN q = n := by rw [inN, if_neg (by omega)]; exact hqn
    have ep1 : outN p = n := by
      rcases hp with g | g
      · rw [out_one g, ← sp, sz_not (by omega)]
      · rw [out_two g, ← sp, sz_two g]
    rw [ep1, eq1] at hn
    have i := ih ha' hb' (by omega)
    have hin := i.ins; have hout := i.outs; have hed := i.ed; have hwo := i.wh
    rw [← kc, ← kdd]
    have e1 : inS (c :: a) = inN p + inS (chop c a n) := c2
    have e2 : outS (d :: b) = outN q + outS (chop d b n) := d3
    rcases hq with gq | gq
    · rw [if_pos gq, List.singleton_append]
      refine ⟨wh_cons pc.1 hwo, by rw [inS_cons, hin, e1], by rw [outS_cons, hout, e2, ep1, out_one gq, hqn], fun vs hv => ?_⟩
      rw [e1] at hv
      rw [c1, d1, ed_one gq]
      rcases hp with gp | gp
      · have hpn : p.n.toNat = n := by rw [sz_not (by omega)] at sp; exact sp
        rw [in_one gp, hpn] at hv
        have hl : (vs.take n).length = n := by rw [List.length_take]; omega
        rw [ed_one gp, ed_one gp, hpn, hqn, List.take_left' hl, List.drop_left' hl, hed _ (by rw [List.length_drop]; omega)]
      · have hpn : (cps p.text).length = n := by rw [sz_two gp] at sp; exact sp
        rw [in_two gp] at hv
        rw [ed_two gp, ed_two gp, hqn, List.take_left' hpn, List.drop_left' hpn, hed _ (by omega)]
    · rw [if_neg (by omega)]
      rcases hp with gp | gp
      · have hpn : p.n.toNat = n := by rw [sz_not (by omega)] at sp; exact sp
        rw [if_pos gp, List.singleton_append]
        refine ⟨wh_cons pd.1 hwo, by rw [inS_cons, hin, e1, eq1, in_one gp, hpn], by rw [outS_cons, hout, e2], fun vs hv => ?_⟩
        rw [e1, in_one gp, hpn] at hv
        have hl : (vs.take n).length = n := by rw [List.length_take]; omega
        rw [c1, d1, ed_three gq, ed_three gq, ed_one gp, hpn, hqn, List.drop_left' hl, hed _ (by rw [List.length_drop]; omega)]
      · have hpn : (cps p.text).length = n := by rw [sz_two gp] at sp; exact sp
        rw [if_neg (by omega), List.nil_append]
        refine ⟨hwo, by rw [hin, e1, in_two gp, Nat.zero_add], by rw [hout, e2, out_three gq, Nat.zero_add], fun vs hv => ?_⟩
        rw [e1, in_two gp] at hv
        rw [c1, d1, ed_three gq, ed_two gp, hqn, List.drop_left' hpn, hed _ (by omega)]
theorem Cmp.one {a b o : List CompV} (h : Cmp a b o) : ∀ {o' : List CompV}, Cmp a b o' → o = o' := by
  induction h with
  | nil => intro o' h'; cases h'; rfl
  | gone c a b o hk _ ih =>
    intro o' h'
    cases h' with
    | gone _ _ _ o2 _ g => rw [ih g]
    | puts _ _ _ _ g => exact absurd hk g
    | both _ _ _ _ _ _ g => exact absurd hk g
  | puts a d b o h3 hk _ ih =>
    intro o' h'
    cases h' with
    | gone _ _ _ o2 g => exact absurd g h3
    | puts _ _ _ _ _ _ g => rw [ih g]
    | both _ _ _ _ _ _ _ g => exact absurd hk g
  | both c a d b o n h3 h2 hmin _ ih =>
    intro o' h'
    cases h' with
    | gone _ _ _ o2 g => exact absurd g h3
    | puts _ _ _ _ _ g => exact absurd g h2
    | both _ _ _ _ _ m _ _ hm g => subst hmin; subst hm; rw [ih g]
end Go.Proofs.Ytnadhpajelkngaa

/- One edit behind another one, part by part, in plain mathematics: in either order they make one text. No condition. -/
namespace Go.Proofs.Ytnadhpajelkngaa

/-- One edit behind another one of the same text, part by part. -/
inductive Ov (f : Bool) : List CompV → List CompV → List CompV → Prop
  | nil : Ov f [] [] []
  | puts (c : CompV) (a b o : List CompV) : c.kind = 2 → (f = true ∨ kd b ≠ 2) → Ov f a b o → Ov f (c :: a) b (c :: o)
  | pass (a : List CompV) (d : CompV) (b o : List CompV) : ¬ (kd a = 2 ∧ f = true) → d.kind = 2 → Ov f a b o → Ov f a (d :: b) (⟨1, (sz d : Int), []⟩ :: o)
  | both (c : CompV) (a : List CompV) (d : CompV) (b o : List CompV) (n : Nat) : c.kind ≠ 2 → d.kind ≠ 2 → n = min (sz c) (sz d) → Ov f (chop c a n) (chop d b n) o →
      Ov f (c :: a) (d :: b) ((if d.kind = 1 then [piece c n] else []) ++ o)
theorem keep_wh {n : Nat} (h : 0 < n) : Wh ⟨1, (n : Int), []⟩ := .inl ⟨.inl rfl, by show (1 : Int) ≤ n; omega, rfl⟩
/-- What is so of two parts chopped alike. -/
structure Chopped (c d p q : CompV) (a b a' b' : List CompV) (n : Nat) : Prop where
  pos : 0 < n
  ea : ∀ vs, ed (c :: a) vs = ed (p :: a') vs
  eb : ∀ vs, ed (d :: b) vs = ed (q :: b') vs
  ia : inS (c :: a) = n + inS a'
  ib : inS (d :: b) = n + inS b'
  oa : outS (c :: a) = outN p + outS a'
  ob : outS (d :: b) = outN q + outS b'
  wa : ∀ x ∈ a', Wh x
  wb : ∀ x ∈ b', Wh x
  wp : Wh p
  wq : Wh q
  kp : p.kind = c.kind
  kq : q.kind = d.kind
  np : p.n.toNat = n
  nq : q.n.toNat = n
theorem chopped {c d : CompV} {a b : List CompV} {n : Nat} (hc2 : c.kind ≠ 2) (hd2 : d.kind ≠ 2) (hn : n = min (sz c) (sz d)) (ha : ∀ x ∈ c :: a, Wh x) (hb : ∀ x ∈ d :: b, Wh x) :
    Chopped c d (piece c n) (piece d n) a b (chop c a n) (chop d b n) n := by
  have wc := ha c (by simp)
  have wd := hb d (by simp)
  have hc0 := wc.sz; have hd0 := wd.sz
  obtain ⟨c1, c2, c3, c4⟩ := chop_ed wc a (n := n) (by omega) (by omega)
  obtain ⟨d1, d2, d3, d4⟩ := chop_ed wd b (n := n) (by omega) (by omega)
  have pc := piece_wh wc (n := n) (by omega) (by omega)
  have pd := piece_wh wd (n := n) (by omega) (by omega)
  have kc := piece_kind c n
  have kq := piece_kind d n
  have np : (piece c n).n.toNat = n := by have := pc.2; rwa [sz_not (by omega)] at this
  have nq : (piece d n).n.toNat = n := by have := pd.2; rwa [sz_not (by omega)] at this
  have ip : inN (piece c n) = n := by rw [inN, if_neg (by omega), np]
  have iq : inN (piece d n) = n := by rw [inN, if_neg (by omega), nq]
  rw [ip] at c2
  rw [iq] at d2
  exact ⟨by omega, c1, d1, c2, d2, c3, d3, c4 fun x hx => ha x (List.mem_cons_of_mem _ hx), d4 fun x hx => hb x (List.mem_cons_of_mem _ hx), pc.1, pd.1, kc, kq, np, nq⟩
theorem Wh.kind13 {c : CompV} (h : Wh c) (h2 : c.kind ≠ 2) : c.kind = 1 ∨ c.kind = 3 := by
  rcases h.cases with g | g | g <;> omega
theorem Ov.wh {f : Bool} {a b o : List CompV} (h : Ov f a b o) : (∀ x ∈ a, Wh x) → (∀ x ∈ b, Wh x) → inS a = inS b → (∀ x ∈ o, Wh x) ∧ inS o = outS b := by
  induction h with
  | nil => exact fun _ _ _ => ⟨fun x hx => (by cases hx), by rw [inS_nil, outS_nil]⟩
  | puts c a b o hk _ _ ih =>
    intro ha hb hn
    rw [inS_cons, in_two hk, Nat.zero_add] at hn
    have i := ih (fun x hx => ha x (List.mem_cons_of_mem _ hx)) hb hn
    exact ⟨wh_cons (ha c (by simp)) i.1, by rw [inS_cons, in_two hk, i.2, Nat.zero_add]⟩
  | pass a d b o _ hk _ ih =>
    intro ha hb hn
    rw [inS_cons, in_two hk, Nat.zero_add] at hn
    have i := ih ha (fun x hx => hb x (List.mem_cons_of_mem _ hx)) hn
    exact ⟨wh_cons (keep_wh (hb d (by simp)).sz) i.1, by rw [inS_cons, in_one rfl, i.2, outS_cons, out_two hk, ← sz_two hk]; rfl⟩
  | both c a d b o n h1 h2 hmin _ ih =>
    intro ha hb hn
    have k := chopped (a := a) (b := b) h1 h2 hmin ha hb
    have hia := k.ia; have hib := k.ib
    have i := ih k.wa k.wb (by omega)
    have hob := k.ob
    by_cases hd : d.kind = 1
    · rw [if_pos hd, List.singleton_append]
      have e1 : outN (piece d n) = n := by rw [out_one (by rw [k.kq]; exact hd), k.nq]
      exact ⟨wh_cons k.wp i.1, by rw [inS_cons, i.2, hob, e1, inN, if_neg (by rw [k.kp]; exact h1), k.np]⟩
    · rw [if_neg hd, List.nil_append]
      have hd3 : d.kind = 3 := by rcases (hb d (by simp)).kind13 h2 with g | g <;> omega
      have e1 : outN (piece d n) = 0 := out_three (by rw [k.kq]; exact hd3)
      exact ⟨i.1, by rw [i.2, hob, e1, Nat.zero_add]⟩
theorem Ov.meets {f : Bool} {a b p : List CompV} (h : Ov f a b p) : ∀ {q : List CompV}, Ov (!f) b a q → (∀ x ∈ a, Wh x) → (∀ x ∈ b, Wh x) → inS a = inS b → ∀ vs : List Nat, vs.length = inS a → ed p (ed b vs) = ed q (ed a vs) := by
  induction h with
  | nil =>
    intro q hq _ _ _ vs _
    cases hq
    rfl
  | puts c a b o hk hf _ ih =>
    intro q hq ha hb hn vs hv
    rw [inS_cons, in_two hk, Nat.zero_add] at hn hv
    have ha' := fun x hx => ha x (List.mem_cons_of_mem _ hx)
    have hz : (cps c.text).length = sz c := (sz_two hk).symm
    cases hq with
    | puts d _ _ _ g gf _ =>
      exfalso
      rcases gf with gf | gf
      · rcases hf with hf | hf
        · rw [hf] at gf; cases gf
        · exact hf g
      · exact gf hk
    | pass _ _ _ o2 g g2 hq =>
      rw [ed_two hk, ed_two hk, ed_one rfl]
      simp only [Int.toNat_natCast]
      rw [← hz, List.take_left' rfl, List.drop_left' rfl, ih hq ha' hb hn vs hv]
    | both _ _ _ _ _ _ _ g => exact absurd hk g
  | pass a d b o hf hk _ ih =>
    intro q hq ha hb hn vs hv
    rw [inS_cons, in_two hk, Nat.zero_add] at hn
    have hb' := fun x hx => hb x (List.mem_cons_of_mem _ hx)
    have hz : (cps d.text).length = sz d := (sz_two hk).symm
    cases hq with
    | puts _ _ _ o2 g gf hq =>
      rw [ed_two hk, ed_two hk, ed_one rfl]
      simp only [Int.toNat_natCast]
      rw [← hz, List.take_left' rfl, List.drop_left' rfl, ih hq ha hb' hn vs hv]
    | pass _ c _ _ g g2 _ =>
      exfalso
      have : ¬ (f = true) := fun e => hf ⟨g2, e⟩
      refine g ⟨hk, ?_⟩
      cases f
      · rfl
      · exact absurd rfl this
    | both _ _ _ _ _ _ g => exact absurd hk g
  | both c a d b o n h1 h2 hmin _ ih =>
    intro q hq ha hb hn vs hv
    have k := chopped (a := a) (b := b) h1 h2 hmin ha hb
    have hia := k.ia; have hib := k.ib; have hnp := k.np; have hnq := k.nq; have hkp := k.kp; have hkq := k.kq; have h0 := k.pos
    have hc13 := (ha c (by simp)).kind13 h1
    have hd13 := (hb d (by simp)).kind13 h2
    cases hq with
    | puts _ _ _ _ g => exact absurd g h2
    | pass _ _ _ _ _ g => exact absurd g h1
    | both _ _ _ _ o2 m _ _ hm hq =>
      have hmn : m = n := by omega
      subst hmn
      have e := fun vs hv => ih hq k.wa k.wb (by omega) vs hv
      rw [k.ea, k.eb]
      have hl : (vs.take m).length = m := by rw [List.length_take]; omega
      have e' := e (vs.drop m) (by rw [List.length_drop]; omega)
      generalize piece c m = p at *
      generalize piece d m = q at *
      rcases hc13 with gc | gc <;> rcases hd13 with gd | gd
      · rw [if_pos gd, if_pos gc, List.singleton_append, List.singleton_append, ed_one (hkp.trans gc), ed_one (hkq.trans gd), ed_one (hkp.trans gc), ed_one (hkq.trans gd), hnp, hnq, List.take_left' hl, List.drop_left' hl, List.take_left' hl, List.drop_left' hl, e']
      · rw [if_neg (by omega), if_pos gc, List.nil_append, List.singleton_append, ed_three (hkq.trans gd), ed_one (hkp.trans gc), ed_three (hkq.trans gd), hnp, hnq, List.drop_left' hl, e']
      · rw [if_pos gd, if_neg (by omega), List.nil_append, List.singleton_append, ed_three (hkp.trans gc), ed_one (hkq.trans gd), ed_three (hkp.trans gc), hnp, hnq, List.drop_left' hl, e']
      · rw [if_neg (by omega), if_neg (by omega), List.nil_append, List.nil_append, ed_three (hkp.trans gc), ed_three (hkq.trans gd), hnp, hnq, e']
theorem Ov.one {f : Bool} {a b o : List CompV} (h : Ov f a b o) : ∀ {o' : List CompV}, Ov f a b o' → o = o' := by
  induction h with
  | nil => intro o' h'; cases h'; rfl
  | puts c a b o hk hf _ ih =>
    intro o' h'
    cases h' with
    | puts _ _ _ o2 _ _ g => rw [ih g]
    | pass _ _ _ _ g g2 =>
      exfalso
      rcases hf with hf | hf
      · exact g ⟨hk, hf⟩
      · exact hf g2
    | both _ _ _ _ _ _ g => exact absurd hk g
  | pass a d b o hf hk _ ih =>
    intro o' h'
    cases h' with
    | puts _ _ _ o2 g gf =>
      exfalso
      rcases gf with gf | gf
      · exact hf ⟨g, gf⟩
      · exact gf hk
    | pass _ _ _ _ _ _ g => rw [ih g]
    | both _ _ _ _ _ _ _ g => exact absurd hk g
  | both c a d b o n h1 h2 hmin _ ih =>
    intro o' h'
    cases h' with
    | puts _ _ _ o2 g => exact absurd g h1
    | pass _ _ _ _ _ g => exact absurd g h2
    | both _ _ _ _ _ m _ _ hm g => subst hmin; subst hm; rw [ih g]
end Go.Proofs.Ytnadhpajelkngaa

/- Two edits as one, one behind another, and a row of them as one, as functions. No condition. -/
namespace Go.Proofs.Ytnadhpajelkngaa

/-- The parts of two edits as one. -/
noncomputable def cmpOf (a b : List CompV) : List CompV := @dite _ (∃ o, Cmp a b o) (Classical.propDecidable _) (fun h => Classical.choose h) (fun _ => [])
theorem cmpOf_is {a b o : List CompV} (h : Cmp a b o) : cmpOf a b = o := by
  unfold cmpOf
  rw [dif_pos ⟨o, h⟩]
  exact Cmp.one (Classical.choose_spec (⟨o, h⟩ : ∃ o, Cmp a b o)) h
noncomputable def ovOf (f : Bool) (a b : List CompV) : List CompV := @dite _ (∃ o, Ov f a b o) (Classical.propDecidable _) (fun h => Classical.choose h) (fun _ => [])
theorem ovOf_is {f : Bool} {a b o : List CompV} (h : Ov f a b o) : ovOf f a b = o := by
  unfold ovOf
  rw [dif_pos ⟨o, h⟩]
  exact Ov.one (Classical.choose_spec (⟨o, h⟩ : ∃ o, Ov f a b o)) h
/-- Two edits as one: the edit and the error. -/
noncomputable def rTwo (a b : List CompV) : List CompV × Nat :=
  if rCheck a ≠ 0 then ([], rCheck a) else if rCheck b ≠ 0 then ([], rCheck b) else if rOut a ≠ rBase b then ([], 11) else (rNormal (cmpOf a b), 0)
/-- One edit behind another one: the edit and the error. -/
noncomputable def rOver (f : Bool) (a b : List CompV) : List CompV × Nat :=
  if rCheck a ≠ 0 then ([], rCheck a) else if rCheck b ≠ 0 then ([], rCheck b) else if rBase a ≠ rBase b then ([], 11) else (rNormal (ovOf f a b), 0)
/-- A row of edits as one. -/
noncomputable def rAllStep (s : List CompV × Nat) (x : List CompV) : List CompV × Nat := if s.2 ≠ 0 then s else rTwo s.1 x
noncomputable def rAll (s : List CompV × Nat) (l : List (List CompV)) : List CompV × Nat := l.foldl rAllStep s
theorem rAll_snoc (s : List CompV × Nat) (l : List (List CompV)) (x : List CompV) : rAll s (l ++ [x]) = rAllStep (rAll s l) x := by rw [rAll, List.foldl_append]; rfl
theorem rAll_nil (s : List CompV × Nat) : rAll s [] = s := rfl
theorem rAll_append (s : List CompV × Nat) (a b : List (List CompV)) : rAll s (a ++ b) = rAll (rAll s a) b := by rw [rAll, List.foldl_append]; rfl
theorem rTwo_off {a b : List CompV} (h : (rTwo a b).2 ≠ 0) : (rTwo a b).1 = [] := by
  unfold rTwo at h ⊢
  split
  · rfl
  · split
    · rfl
    · split
      · rfl
      · rename_i h1 h2 h3
        rw [if_neg h1, if_neg h2, if_neg h3] at h
        exact absurd rfl h
theorem rOver_off {f : Bool} {a b : List CompV} (h : (rOver f a b).2 ≠ 0) : (rOver f a b).1 = [] := by
  unfold rOver at h ⊢
  split
  · rfl
  · split
    · rfl
    · split
      · rfl
      · rename_i h1 h2 h3
        rw [if_neg h1, if_neg h2, if_neg h3] at h
        exact absurd rfl h
theorem rAll_off {s : List CompV × Nat} (h : s.2 ≠ 0) : ∀ l, rAll s l = s
  | [] => rfl
  | x :: l => by
    show rAll (rAllStep s x) l = s
    rw [show rAllStep s x = s from if_pos h]
    exact rAll_off h l
/-- What two edits as one are. -/
theorem rTwo_yes {a b o : List CompV} (ha : rCheck a = 0) (hb : rCheck b = 0) (he : rOut a = rBase b) (h : Cmp a b o) : rTwo a b = (rNormal o, 0) := by
  rw [rTwo, if_neg (by omega), if_neg (by omega), if_neg (by omega), cmpOf_is h]
theorem rOver_yes {f : Bool} {a b o : List CompV} (ha : rCheck a = 0) (hb : rCheck b = 0) (he : rBase a = rBase b) (h : Ov f a b o) : rOver f a b = (rNormal o, 0) := by
  rw [rOver, if_neg (by omega), if_neg (by omega), if_neg (by omega), ovOf_is h]
theorem rAll_cons (s : List CompV × Nat) (x : List CompV) (l : List (List CompV)) : rAll s (x :: l) = rAll (rAllStep s x) l := rfl
attribute [irreducible] cmpOf ovOf rTwo rOver rAll
end Go.Proofs.Ytnadhpajelkngaa

/- What memory may hold of an edit that was checked. No condition beyond those that each lemma states. -/
namespace Go.Proofs.Ytnadhpajelkngaa
open Go.RowKit Go.Deep
/-- What memory may hold of what was made of checked edits. -/
structure Held1 (l : List CompV) : Prop where
  good : ∀ y ∈ l, y.Good
  len : l.length ≤ 1073741824
  text : tlen l ≤ 1073741824
theorem Held1.fine {l : List CompV} (h : Held1 l) : Fine1 l := fun y hy => ⟨h.good y hy, by have := tlen_mem hy; have := h.text; omega⟩
theorem held_nil : Held1 [] := ⟨fun y hy => (by cases hy), Nat.zero_le _, Nat.zero_le _⟩
theorem Held1.max {l : List CompV} (h : Held1 l) : l.length ≤ maxLen := by have := h.len; unfold maxLen; omega
theorem held_of {l : List CompV} (hg : ∀ y ∈ l, y.Good) {k : Nat} (h : 2 * l.length + tlen l ≤ k) (hk : k ≤ 1073741824) : Held1 l := ⟨hg, by omega, by omega⟩
end Go.Proofs.Ytnadhpajelkngaa
