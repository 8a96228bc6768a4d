/- The document's own Name. Condition: no more than 2^40 bytes. (Merged of 6 texts.) -/
import Derived.Test.YtjpjdkdbgjipnaaDoorU37
import Derived.Test.YtjpjdkdbgjipnaaDoorU24
import Derived.Laws.Rows
import Derived.Lib.AppendStr
namespace Go.Proofs.YtjpjdkdbgjipnaaDoor
structure NS where
 out : List CompV
 keep : Int
 gone : Int
 text : List Nat
def keepOf (n : Int) : List CompV := if 0 < n then [⟨1, n, []⟩] else []
def textOf (t : List Nat) : List CompV := if t = [] then [] else [⟨2, 0, t⟩]
def goneOf (n : Int) : List CompV := if 0 < n then [⟨3, n, []⟩] else []
def NS.flush (s : NS) : List CompV := s.out ++ keepOf s.keep ++ textOf s.text ++ goneOf s.gone
def nStep (s : NS) (c : CompV) : NS :=
 if c.kind = 2 then { s with text := s.text ++ c.text } else if c.kind = 3 then { s with gone := hld s.gone c.n } else if c.kind ≠ 1 ∨ c.n < 1 then s
 else if s.text ≠ [] ∨ 0 < s.gone then ⟨s.flush, hld 0 c.n, 0, []⟩ else { s with keep := hld s.keep c.n }
def nStart : NS := ⟨[], 0, 0, []⟩
def nRun (l : List CompV) : NS := l.foldl nStep nStart
def yy38 (l : List CompV) : List CompV := (nRun l).flush
theorem yy325 (l : List CompV) (c : CompV) : nRun (l ++ [c]) = nStep (nRun l) c := by rw [nRun, List.foldl_append]; rfl
structure NS.Fit (s : NS) (n m : Nat) : Prop where
 keep0 : 0 ≤ s.keep
 keep1 : s.keep ≤ 1099511627776
 gone0 : 0 ≤ s.gone
 gone1 : s.gone ≤ 1099511627776
 out : s.out.length ≤ n
 text : s.text.length ≤ m
theorem yy255 (s : NS) : s.flush.length ≤ s.out.length + 3 := by
 unfold NS.flush keepOf textOf goneOf
 simp only [List.length_append]
 split <;> split <;> split <;> simp <;> omega
theorem yy674 {s : NS} {n m : Nat} (h : s.Fit n m) (c : CompV) : (nStep s c).Fit (n + 3) (m + c.text.length) := by
 have h1 := h.keep0; have h2 := h.keep1; have h3 := h.gone0; have h4 := h.gone1; have h5 := h.out; have h6 := h.text
 have hf := yy255 s
 unfold nStep
 split
 ·exact ⟨h1, h2, h3, h4, by show s.out.length ≤ _; omega, by show (s.text ++ c.text).length ≤ _; rw [List.length_append]; omega⟩
 ·split
  ·exact ⟨h1, h2, yy129 _ _, yy182 _ _, by show s.out.length ≤ _; omega, by show s.text.length ≤ _; omega⟩
  ·split
   ·exact ⟨h1, h2, h3, h4, by omega, by omega⟩
   ·split
    ·exact ⟨yy129 _ _, yy182 _ _, Int.le_refl _, by show (0 : Int) ≤ _; omega, by show s.flush.length ≤ _; omega, Nat.zero_le _⟩
    ·exact ⟨yy129 _ _, yy182 _ _, h3, h4, by show s.out.length ≤ _; omega, by show s.text.length ≤ _; omega⟩
def tlen (l : List CompV) : Nat := (l.flatMap CompV.text).length
theorem yy746 (l : List CompV) : (nRun l).Fit (3 * l.length) (tlen l) := by
 have : ∀ (l : List CompV) (s : NS) (n m : Nat), s.Fit n m → (l.foldl nStep s).Fit (n + 3 * l.length) (m + tlen l) := by
  intro l
  induction l with
  | nil => intro s n m h; simpa [tlen] using h
  | cons c l ih =>
   intro s n m h
   rw [List.foldl_cons]
   have := ih (nStep s c) _ _ (yy674 h c)
   rw [show tlen (c :: l) = c.text.length + tlen l by simp [tlen], List.length_cons]
   rwa [show n + 3 * (l.length + 1) = n + 3 + 3 * l.length by omega, ← Nat.add_assoc]
 have h := this l nStart 0 0 ⟨Int.le_refl _, by show (0 : Int) ≤ _; omega, Int.le_refl _, by show (0 : Int) ≤ _; omega, Nat.zero_le _, Nat.zero_le _⟩
 rw [Nat.zero_add, Nat.zero_add] at h
 exact h
theorem yy93 (a b : List CompV) : tlen (a ++ b) = tlen a + tlen b := by rw [tlen, List.flatMap_append, List.length_append]; rfl
theorem yy326 (l : List CompV) (k : Nat) : tlen (l.take k) ≤ tlen l := by
 have e := congrArg tlen (List.take_append_drop k l)
 have := yy93 (l.take k) (l.drop k)
 omega
theorem yy413 {l : List CompV} {k : Nat} (h : k < l.length) : tlen (l.take k) + l[k].text.length ≤ tlen l := by
 have h1 := yy326 l (k + 1)
 rw [List.take_succ_eq_append_getElem h] at h1
 have h2 := yy93 (l.take k) [l[k]]
 have : tlen [l[k]] = l[k].text.length := by simp [tlen]
 omega
theorem yy327 {l : List CompV} {y : CompV} (h : y ∈ l) : y.text.length ≤ tlen l := by
 obtain ⟨i, hi, rfl⟩ := List.getElem_of_mem h
 have := yy413 hi
 omega
theorem yy130 {l : List CompV} (h : rCheck l = 0) : l.length ≤ 100 ∧ Nrm l ∧ rBase l ≤ 2000 ∧ rOut l ≤ 2000 := by
 unfold rCheck at h
 by_cases h1 : 100 < l.length
 ·rw [if_pos h1] at h; omega
 ·rw [if_neg h1] at h
  by_cases h2 : nrmB l = false
  ·rw [if_pos h2] at h; omega
  ·rw [if_neg h2] at h
   by_cases h3 : 2000 < rBase l ∨ 2000 < rOut l
   ·rw [if_pos h3] at h; omega
   ·refine ⟨by omega, Classical.byContradiction fun g => h2 (yy571 g), by omega, by omega⟩
def Fair (c : CompV) : Prop := ((c.kind = 1 ∨ c.kind = 3) ∧ 1 ≤ c.n) ∨ c.kind = 2
theorem Nrm.fair {l : List CompV} (h : Nrm l) : ∀ c ∈ l, Fair c := fun c hc => by
 obtain ⟨i, hi, rfl⟩ := List.getElem_of_mem hc
 rcases (h i _ (List.getElem?_eq_getElem hi)).1 with g | g
 ·exact .inl ⟨g.1, g.2.1⟩
 ·exact .inr g.1
def yy101 (m : Int) (c : CompV) : Int := if c.kind = 2 then m else m + c.n
def sumT (l : List CompV) : Int := l.foldl yy101 0
theorem yy256 : ∀ (l : List CompV) (n m : Int), 0 ≤ m → n = min m 1099511627776 → (∀ c ∈ l, Fair c) →
  l.foldl yy45 n = min (l.foldl yy101 m) 1099511627776 ∧ m ≤ l.foldl yy101 m
 | [], n, m, h0, h, _ => ⟨h, Int.le_refl _⟩
 | c :: l, n, m, h0, h, hf => by
  rw [List.foldl_cons, List.foldl_cons]
  have hc := hf c (by simp)
  have hl := fun x hx => hf x (List.mem_cons_of_mem _ hx)
  rcases hc with ⟨hk, hn⟩ | hk
  ·rw [show yy45 n c = hld n c.n from if_pos hk, show yy101 m c = m + c.n from if_neg (by omega)]
   have := yy256 l (hld n c.n) (m + c.n) (by omega) (by unfold hld; omega) hl
   exact ⟨this.1, by have := this.2; omega⟩
  ·rw [show yy45 n c = n from if_neg (by omega), show yy101 m c = m from if_pos hk]
   exact yy256 l n m h0 h hl
theorem yy572 {l : List CompV} (hf : ∀ c ∈ l, Fair c) (k : Nat) : 0 ≤ sumT (l.take k) ∧ sumT (l.take k) ≤ sumT l := by
 have h1 := (yy256 (l.take k) 0 0 (Int.le_refl _) (by omega) fun c hc => hf c (List.mem_of_mem_take hc)).2
 have h2 := (yy256 (l.drop k) (min (sumT (l.take k)) 1099511627776) (sumT (l.take k)) h1 rfl fun c hc => hf c (List.mem_of_mem_drop hc)).2
 have h3 : l.foldl yy101 0 = (l.drop k).foldl yy101 ((l.take k).foldl yy101 0) := by rw [← List.foldl_append, List.take_append_drop]
 refine ⟨h1, ?_⟩
 show _ ≤ l.foldl yy101 0
 rw [h3]
 exact h2
theorem yy779 {l : List CompV} (hf : ∀ c ∈ l, Fair c) (hb : rBase l ≤ 2000) : sumT l = rBase l := by
 have := (yy256 l 0 0 (Int.le_refl _) (by omega) hf).1
 show l.foldl yy101 0 = l.foldl yy45 0
 have hb' : l.foldl yy45 0 ≤ 2000 := hb
 omega
theorem yy780 (l : List CompV) (c : CompV) : sumT (l ++ [c]) = yy101 (sumT l) c := by rw [sumT, List.foldl_append]; rfl
def doStep (vs : List Nat) (s : Int × List Nat) (c : CompV) : Int × List Nat :=
 if c.kind = 1 then (s.1 + c.n, s.2 ++ E ((vs.take (s.1 + c.n).toNat).drop s.1.toNat)) else if c.kind = 2 then (s.1, s.2 ++ c.text) else (s.1 + c.n, s.2)
def doRun (vs : List Nat) (l : List CompV) : Int × List Nat := l.foldl (doStep vs) (0, [])
theorem yy573 (vs : List Nat) (l : List CompV) (c : CompV) : doRun vs (l ++ [c]) = doStep vs (doRun vs l) c := by rw [doRun, List.foldl_append]; rfl
theorem yy781 (vs : List Nat) (l : List CompV) : (doRun vs l).1 = sumT l := by
 have : ∀ (l : List CompV) (s : Int × List Nat), (l.foldl (doStep vs) s).1 = l.foldl yy101 s.1 := by
  intro l
  induction l with
  | nil => intro s; rfl
  | cons c l ih =>
   intro s
   rw [List.foldl_cons, List.foldl_cons, ih]
   congr 1
   unfold doStep yy101
   split
   ·next h => rw [if_neg (by omega)]
   ·split <;> rfl
 exact this l (0, [])
theorem yy471 (vs : List Nat) (a b : Nat) : (E ((vs.take b).drop a)).length ≤ (E vs).length := by
 have h1 := congrArg (fun l => (E l).length) (List.take_append_drop b vs)
 have h2 := congrArg (fun l => (E l).length) (List.take_append_drop a (vs.take b))
 simp only [yy116, List.length_append] at h1 h2
 omega
theorem yy675 (vs : List Nat) (hv : (E vs).length ≤ 1073741824) (l : List CompV) : (doRun vs l).2.length ≤ l.length * 1073741824 + tlen l := by
 have : ∀ (l : List CompV) (s : Int × List Nat), (l.foldl (doStep vs) s).2.length ≤ s.2.length + l.length * 1073741824 + tlen l := by
  intro l
  induction l with
  | nil => intro s; simp [tlen]
  | cons c l ih =>
   intro s
   rw [List.foldl_cons]
   refine Nat.le_trans (ih _) ?_
   have ht : tlen (c :: l) = c.text.length + tlen l := by simp [tlen]
   have hs : (doStep vs s c).2.length ≤ s.2.length + 1073741824 + c.text.length := by
    unfold doStep
    split
    ·have := yy471 vs s.1.toNat (s.1 + c.n).toNat
     simp only [List.length_append]
     omega
    ·split
     ·simp only [List.length_append]; omega
     ·simp only; omega
   rw [ht, List.length_cons]
   omega
 have := this l (0, [])
 show (l.foldl (doStep vs) (0, [])).2.length ≤ _
 simpa using this
def lastK (p : List CompV) : Int := match p.getLast? with | some c => c.kind | none => 0
theorem yy472 : lastK [] = 0 := rfl
theorem yy184 (p : List CompV) (c : CompV) : lastK (p ++ [c]) = c.kind := by simp [lastK]
def Part0 (c : CompV) : Prop := ((c.kind = 1 ∨ c.kind = 3) ∧ 1 ≤ c.n ∧ c.text = []) ∨ (c.kind = 2 ∧ c.n = 0 ∧ c.text ≠ [])
inductive Nm : List CompV → Prop
 | nil : Nm []
 | snoc (p : List CompV) (c : CompV) : Nm p → Part0 c → lastK p ≠ c.kind → ¬ (lastK p = 3 ∧ c.kind = 2) → Nm (p ++ [c])
theorem yy676 {l : List CompV} (h : Nm l) : (∀ y ∈ l, y.kind = 2 → ∃ vs, V y.text vs) → Nrm l := by
 induction h with
 | nil => intro _ i c h; simp at h
 | snoc p c hp hc h1 h2 ih =>
  intro hv i d hd
  have ihp := ih (fun y hy => hv y (List.mem_append_left _ hy))
  have hpre : ∀ j q, j ≤ p.length → 0 < j → (p ++ [c])[j - 1]? = some q → p[j - 1]? = some q := fun j q hj h0 hq => by
   rwa [List.getElem?_append_left (by omega)] at hq
  rcases Nat.lt_or_ge i p.length with hi | hi
  ·rw [List.getElem?_append_left hi] at hd
   have hn := ihp i d hd
   refine ⟨?_, fun q h0 hq => hn.2 q h0 (hpre i q (by omega) h0 hq)⟩
   rcases hn.1 with h | ⟨g1, g2, g3, g4, g5⟩
   ·exact .inl h
   ·exact .inr ⟨g1, g2, g3, g4, fun q h0 hq => g5 q h0 (hpre i q (by omega) h0 hq)⟩
  ·have hi2 : i = p.length := by
    have := (List.getElem?_eq_some_iff.1 hd).1
    rw [List.length_append] at this
    simp at this
    omega
   subst hi2
   have hdc : d = c := by simpa using hd.symm
   subst hdc
   have hq : ∀ q, 0 < p.length → (p ++ [d])[p.length - 1]? = some q → q.kind = lastK p := fun q h0 hq => by
    have e := hpre _ q (Nat.le_refl _) h0 hq
    rw [← List.getLast?_eq_getElem?] at e
    rw [lastK, e]
   refine ⟨?_, fun q h0 e => by rw [hq q h0 e]; exact h1⟩
   rcases hc with h | ⟨g1, g2, g3⟩
   ·exact .inl h
   ·exact .inr ⟨g1, g2, g3, hv d (by simp) g1, fun q h0 e g => h2 ⟨by rw [← hq q h0 e]; exact g, g1⟩⟩
structure NInv (s : NS) : Prop where
 nm : Nm s.out
 keep : s.out ≠ [] → 0 < s.keep
 last : s.out ≠ [] → lastK s.out ≠ 1
 keep0 : 0 ≤ s.keep
 keep1 : s.keep ≤ 1099511627776
 gone0 : 0 ≤ s.gone
 gone1 : s.gone ≤ 1099511627776
 top : ∀ y ∈ s.out, y.n ≤ 1099511627776
theorem NInv.start : NInv nStart := ⟨.nil, fun h => absurd rfl h, fun h => absurd rfl h, Int.le_refl _, by show (0 : Int) ≤ _; omega, Int.le_refl _, by show (0 : Int) ≤ _; omega, fun y hy => by cases hy⟩
theorem NInv.kept {s : NS} (h : NInv s) : Nm (s.out ++ keepOf s.keep) ∧ (lastK (s.out ++ keepOf s.keep) = 0 ∨ lastK (s.out ++ keepOf s.keep) = 1) := by
 by_cases hk : 0 < s.keep
 ·rw [keepOf, if_pos hk]
  refine ⟨.snoc _ _ h.nm (.inl ⟨.inl rfl, by show 1 ≤ s.keep; omega, rfl⟩) ?_ (fun e => by simp at e), .inr (yy184 _ _)⟩
  by_cases ho : s.out = []
  ·rw [ho, yy472]; show (0 : Int) ≠ 1; omega
  ·exact h.last ho
 ·have ho : s.out = [] := by
   by_cases ho : s.out = []
   ·exact ho
   ·exact absurd (h.keep ho) hk
  rw [keepOf, if_neg hk, ho]
  exact ⟨.nil, .inl rfl⟩
theorem NInv.texted {s : NS} (h : NInv s) : Nm (s.out ++ keepOf s.keep ++ textOf s.text) ∧ lastK (s.out ++ keepOf s.keep ++ textOf s.text) ≠ 3 ∧ (s.text ≠ [] → lastK (s.out ++ keepOf s.keep ++ textOf s.text) = 2) := by
 obtain ⟨h1, h2⟩ := h.kept
 by_cases ht : s.text = []
 ·rw [textOf, if_pos ht, List.append_nil]
  exact ⟨h1, by omega, fun e => absurd ht e⟩
 ·rw [textOf, if_neg ht, yy184]
  exact ⟨.snoc _ _ h1 (.inr ⟨rfl, rfl, ht⟩) (by show _ ≠ (2 : Int); omega) (fun e => by omega), by show (2 : Int) ≠ 3; omega, fun _ => rfl⟩
theorem NInv.flush {s : NS} (h : NInv s) : Nm s.flush ∧ (s.text ≠ [] ∨ 0 < s.gone → s.flush ≠ [] ∧ lastK s.flush ≠ 1) := by
 obtain ⟨h1, h2, h3⟩ := h.texted
 rw [NS.flush]
 by_cases hg : 0 < s.gone
 ·rw [goneOf, if_pos hg]
  exact ⟨.snoc _ _ h1 (.inl ⟨.inr rfl, by show 1 ≤ s.gone; omega, rfl⟩) h2 (fun e => by simp at e), fun _ => ⟨by simp, by rw [yy184]; show (3 : Int) ≠ 1; omega⟩⟩
 ·rw [goneOf, if_neg hg, List.append_nil]
  refine ⟨h1, fun e => ?_⟩
  have ht : s.text ≠ [] := e.elim (fun h => h) (fun h => absurd h hg)
  have h4 := h3 ht
  refine ⟨fun e => ?_, by omega⟩
  rw [e, yy472] at h4
  omega
theorem yy677 {s : NS} (h : NInv s) : ∀ y ∈ s.flush, y.n ≤ 1099511627776 := by
 intro y hy
 have h1 := h.keep1
 have h2 := h.gone1
 unfold NS.flush keepOf textOf goneOf at hy
 simp only [List.mem_append] at hy
 rcases hy with ((hy | hy) | hy) | hy
 ·exact h.top y hy
 ·split at hy
  ·rw [List.mem_singleton.1 hy]; exact h1
  ·cases hy
 ·split at hy
  ·cases hy
  ·rw [List.mem_singleton.1 hy]; show (0 : Int) ≤ _; omega
 ·split at hy
  ·rw [List.mem_singleton.1 hy]; exact h2
  ·cases hy
theorem NInv.step {s : NS} (h : NInv s) (c : CompV) : NInv (nStep s c) := by
 unfold nStep
 split
 ·exact ⟨h.nm, h.keep, h.last, h.keep0, h.keep1, h.gone0, h.gone1, h.top⟩
 ·split
  ·exact ⟨h.nm, h.keep, h.last, h.keep0, h.keep1, yy129 _ _, yy182 _ _, h.top⟩
  ·split
   ·exact h
   ·rename_i hn
    have hpos : ∀ a : Int, 0 < hld a c.n := fun a => by
     have : ¬ c.n < 1 := fun e => hn (.inr e)
     unfold hld
     omega
    split
    ·rename_i ht
     have hf := h.flush
     exact ⟨hf.1, fun _ => hpos 0, (hf.2 ht).2 |> fun e _ => e, yy129 _ _, yy182 _ _, Int.le_refl _, by show (0 : Int) ≤ _; omega, yy677 h⟩
    ·exact ⟨h.nm, fun _ => hpos s.keep, h.last, yy129 _ _, yy182 _ _, h.gone0, h.gone1, h.top⟩
theorem yy574 (l : List CompV) : NInv (nRun l) := by
 have : ∀ (l : List CompV) (s : NS), NInv s → NInv (l.foldl nStep s) := by
  intro l
  induction l with
  | nil => intro s h; exact h
  | cons c l ih => intro s h; exact ih _ (h.step c)
 exact this l _ .start
theorem yy847 (l : List CompV) : Nm (yy38 l) := (yy574 l).flush.1
def bOf (c : CompV) : Int := if c.kind = 1 ∨ c.kind = 3 then max c.n 0 else 0
def uOf (c : CompV) : Int := if c.kind = 1 then max c.n 0 else if c.kind = 2 then (loose c.text : Int) else 0
def nOf (c : CompV) : Int := max c.n 0
def sumB (l : List CompV) : Int := (l.map bOf).sum
def sumU (l : List CompV) : Int := (l.map uOf).sum
theorem yy747 (c : CompV) : 0 ≤ bOf c ∧ bOf c ≤ nOf c := by unfold bOf nOf; split <;> omega
theorem yy748 (c : CompV) : 0 ≤ uOf c ∧ uOf c ≤ nOf c + c.text.length := by
 have := yy167 c.text
 unfold uOf nOf
 split
 ·omega
 ·split <;> omega
theorem yy782 (l : List CompV) : 0 ≤ sumB l := by
 induction l with
 | nil => exact Int.le_refl _
 | cons c l ih => have := yy747 c; have h : sumB (c :: l) = bOf c + sumB l := by simp [sumB]
                  omega
theorem yy783 (l : List CompV) : 0 ≤ sumU l := by
 induction l with
 | nil => exact Int.le_refl _
 | cons c l ih => have := yy748 c; have h : sumU (c :: l) = uOf c + sumU l := by simp [sumU]
                  omega
theorem yy784 (l : List CompV) : rBase l = min (sumB l) 1099511627776 := by
 have : ∀ (l : List CompV) (n : Int), 0 ≤ n → n ≤ 1099511627776 → l.foldl yy45 n = min (n + sumB l) 1099511627776 := by
  intro l
  induction l with
  | nil => intro n h1 h2; show n = min (n + 0) _; omega
  | cons c l ih =>
   intro n h1 h2
   have e : sumB (c :: l) = bOf c + sumB l := by simp [sumB]
   have hp := yy782 l
   have e2 : yy45 n c = min (n + bOf c) 1099511627776 := by
    unfold yy45 bOf
    split
    ·unfold hld; omega
    ·omega
   have hb := yy747 c
   rw [List.foldl_cons, e, e2, ih _ (by omega) (by omega)]
   omega
 have h := this l 0 (by omega) (by omega)
 rwa [Int.zero_add] at h
theorem yy848 (l : List CompV) : rOut l = min (sumU l) 1099511627776 := by
 have : ∀ (l : List CompV) (n : Int), 0 ≤ n → n ≤ 1099511627776 → l.foldl yy65 n = min (n + sumU l) 1099511627776 := by
  intro l
  induction l with
  | nil => intro n h1 h2; show n = min (n + 0) _; omega
  | cons c l ih =>
   intro n h1 h2
   have e : sumU (c :: l) = uOf c + sumU l := by simp [sumU]
   have hp := yy783 l
   have e2 : yy65 n c = min (n + uOf c) 1099511627776 := by
    unfold yy65 uOf
    split
    ·unfold hld; omega
    ·split
     ·unfold hld; omega
     ·omega
   have hb := yy748 c
   rw [List.foldl_cons, e, e2, ih _ (by omega) (by omega)]
   omega
 have h := this l 0 (by omega) (by omega)
 rwa [Int.zero_add] at h
theorem V.append {a b va vb : List Nat} (h1 : V a va) (h2 : V b vb) : V (a ++ b) (va ++ vb) := by
 refine ⟨fun v hv => ?_, by rw [yy116, h1.bytes, h2.bytes]⟩
 rcases List.mem_append.1 hv with hv | hv
 ·exact h1.may v hv
 ·exact h2.may v hv
def AllV (l : List CompV) : Prop := ∀ y ∈ l, ∃ vs, V y.text vs
theorem yy371 {s : NS} (h1 : AllV s.out) (h2 : ∃ v, V s.text v) : AllV s.flush := by
 intro y hy
 unfold NS.flush keepOf textOf goneOf at hy
 simp only [List.mem_append] at hy
 rcases hy with ((hy | hy) | hy) | hy
 ·exact h1 y hy
 ·split at hy
  ·rw [List.mem_singleton.1 hy]; exact ⟨[], V.nil⟩
  ·cases hy
 ·split at hy
  ·cases hy
  ·rw [List.mem_singleton.1 hy]; exact h2
 ·split at hy
  ·rw [List.mem_singleton.1 hy]; exact ⟨[], V.nil⟩
  ·cases hy
theorem yy678 {s : NS} {c : CompV} (h1 : AllV s.out) (h2 : ∃ v, V s.text v) (hc : ∃ v, V c.text v) : AllV (nStep s c).out ∧ ∃ v, V (nStep s c).text v := by
 unfold nStep
 split
 ·obtain ⟨va, ha⟩ := h2
  obtain ⟨vb, hb⟩ := hc
  exact ⟨h1, _, ha.append hb⟩
 ·split
  ·exact ⟨h1, h2⟩
  ·split
   ·exact ⟨h1, h2⟩
   ·split
    ·exact ⟨yy371 h1 h2, [], V.nil⟩
    ·exact ⟨h1, h2⟩
theorem yy785 (l : List CompV) (hv : AllV l) : AllV (yy38 l) := by
 have : ∀ (l : List CompV) (s : NS), AllV l → AllV s.out → (∃ v, V s.text v) → AllV (l.foldl nStep s).out ∧ ∃ v, V (l.foldl nStep s).text v := by
  intro l
  induction l with
  | nil => intro s _ h1 h2; exact ⟨h1, h2⟩
  | cons c l ih =>
   intro s hv h1 h2
   have hst := yy678 h1 h2 (hv c (by simp))
   exact ih _ (fun y hy => hv y (by simp [hy])) hst.1 hst.2
 have h := this l nStart hv (fun y hy => by cases hy) ⟨[], V.nil⟩
 exact yy371 h.1 h.2
theorem yy372 (s : NS) : tlen s.flush = tlen s.out + s.text.length := by
 rw [NS.flush, yy93, yy93, yy93]
 have e1 : tlen (keepOf s.keep) = 0 := by unfold keepOf; split <;> rfl
 have e2 : tlen (textOf s.text) = s.text.length := by
  unfold textOf; split
  ·rename_i e; rw [e]; rfl
  ·simp [tlen]
 have e3 : tlen (goneOf s.gone) = 0 := by unfold goneOf; split <;> rfl
 omega
theorem yy679 (s : NS) (c : CompV) : tlen (nStep s c).out + (nStep s c).text.length ≤ tlen s.out + s.text.length + c.text.length := by
 unfold nStep
 split
 ·show tlen s.out + (s.text ++ c.text).length ≤ _
  rw [List.length_append]; omega
 ·split
  ·show tlen s.out + s.text.length ≤ _; omega
  ·split
   ·omega
   ·split
    ·show tlen s.flush + 0 ≤ _
     rw [yy372]; omega
    ·show tlen s.out + s.text.length ≤ _; omega
theorem yy328 (l : List CompV) : tlen (yy38 l) ≤ tlen l := by
 have : ∀ (l : List CompV) (s : NS), tlen (l.foldl nStep s).out + (l.foldl nStep s).text.length ≤ tlen s.out + s.text.length + tlen l := by
  intro l
  induction l with
  | nil => intro s; exact Nat.le_add_right _ _
  | cons c l ih =>
   intro s
   have e : tlen (c :: l) = c.text.length + tlen l := by simp [tlen]
   have h1 := ih (nStep s c)
   have h2 := yy679 s c
   rw [List.foldl_cons, e]
   omega
 have h := this l nStart
 rw [yy38, yy372]
 have e : tlen nStart.out + nStart.text.length = 0 := rfl
 have e2 : nRun l = l.foldl nStep nStart := rfl
 rw [e2]
 omega
theorem yy786 (l : List CompV) : (yy38 l).length ≤ 3 * l.length + 3 := Nat.le_trans (yy255 _) (by have := (yy746 l).out; omega)
def Gd (c : CompV) : Prop := Fit64 c.kind ∧ Fit64 c.n ∧ ∀ x ∈ c.text, x < 256
theorem yy575 {s : NS} (hi : NInv s) (h1 : ∀ y ∈ s.out, Gd y) (h2 : ∀ x ∈ s.text, x < 256) : ∀ y ∈ s.flush, Gd y := by
 intro y hy
 have k0 := hi.keep0; have k1 := hi.keep1; have g0 := hi.gone0; have g1 := hi.gone1
 unfold NS.flush keepOf textOf goneOf at hy
 simp only [List.mem_append] at hy
 rcases hy with ((hy | hy) | hy) | hy
 ·exact h1 y hy
 ·split at hy
  ·rw [List.mem_singleton.1 hy]; exact ⟨by unfold Fit64; simp, by unfold Fit64; show _ ≤ s.keep ∧ s.keep ≤ _; omega, fun x hx => by cases hx⟩
  ·cases hy
 ·split at hy
  ·cases hy
  ·rw [List.mem_singleton.1 hy]; exact ⟨by unfold Fit64; simp, by unfold Fit64; simp, h2⟩
 ·split at hy
  ·rw [List.mem_singleton.1 hy]; exact ⟨by unfold Fit64; simp, by unfold Fit64; show _ ≤ s.gone ∧ s.gone ≤ _; omega, fun x hx => by cases hx⟩
  ·cases hy
theorem yy680 (l : List CompV) (hg : ∀ y ∈ l, y.Good) (ht : tlen l ≤ 1099511627776) : ∀ y ∈ yy38 l, y.Good := by
 have : ∀ (l : List CompV) (s : NS), (∀ y ∈ l, y.Good) → NInv s → (∀ y ∈ s.out, Gd y) → (∀ x ∈ s.text, x < 256) → (∀ y ∈ (l.foldl nStep s).out, Gd y) ∧ ∀ x ∈ (l.foldl nStep s).text, x < 256 := by
  intro l
  induction l with
  | nil => intro s _ _ h1 h2; exact ⟨h1, h2⟩
  | cons c l ih =>
   intro s hg hi h1 h2
   have hc := hg c (by simp)
   have hs : (∀ y ∈ (nStep s c).out, Gd y) ∧ ∀ x ∈ (nStep s c).text, x < 256 := by
    unfold nStep
    split
    ·refine ⟨h1, fun x hx => ?_⟩
     rcases List.mem_append.1 hx with hx | hx
     ·exact h2 x hx
     ·exact hc.2.2.1 x hx
    ·split
     ·exact ⟨h1, h2⟩
     ·split
      ·exact ⟨h1, h2⟩
      ·split
       ·exact ⟨yy575 hi h1 h2, fun x hx => by cases hx⟩
       ·exact ⟨h1, h2⟩
   exact ih _ (fun y hy => hg y (by simp [hy])) (hi.step c) hs.1 hs.2
 have h := this l nStart hg .start (fun y hy => by cases hy) (fun x hx => by cases hx)
 have h2 := yy575 (yy574 l) h.1 h.2
 intro y hy
 have h3 := h2 y hy
 have h4 : y.text.length ≤ tlen (yy38 l) := by
  obtain ⟨i, hi, rfl⟩ := List.getElem_of_mem hy
  have := yy413 hi
  omega
 have h5 := yy328 l
 exact ⟨h3.1, h3.2.1, h3.2.2, by unfold maxLen; omega⟩
end Go.Proofs.YtjpjdkdbgjipnaaDoor
namespace Go.Proofs.YtjpjdkdbgjipnaaDoor
open Go.RowKit Go.Deep
theorem yy148 (a b : Int) (h0 : 0 ≤ a) (h1 : a ≤ 1099511627776) (w : World) :
  Calls Tryd.prog 92 #[.int .i64 a, .int .i64 b] w fun e w' => e = .returned (.int .i64 (hld a b)) ∧ w = w' := by
 rcases (show b < 0 ∨ (0 ≤ b ∧ b ≤ 1099511627776) ∨ 1099511627776 < b by omega) with g | ⟨g, g'⟩ | g <;>
  rcases (show a + b ≤ 1099511627776 ∨ 1099511627776 < a + b by omega) with k | k <;>
  ·go_enter Tryd.func92, Tryd.ntmps92
   go_wp2
   all_goals
    go_ret
    refine ⟨Eq.trans (b := Ending.returned (.int .i64 _)) rfl (congrArg (fun n : Int => Ending.returned (.int .i64 n)) ?_), rfl⟩
    unfold hld
    omega
theorem yy261 (n : Int) (w : World) :
  Calls Tryd.prog 103 #[.int .i64 n] w fun e w' => e = .returned (.agg #[.int .i64 1, .int .i64 n, .string (bstr [])]) ∧ Below w.heap.size w w' := by
 go_enter Tryd.func103, Tryd.ntmps103
 go_wp2
 refine bodyPost_ret (results_cell_row rfl _ _ w.heap.size 51 #[.int .i64 1, .int .i64 n, .string (bstr [])] (0, 0) _ rfl (heap_alloc_new w _) Tryd.underlying51 rfl (by kernel_rfl)) rfl ?_
 exact ⟨rfl, (Below.refl _ _).alloc (Nat.le_refl _) _⟩
theorem yy415 (n : Int) (w : World) :
  Calls Tryd.prog 105 #[.int .i64 n] w fun e w' => e = .returned (.agg #[.int .i64 3, .int .i64 n, .string (bstr [])]) ∧ Below w.heap.size w w' := by
 go_enter Tryd.func105, Tryd.ntmps105
 go_wp2
 refine bodyPost_ret (results_cell_row rfl _ _ w.heap.size 51 #[.int .i64 3, .int .i64 n, .string (bstr [])] (0, 0) _ rfl (heap_alloc_new w _) Tryd.underlying51 rfl (by kernel_rfl)) rfl ?_
 exact ⟨rfl, (Below.refl _ _).alloc (Nat.le_refl _) _⟩
theorem yy416 (t : List Nat) (w : World) :
  Calls Tryd.prog 104 #[.string (bstr t)] w fun e w' => e = .returned (.agg #[.int .i64 2, .int .i64 0, .string (bstr t)]) ∧ Below w.heap.size w w' := by
 go_enter Tryd.func104, Tryd.ntmps104
 go_wp2
 refine bodyPost_ret (results_cell_row rfl _ _ w.heap.size 51 #[.int .i64 2, .int .i64 0, .string (bstr t)] (0, 0) _ rfl (heap_alloc_new w _) Tryd.underlying51 rfl (by kernel_rfl)) rfl ?_
 exact ⟨rfl, (Below.refl _ _).alloc (Nat.le_refl _) _⟩
set_option maxHeartbeats 2000000 in
set_option maxRecDepth 100000 in
theorem yy262 (A : Option Addr) (c : Nat) (l : List CompV) (hl : l.length ≤ maxLen) (w : World) (hc : yy7 w A l) :
  Calls Tryd.prog 77 #[.slice A l.length c] w fun e w' => e = .returned (.int .i64 (rBase l)) ∧ Below w.heap.size w w' := by
 unfold maxLen at hl
 have HC := xh hc; clear hc
 obtain ⟨T, HT⟩ : ∃ T, Hid (rBase l = T) := ⟨_, xh rfl⟩
 rw [HT.out]
 go_enter Tryd.func77, Tryd.ntmps77
 go_wp2
 go_loopw [3, 8] (fun n i wr => ∃ (k : Nat) (m : Int), k ≤ l.length ∧ i = .int .i64 k ∧ n = .int .i64 m ∧ rBase (l.take k) = m ∧ Below w.heap.size w wr) (fun _ i _ => l.length - (intOf i).toNat)
 case atStart => exact ⟨0, 0, Nat.zero_le _, rfl, rfl, rfl, Below.refl _ _⟩
 case round =>
  obtain ⟨k, m, hk, rfl, rfl, hm, hbel⟩ := hrel
  have HM := xh hm; clear hm
  have HBEL := xh hbel; clear hbel
  by_cases hlt : k < l.length
  ·obtain ⟨b, off, rfl, _⟩ := HC.out.form (by omega)
   obtain ⟨x0, x1, x2⟩ := (HC.out.below HBEL.out).at_ hlt
   have HS := xh (show rBase (l.take (k + 1)) = yy45 m l[k] by rw [List.take_succ_eq_append_getElem hlt, yy370, HM.out])
   have HFIT : Hid (0 ≤ m ∧ m ≤ 1099511627776) := by show _ ∧ _; rw [← HM.out]; exact yy470 _
   generalize l[k] = y at x0 x1 x2 HS
   obtain ⟨kd, n, tx⟩ := y
   simp only at x0 x1 x2
   have hnew : Below wr.heap.size wr (wr.alloc (Obj.cells #[Value.int .i64 kd, Value.int .i64 n, Value.string (bstr tx)] 51)) := (Below.refl _ _).alloc (Nat.le_refl _) _
   have HB1 : Hid (Below w.heap.size w (wr.alloc (Obj.cells #[Value.int .i64 kd, Value.int .i64 n, Value.string (bstr tx)] 51))) := HBEL.out.trans (hnew.mono HBEL.out.size)
   clear hnew
   by_cases h1 : kd = 1 ∨ kd = 3
   ·rw [yy45, if_pos h1] at HS
    have HH := xh (fun w => yy148 m n HFIT.out.1 HFIT.out.2 w)
    obtain ⟨q, HQ⟩ : ∃ q, Hid (hld m n = q) := ⟨_, xh rfl⟩
    have HS2 : Hid (rBase (l.take (k + 1)) = q) := by show _ = _; rw [HS.out]; exact HQ.out
    rw [HQ.out] at HH
    rcases h1 with rfl | rfl
    ·go_wp2_with fail
     refine (HH.out _).mono ?_
     rintro e w1 ⟨rfl, rfl⟩
     go_wp2
     go_roundw
     case rel => exact ⟨k + 1, q, by omega, by go_num, rfl, HS2.out, HB1.out⟩
     case measure => simp [intOf]; omega
    ·go_wp2_with fail
     refine (HH.out _).mono ?_
     rintro e w1 ⟨rfl, rfl⟩
     go_wp2
     go_roundw
     case rel => exact ⟨k + 1, q, by omega, by go_num, rfl, HS2.out, HB1.out⟩
     case measure => simp [intOf]; omega
   ·have g1 : (kd == 1) = false := xn fun h => h1 (.inl h)
    have g3 : (kd == 3) = false := xn fun h => h1 (.inr h)
    rw [yy45, if_neg h1] at HS
    clear h1
    go_wp2
    go_roundw
    case rel => exact ⟨k + 1, m, by omega, by go_num, rfl, HS.out, HB1.out⟩
    case measure => simp [intOf]; omega
  ·have HE : Hid (m = T) := by show _ = _; rw [← HM.out, List.take_of_length_le (by omega), HT.out]
   go_wp2
   go_ret
   exact ⟨by rw [← HE.out]; rfl, HBEL.out⟩
set_option maxHeartbeats 2000000 in
set_option maxRecDepth 100000 in
theorem yy334 (A : Option Addr) (c : Nat) (l : List CompV) (hl : l.length ≤ maxLen) (hf : Fine1 l) (w : World) (hc : yy7 w A l) :
  Calls Tryd.prog 78 #[.slice A l.length c] w fun e w' => e = .returned (.int .i64 (rOut l)) ∧ Below w.heap.size w w' := by
 unfold maxLen at hl
 have HC := xh hc; clear hc
 have HF := xh hf; clear hf
 obtain ⟨T, HT⟩ : ∃ T, Hid (rOut l = T) := ⟨_, xh rfl⟩
 rw [HT.out]
 go_enter Tryd.func78, Tryd.ntmps78
 go_wp2
 go_loopw [3, 8] (fun n i wr => ∃ (k : Nat) (m : Int), k ≤ l.length ∧ i = .int .i64 k ∧ n = .int .i64 m ∧ rOut (l.take k) = m ∧ Below w.heap.size w wr) (fun _ i _ => l.length - (intOf i).toNat)
 case atStart => exact ⟨0, 0, Nat.zero_le _, rfl, rfl, rfl, Below.refl _ _⟩
 case round =>
  obtain ⟨k, m, hk, rfl, rfl, hm, hbel⟩ := hrel
  have HM := xh hm; clear hm
  have HBEL := xh hbel; clear hbel
  by_cases hlt : k < l.length
  ·obtain ⟨b, off, rfl, _⟩ := HC.out.form (by omega)
   obtain ⟨x0, x1, x2⟩ := (HC.out.below HBEL.out).at_ hlt
   have HS := xh (show rOut (l.take (k + 1)) = yy65 m l[k] by rw [List.take_succ_eq_append_getElem hlt, yy324, HM.out])
   have HFIT : Hid (0 ≤ m ∧ m ≤ 1099511627776) := by show _ ∧ _; rw [← HM.out]; exact yy778 _
   have HY := xh (HF.out l[k] (List.getElem_mem hlt))
   generalize l[k] = y at x0 x1 x2 HS HY
   obtain ⟨kd, n, tx⟩ := y
   simp only at x0 x1 x2
   have hnew : Below wr.heap.size wr (wr.alloc (Obj.cells #[Value.int .i64 kd, Value.int .i64 n, Value.string (bstr tx)] 51)) := (Below.refl _ _).alloc (Nat.le_refl _) _
   have HB1 : Hid (Below w.heap.size w (wr.alloc (Obj.cells #[Value.int .i64 kd, Value.int .i64 n, Value.string (bstr tx)] 51))) := HBEL.out.trans (hnew.mono HBEL.out.size)
   clear hnew
   by_cases h1 : kd = 1
   ·subst h1
    rw [yy65, if_pos rfl] at HS
    have HH := xh (fun w => yy148 m n HFIT.out.1 HFIT.out.2 w)
    obtain ⟨q, HQ⟩ : ∃ q, Hid (hld m n = q) := ⟨_, xh rfl⟩
    have HS2 : Hid (rOut (l.take (k + 1)) = q) := by show _ = _; rw [HS.out]; exact HQ.out
    rw [HQ.out] at HH
    go_wp2_with fail
    refine (HH.out _).mono ?_
    rintro e w1 ⟨rfl, rfl⟩
    go_wp2
    go_roundw
    case rel => exact ⟨k + 1, q, by omega, by go_num, rfl, HS2.out, HB1.out⟩
    case measure => simp [intOf]; omega
   ·have g1 : (kd == 1) = false := xn h1
    by_cases h2 : kd = 2
    ·subst h2
     rw [yy65, if_neg h1, if_pos rfl] at HS
     have HL := xh (fun w => yy681 tx HY.out.1.2.2.1 HY.out.2 w)
     have HH := xh (fun w => yy148 m (loose tx : Int) HFIT.out.1 HFIT.out.2 w)
     obtain ⟨z, HZ⟩ : ∃ z, Hid (loose tx = z) := ⟨_, xh rfl⟩
     obtain ⟨q, HQ⟩ : ∃ q, Hid (hld m (loose tx : Int) = q) := ⟨_, xh rfl⟩
     have HS2 : Hid (rOut (l.take (k + 1)) = q) := by show _ = _; rw [HS.out]; exact HQ.out
     rw [HQ.out] at HH
     rw [HZ.out] at HL HH
     go_wp2_with fail
     refine (HL.out _).mono ?_
     rintro e w1 ⟨rfl, hb1⟩
     have HB2 : Hid (Below w.heap.size w w1) := HB1.out.trans (hb1.mono HB1.out.size)
     clear hb1
     go_wp2_with fail
     refine (HH.out _).mono ?_
     rintro e w2 ⟨rfl, rfl⟩
     go_wp2
     go_roundw
     case rel => exact ⟨k + 1, q, by omega, by go_num, rfl, HS2.out, HB2.out⟩
     case measure => simp [intOf]; omega
    ·have g2 : (kd == 2) = false := xn h2
     rw [yy65, if_neg h1, if_neg h2] at HS
     clear h1 h2
     go_wp2
     go_roundw
     case rel => exact ⟨k + 1, m, by omega, by go_num, rfl, HS.out, HB1.out⟩
     case measure => simp [intOf]; omega
  ·have HE : Hid (m = T) := by show _ = _; rw [← HM.out, List.take_of_length_le (by omega), HT.out]
   go_wp2
   go_ret
   exact ⟨by rw [← HE.out]; rfl, HBEL.out⟩
end Go.Proofs.YtjpjdkdbgjipnaaDoor
namespace Go.Proofs.YtjpjdkdbgjipnaaDoor
open Go.RowKit Go.Deep Go.Lib
structure Aside (g B : Nat) (w w' : World) : Prop where
 os : w'.os = w.os
 tape : w'.tape = w.tape
 output : w'.output = w.output
 size : w.heap.size ≤ w'.heap.size
 block : ∀ k, k < B → k ≠ g → w'.heap[k]? = w.heap[k]?
theorem Aside.refl (g B : Nat) (w : World) : Aside g B w w := ⟨rfl, rfl, rfl, Nat.le_refl _, fun _ _ _ => rfl⟩
theorem Aside.trans {g B : Nat} {a b c : World} (h : Aside g B a b) (k : Aside g B b c) : Aside g B a c :=
 ⟨k.os.trans h.os, k.tape.trans h.tape, k.output.trans h.output, Nat.le_trans h.size k.size, fun i hi hg => (k.block i hi hg).trans (h.block i hi hg)⟩
theorem Aside.of_below {g B : Nat} {w w' : World} (h : Below w.heap.size w w') (hB : B ≤ w.heap.size) : Aside g B w w' := ⟨h.os, h.tape, h.output, h.size, fun k hk _ => h.block k (by omega)⟩
theorem Aside.grown {g B : Nat} {a w w' : World} {row : Option Nat} (h : Aside g B a w) (hg : w.grownBy w' row) (hB : B ≤ w.heap.size) (hr : ∀ k, row = some k → B ≤ k) : Aside g B a w' :=
 h.trans ⟨hg.os, hg.tape, hg.output, hg.size, fun k hk _ => hg.block k (by omega) (fun e => by have := hr k e.symm; omega)⟩
theorem Aside.set {g B : Nat} {a w : World} (h : Aside g B a w) (i : Nat) (v : Value) : Aside g B a (w.setCell ⟨g, i, none⟩ v) :=
 h.trans ⟨rfl, rfl, rfl, by simp [World.setCell], fun k _ hk => Below.heap_setCell _ _ _ _ hk⟩
theorem Aside.below {g B h : Nat} {W w w' : World} (k : Aside g B w w') (hb : Below h W w) (hg : h ≤ g) (hB : h ≤ B) : Below h W w' :=
 hb.trans ⟨k.os, k.tape, k.output, k.size, fun i hi => k.block i (by omega) (by omega)⟩
def yy582 (keep : Int) (A : Option Addr) (n c : Nat) (gone : Int) (i : Nat) : Value := if i = 0 then .int .i64 keep else if i = 1 then .slice A n c else .int .i64 gone
def NowAt (g B : Nat) (s : NS) (o : Value) (w : World) : Prop :=
 g < B ∧ B ≤ w.heap.size ∧ (∃ A c, w.rowIs g 130 3 (yy582 s.keep A s.text.length c s.gone) ∧ w.ownsRow B 5 1 (.slice A s.text.length c) s.text.length (u8s s.text)) ∧ w.ownsRow B 51 3 o s.out.length (s.out.flatMap yy5)
theorem NowAt.below {g B : Nat} {s : NS} {o : Value} {w w' : World} (h : NowAt g B s o w) (hb : Below w.heap.size w w') : NowAt g B s o w' := by
 obtain ⟨h1, h2, ⟨A, c, hr, ht⟩, ho⟩ := h
 exact ⟨h1, Nat.le_trans h2 hb.size, ⟨A, c, hr.of_block (hb.block g hr.lt), own_below ht hb⟩, own_below ho hb⟩
theorem NowAt.row {g B : Nat} {s : NS} {o : Value} {w : World} (h : NowAt g B s o w) : w.ownsRow B 51 3 o s.out.length (s.out.flatMap yy5) := h.2.2.2
theorem NowAt.up {g B : Nat} {s : NS} {o : Value} {w : World} (h : NowAt g B s o w) : B ≤ w.heap.size := h.2.1
theorem NowAt.out {g B : Nat} {s : NS} {o : Value} {w : World} (h : NowAt g B s o w) : ∃ A c, o = .slice A s.out.length c := own_slice h.row
theorem NowAt.read {g B : Nat} {s : NS} {o : Value} {w : World} (h : NowAt g B s o w) : ∃ A c, w.cell? ⟨g, 0, none⟩ = some (.int .i64 s.keep) ∧ w.cell? ⟨g, 1, none⟩ = some (.slice A s.text.length c) ∧ w.cell? ⟨g, 2, none⟩ = some (.int .i64 s.gone) ∧
  w.frozen? ⟨g, 0, none⟩ = false ∧ w.frozen? ⟨g, 1, none⟩ = false ∧ w.frozen? ⟨g, 2, none⟩ = false ∧ w.ownsRow B 5 1 (.slice A s.text.length c) s.text.length (u8s s.text) ∧ w.rowIs g 130 3 (yy582 s.keep A s.text.length c s.gone) := by
 obtain ⟨h1, h2, ⟨A, c, hr, ht⟩, ho⟩ := h
 exact ⟨A, c, hr.cell (i := 0) (by omega), hr.cell (i := 1) (by omega), hr.cell (i := 2) (by omega), hr.frozen 0, hr.frozen 1, hr.frozen 2, ht, hr⟩
theorem NowAt.push {g B : Nat} {s : NS} {o o' : Value} {out' : List CompV} {w w' : World} (h : NowAt g B s o w) (hg : w.grownBy w' o.ownBlock) (ho : w'.ownsRow B 51 3 o' out'.length (out'.flatMap yy5)) : NowAt g B { s with out := out' } o' w' := by
 obtain ⟨h1, h2, ⟨A, c, hr, ht⟩, ho0⟩ := h
 exact ⟨h1, Nat.le_trans h2 hg.size, ⟨A, c, hr.of_block (hg.block g hr.lt (fun e => by have := (ho0.lt g e.symm).1; omega)), yy237 ht ho0 (by decide) hg⟩, ho⟩
theorem yy26 {w : World} {B g : Nat} {e : TypeId} {size : Nat} {v : Value} {n : Nat} {xs : List Value} (h : w.ownsRow B e size v n xs) (hg : g < B) (i : Nat) (u : Value) : (w.setCell ⟨g, i, none⟩ u).ownsRow B e size v n xs :=
 yy417 h ((Only.refl g w).set i u) hg
theorem NowAt.setKeep {g B : Nat} {s : NS} {o : Value} {w : World} (h : NowAt g B s o w) (k : Int) : NowAt g B { s with keep := k } o (w.setCell ⟨g, 0, none⟩ (.int .i64 k)) := by
 obtain ⟨h1, h2, ⟨A, c, hr, ht⟩, ho⟩ := h
 refine ⟨h1, by simpa [World.setCell] using h2, ⟨A, c, (hr.set 0 (.int .i64 k)).congr fun i hi => ?_, yy26 ht h1 _ _⟩, yy26 ho h1 _ _⟩
 rcases (show i = 0 ∨ i = 1 ∨ i = 2 by omega) with rfl | rfl | rfl <;> rfl
theorem NowAt.setGone {g B : Nat} {s : NS} {o : Value} {w : World} (h : NowAt g B s o w) (k : Int) : NowAt g B { s with gone := k } o (w.setCell ⟨g, 2, none⟩ (.int .i64 k)) := by
 obtain ⟨h1, h2, ⟨A, c, hr, ht⟩, ho⟩ := h
 refine ⟨h1, by simpa [World.setCell] using h2, ⟨A, c, (hr.set 2 (.int .i64 k)).congr fun i hi => ?_, yy26 ht h1 _ _⟩, yy26 ho h1 _ _⟩
 rcases (show i = 0 ∨ i = 1 ∨ i = 2 by omega) with rfl | rfl | rfl <;> rfl
theorem NowAt.setText {g B : Nat} {s : NS} {o : Value} {t : List Nat} {A A' : Option Addr} {c c' : Nat} {w w1 : World} (h : NowAt g B s o w) (hown : w.ownsRow B 5 1 (.slice A s.text.length c) s.text.length (u8s s.text))
  (hg : w.grownBy w1 (Value.slice A s.text.length c).ownBlock) (hown1 : w1.ownsRow B 5 1 (.slice A' t.length c') t.length (u8s t)) :
  NowAt g B { s with text := t } o (w1.setCell ⟨g, 1, none⟩ (.slice A' t.length c')) ∧ Aside g B w (w1.setCell ⟨g, 1, none⟩ (.slice A' t.length c')) := by
 obtain ⟨h1, h2, ⟨A0, c0, hr, ht⟩, ho⟩ := h
 have hr1 : w1.rowIs g 130 3 (yy582 s.keep A0 s.text.length c0 s.gone) := hr.of_block (hg.block g hr.lt (fun e => by have := (hown.lt g e.symm).1; omega))
 refine ⟨⟨h1, by simpa [World.setCell] using Nat.le_trans h2 hg.size, ⟨A', c', (hr1.set 1 (.slice A' t.length c')).congr fun i hi => ?_, yy26 hown1 h1 _ _⟩, yy26 (yy237 ho hown (by decide) hg) h1 _ _⟩, ((Aside.refl g B w).grown hg h2 (fun k e => (hown.lt k e).1)).set 1 _⟩
 rcases (show i = 0 ∨ i = 1 ∨ i = 2 by omega) with rfl | rfl | rfl <;> rfl
theorem yy791 {w : World} {B : Nat} {A : Option Addr} {n c : Nat} {xs : List Value} (h : w.ownsRow B 5 1 (.slice A n c) n xs) : w.ownsRow B 5 1 (.slice (addrHigh A c) 0 c) 0 (u8s []) := by
 refine ⟨rfl, ?_⟩
 rcases h.2 with ⟨h2, _⟩ | ⟨g', cap, cur, hv, hg, hh, h3, h4, h5, _⟩
 ·injection h2 with e1 _ e3
  subst e1 e3
  exact .inl ⟨rfl, rfl⟩
 ·injection hv with e1 _ e3
  subst e1 e3
  refine .inr ⟨g', c, cur, ?_, hg, hh, Nat.zero_le _, h4, h5, by simp [u8s]⟩
  unfold addrHigh
  split
  ·rfl
  ·simp [Addr.add]
theorem NowAt.begin {g B : Nat} {s : NS} {o : Value} {A : Option Addr} {c : Nat} {w : World} (h : NowAt g B s o w) (hown : w.ownsRow B 5 1 (.slice A s.text.length c) s.text.length (u8s s.text)) :
  NowAt g B ⟨s.out, 0, 0, []⟩ o (((w.setCell ⟨g, 0, none⟩ (.int .i64 0)).setCell ⟨g, 1, none⟩ (.slice (addrHigh A c) 0 c)).setCell ⟨g, 2, none⟩ (.int .i64 0)) := by
 obtain ⟨h1, h2, ⟨A0, c0, hr, ht⟩, ho⟩ := h
 refine ⟨h1, by simpa [World.setCell] using h2, ⟨addrHigh A c, c, (((hr.set 0 (.int .i64 0)).set 1 (.slice (addrHigh A c) 0 c)).set 2 (.int .i64 0)).congr fun i hi => ?_, yy26 (yy26 (yy26 (yy791 hown) h1 _ _) h1 _ _) h1 _ _⟩, yy26 (yy26 (yy26 ho h1 _ _) h1 _ _) h1 _ _⟩
 rcases (show i = 0 ∨ i = 1 ∨ i = 2 by omega) with rfl | rfl | rfl <;> rfl
theorem yy37 {ops : Array Oper} {rest : List Oper} {o : Oper} {a : Act} {w : World} {Q : Exit → Act → World → Prop} (hgd : o.guard = none) (s x : Operand)
  (ho : o.op = .call { callee := .builtin .append, args := #[s, x], argTypes := #[40, 40] })
  (B : Nat) (v : Value) (out : List CompV) (cr : CompV) (hs : a.eval s = v) (hown : w.ownsRow B 51 3 v out.length (out.flatMap yy5)) (hb : B ≤ w.heap.size)
  (hx : a.eval x = .slice (some ⟨w.heap.size, 0, none⟩) 1 1) (hlen : out.length ≤ 1099511627776)
  (h : ∀ out' A' c' w', out' = out ++ [cr] → w'.ownsRow B 51 3 (.slice A' out'.length c') out'.length (out'.flatMap yy5) → (w.alloc (.cells #[.int .i64 cr.kind, .int .i64 cr.n, .string (bstr cr.text)] 51)).grownBy w' v.ownBlock → wpList Tryd.prog ops Q rest (a.put o.dst (.slice A' out'.length c')) w') :
  wpList Tryd.prog ops Q (o :: rest) a (w.alloc (.cells #[.int .i64 cr.kind, .int .i64 cr.n, .string (bstr cr.text)] 51)) := by
 obtain ⟨i0, hi0, hz0, hz1, hz2⟩ := info_parts yy335
 refine wpList_append_own_wide _ hgd s x 40 ho B 51 i0 (.agg #[.int .i64 0, .int .i64 0, .string { data := #[] }]) 3 32 Tryd.underlying40 hi0 hz0 hz1 hz2 rfl (by omega) v out.length (out.flatMap yy5) hs (hown.alloc _) ⟨w.heap.size, 0, none⟩ 1 1 (yy5 cr) hx rfl ?_ ?_ (by simp only [maxLen]; omega) (by omega) (by simp; omega) ?_
 ·intro j u hj
  rw [Go.WideShapes.add_plain, Nat.zero_add, cell_of_row _ _ _ _ _ _ (heap_alloc_new w _)]
  simpa [yy5] using hj
 ·intro u hu; simp [yy5] at hu; rcases hu with rfl | rfl | rfl <;> rfl
 intro v' w' hown' hgr _
 have e : out.flatMap yy5 ++ yy5 cr = (out ++ [cr]).flatMap yy5 := by simp
 have hown2 : w'.ownsRow B 51 3 v' (out ++ [cr]).length ((out ++ [cr]).flatMap yy5) := by
  rw [← e, List.length_append]
  exact hown'
 obtain ⟨A', c', rfl⟩ := own_slice hown2
 exact h _ A' c' w' rfl hown2 hgr
set_option maxHeartbeats 1000000 in
set_option maxRecDepth 100000 in
theorem yy583 (g B : Nat) (s : NS) (o : Value) (hg : 0 ≤ s.gone) (w : World) (h : NowAt g B s o w) :
  Calls Tryd.prog 95 #[.pointer (some ⟨g, 0, none⟩)] w fun e w' => e = .returned (.bool (decide (s.text = [] ∧ s.gone = 0))) ∧ w = w' := by
 obtain ⟨A, c, c0, c1, c2, _⟩ := h.read
 clear h
 obtain ⟨out, keep, gone, tx⟩ := s
 simp only at c0 c1 c2 hg ⊢
 cases tx with
 | nil =>
  simp only [List.length_nil] at c1
  by_cases hz : gone = 0
  ·subst hz
   rw [show decide (([] : List Nat) = [] ∧ (0 : Int) = 0) = true by simp]
   go_enter Tryd.func95, Tryd.ntmps95
   go_wp2
   go_ret
   exact ⟨rfl, rfl⟩
  ·have gz : (gone == 0) = false := xn hz
   rw [show decide (([] : List Nat) = [] ∧ gone = 0) = false by simp [hz]]
   clear hz
   go_enter Tryd.func95, Tryd.ntmps95
   go_wp2
   go_ret
   exact ⟨rfl, rfl⟩
 | cons x t =>
  rw [show decide (x :: t = [] ∧ gone = 0) = false by simp]
  rw [List.length_cons] at c1
  generalize t.length = n at c1
  have gz : (((n + 1 : Nat) : Int) == 0) = false := xn (by omega)
  go_enter Tryd.func95, Tryd.ntmps95
  go_wp2
  go_ret
  exact ⟨rfl, rfl⟩
end Go.Proofs.YtjpjdkdbgjipnaaDoor
namespace Go.Proofs.YtjpjdkdbgjipnaaDoor
open Go.RowKit Go.Deep
theorem yy120 {s t : List Nat} (hs : ∀ x ∈ s, x < 256) (ht : ∀ x ∈ t, x < 256) : ((bstr s).toList == (bstr t).toList) = decide (s = t) := by
 by_cases h : s = t
 ·subst h
  rw [decide_eq_true rfl]
  exact beq_self_eq_true _
 ·rw [decide_eq_false h]
  exact bstr_neq fun e => h (bstr_inj _ _ hs ht e)
set_option maxHeartbeats 4000000 in
set_option maxRecDepth 100000 in
theorem yy94 (s : List Nat) (hb : ∀ x ∈ s, x < 256) (hl : s.length ≤ maxLen) (w : World) :
  Calls Tryd.prog 27 #[.string (bstr s)] w fun e w' => e = .returned (.bool (rName s)) ∧ w = w' := by
 have hsz := bstr_size s
 unfold maxLen at hl
 have HB := xh hb
 obtain ⟨T, HT⟩ : ∃ T, Hid (rName s = T) := ⟨_, xh rfl⟩
 have HNO : Hid (¬ IsName s → T = false) := fun h => by rw [← HT.out]; exact yy210 h
 have HYES : Hid (IsName s → T = true) := fun h => by rw [← HT.out]; exact yy104 h
 rw [HT.out]
 clear HT
 by_cases h0 : s.length = 0
 ·have HF : Hid (T = false) := HNO.out fun h => by rw [yy43] at h; omega
  rw [h0] at hsz
  clear hb
  go_enter Tryd.func27, Tryd.ntmps27
  go_wp2
  go_ret
  exact ⟨by rw [HF.out]; rfl, rfl⟩
 by_cases h20 : 20 < s.length
 ·have HF : Hid (T = false) := HNO.out fun h => by rw [yy43] at h; omega
  clear hb
  go_enter Tryd.func27, Tryd.ntmps27
  go_wp2
  go_ret
  exact ⟨by rw [HF.out]; rfl, rfl⟩
 have e1 := yy120 hb (t := [46]) (by simp)
 have e2 := yy120 hb (t := [46, 46]) (by simp)
 rw [show (bstr [46]).toList = [46] by show ByteArray.toList { data := #[46] } = [46]; first | (decide +kernel) | simp | simp [go_sem]] at e1
 rw [show (bstr [46, 46]).toList = [46, 46] by show ByteArray.toList { data := #[46, 46] } = [46, 46]; first | (decide +kernel) | simp | simp [go_sem]] at e2
 have g0 : ¬ (s.length : Int) < 1 := by omega
 have g20 : ¬ (20 : Int) < (s.length : Int) := by omega
 by_cases d1 : s = [46]
 ·have HF : Hid (T = false) := HNO.out fun h => by rw [yy43] at h; exact h.2.2.1 d1
  rw [decide_eq_true d1] at e1
  clear hb e2 d1
  go_enter Tryd.func27, Tryd.ntmps27
  go_wp2
  go_ret
  exact ⟨by rw [HF.out]; rfl, rfl⟩
 rw [decide_eq_false d1] at e1
 by_cases d2 : s = [46, 46]
 ·have HF : Hid (T = false) := HNO.out fun h => by rw [yy43] at h; exact h.2.2.2.1 d2
  rw [decide_eq_true d2] at e2
  clear hb d1 d2
  go_enter Tryd.func27, Tryd.ntmps27
  go_wp2
  go_ret
  exact ⟨by rw [HF.out]; rfl, rfl⟩
 rw [decide_eq_false d2] at e2
 have HD : Hid (s ≠ [46] ∧ s ≠ [46, 46]) := ⟨d1, d2⟩
 have h20' : s.length ≤ 20 := by omega
 have h1' : 1 ≤ s.length := by omega
 clear hb d1 d2 h20 h0
 go_enter Tryd.func27, Tryd.ntmps27
 go_wp2
 go_loopw [2, 3] (fun r i wr => ∃ k : Nat, k ≤ s.length ∧ r = .bool false ∧ i = .int .i64 (k : Int) ∧ wr = w ∧ Hid (∀ (j x : Nat), j < k → s[j]? = some x → okByte x)) (fun _ i _ => s.length - (intOf i).toNat)
 case atStart => exact ⟨0, Nat.zero_le _, rfl, rfl, rfl, xh (fun j x h => by omega)⟩
 case round =>
  obtain ⟨k, hk, rfl, rfl, rfl, HOK⟩ := hrel
  by_cases hlt : k < s.length
  ·have hdr := List.drop_eq_getElem_cons hlt
   have hby := fun w => byte_at HB.out hdr w
   clear hdr
   have hx : s[k]? = some s[k] := List.getElem?_eq_getElem hlt
   have hc256 := HB.out s[k] (List.getElem_mem hlt)
   generalize s[k] = c at hby hx hc256
   have HX := xh hx
   clear hx
   by_cases hok : okByte c
   ·have HOK2 : Hid (∀ (j x : Nat), j < k + 1 → s[j]? = some x → okByte x) := by
     intro j x hj hjx
     rcases Nat.lt_or_ge j k with g | g
     ·exact HOK.out j x g hjx
     ·obtain rfl : j = k := by omega
      rw [HX.out] at hjx
      obtain rfl := Option.some.inj hjx
      exact hok
    rw [yy133] at hok
    rcases hok with ⟨q1, q2⟩ | ⟨q1, q2⟩ | rfl | rfl | rfl
    ·have r1 : ¬ c < 97 := by omega
     have r2 : ¬ 122 < c := by omega
     go_wp2
     go_roundw
     case rel => exact ⟨k + 1, by omega, rfl, by go_num, trivial, HOK2⟩
     case measure => simp [intOf]; omega
    ·have r1 : c < 97 := by omega
     have r2 : ¬ c < 48 := by omega
     have r3 : ¬ 57 < c := by omega
     go_wp2
     go_roundw
     case rel => exact ⟨k + 1, by omega, rfl, by go_num, trivial, HOK2⟩
     case measure => simp [intOf]; omega
    ·go_wp2
     go_roundw
     case rel => exact ⟨k + 1, by omega, rfl, by go_num, trivial, HOK2⟩
     case measure => simp [intOf]; omega
    ·go_wp2
     go_roundw
     case rel => exact ⟨k + 1, by omega, rfl, by go_num, trivial, HOK2⟩
     case measure => simp [intOf]; omega
    ·go_wp2
     go_roundw
     case rel => exact ⟨k + 1, by omega, rfl, by go_num, trivial, HOK2⟩
     case measure => simp [intOf]; omega
   ·have HF : Hid (T = false) := HNO.out fun h => by
     rw [yy43] at h
     exact hok (h.2.2.2.2 c (List.mem_of_getElem? HX.out))
    rw [yy133] at hok
    have n1 : ((c : Int) != 46) = true := by simp; omega
    have n2 : ((c : Int) != 45) = true := by simp; omega
    have n3 : ((c : Int) != 95) = true := by simp; omega
    rcases (show (c < 97 ∧ c < 48) ∨ (c < 97 ∧ 57 < c ∧ ¬ c < 48) ∨ (¬ c < 97 ∧ 122 < c ∧ ¬ c < 48 ∧ 57 < c) by omega) with ⟨r1, r2⟩ | ⟨r1, r2, r3⟩ | ⟨r1, r2, r3, r4⟩
    ·clear hok
     go_wp2
     go_ret
     exact ⟨by rw [HF.out]; rfl, rfl⟩
    ·clear hok
     go_wp2
     go_ret
     exact ⟨by rw [HF.out]; rfl, rfl⟩
    ·clear hok
     go_wp2
     go_ret
     exact ⟨by rw [HF.out]; rfl, rfl⟩
  ·have HT : Hid (T = true) := HYES.out (yy43.2 ⟨h1', h20', HD.out.1, HD.out.2, fun x hx => by
    obtain ⟨j, hj⟩ := List.getElem?_of_mem hx
    have := (List.getElem?_eq_some_iff.1 hj).1
    exact HOK.out j x (by omega) hj⟩)
   go_wp2
   go_ret
   exact ⟨by rw [HT.out]; rfl, rfl⟩
end Go.Proofs.YtjpjdkdbgjipnaaDoor
