/- The landed txn's named: an act with those fields alone that its Kind names. No condition. (Merged of 10 texts.) -/
import Derived.Test.YtjpjdkdbgjipnaaDoorV47
import Derived.Laws.Rows
import Derived.Test.YtjpjdkdbgjipnaaDoorV44
import Derived.Deep.DeepAppendWide
import Derived.Lib.AppendStr
import Derived.Laws.OwnMore
namespace Go.Proofs.YtjpjdkdbgjipnaaDoor
structure NS where
 out : List CompV
 keep : Int
 gone : Int
 text : List Nat
def keepOf (n : Int) : List CompV := if 0 < n then [⟨1, n, []⟩] else []
def textOf (t : List Nat) : List CompV := if t = [] then [] else [⟨2, 0, t⟩]
def goneOf (n : Int) : List CompV := if 0 < n then [⟨3, n, []⟩] else []
def NS.flush (s : NS) : List CompV := s.out ++ keepOf s.keep ++ textOf s.text ++ goneOf s.gone
def nStep (s : NS) (c : CompV) : NS :=
 if c.kind = 2 then { s with text := s.text ++ c.text } else if c.kind = 3 then { s with gone := hld s.gone c.n } else if c.kind ≠ 1 ∨ c.n < 1 then s
 else if s.text ≠ [] ∨ 0 < s.gone then ⟨s.flush, hld 0 c.n, 0, []⟩ else { s with keep := hld s.keep c.n }
def nStart : NS := ⟨[], 0, 0, []⟩
def nRun (l : List CompV) : NS := l.foldl nStep nStart
def yy31 (l : List CompV) : List CompV := (nRun l).flush
theorem yy232 (l : List CompV) (c : CompV) : nRun (l ++ [c]) = nStep (nRun l) c := by rw [nRun, List.foldl_append]; rfl
structure NS.Fit (s : NS) (n m : Nat) : Prop where
 keep0 : 0 ≤ s.keep
 keep1 : s.keep ≤ 1099511627776
 gone0 : 0 ≤ s.gone
 gone1 : s.gone ≤ 1099511627776
 out : s.out.length ≤ n
 text : s.text.length ≤ m
theorem yy184 (s : NS) : s.flush.length ≤ s.out.length + 3 := by
 unfold NS.flush keepOf textOf goneOf
 simp only [List.length_append]
 split <;> split <;> split <;> simp <;> omega
theorem yy545 {s : NS} {n m : Nat} (h : s.Fit n m) (c : CompV) : (nStep s c).Fit (n + 3) (m + c.text.length) := by
 have h1 := h.keep0; have h2 := h.keep1; have h3 := h.gone0; have h4 := h.gone1; have h5 := h.out; have h6 := h.text
 have hf := yy184 s
 unfold nStep
 split
 ·exact ⟨h1, h2, h3, h4, by show s.out.length ≤ _; omega, by show (s.text ++ c.text).length ≤ _; rw [List.length_append]; omega⟩
 ·split
  ·exact ⟨h1, h2, yy90 _ _, yy130 _ _, by show s.out.length ≤ _; omega, by show s.text.length ≤ _; omega⟩
  ·split
   ·exact ⟨h1, h2, h3, h4, by omega, by omega⟩
   ·split
    ·exact ⟨yy90 _ _, yy130 _ _, Int.le_refl _, by show (0 : Int) ≤ _; omega, by show s.flush.length ≤ _; omega, Nat.zero_le _⟩
    ·exact ⟨yy90 _ _, yy130 _ _, h3, h4, by show s.out.length ≤ _; omega, by show s.text.length ≤ _; omega⟩
def tlen (l : List CompV) : Nat := (l.flatMap CompV.text).length
theorem yy613 (l : List CompV) : (nRun l).Fit (3 * l.length) (tlen l) := by
 have : ∀ (l : List CompV) (s : NS) (n m : Nat), s.Fit n m → (l.foldl nStep s).Fit (n + 3 * l.length) (m + tlen l) := by
  intro l
  induction l with
  | nil => intro s n m h; simpa [tlen] using h
  | cons c l ih =>
   intro s n m h
   rw [List.foldl_cons]
   have := ih (nStep s c) _ _ (yy545 h c)
   rw [show tlen (c :: l) = c.text.length + tlen l by simp [tlen], List.length_cons]
   rwa [show n + 3 * (l.length + 1) = n + 3 + 3 * l.length by omega, ← Nat.add_assoc]
 have h := this l nStart 0 0 ⟨Int.le_refl _, by show (0 : Int) ≤ _; omega, Int.le_refl _, by show (0 : Int) ≤ _; omega, Nat.zero_le _, Nat.zero_le _⟩
 rw [Nat.zero_add, Nat.zero_add] at h
 exact h
theorem yy75 (a b : List CompV) : tlen (a ++ b) = tlen a + tlen b := by rw [tlen, List.flatMap_append, List.length_append]; rfl
theorem yy233 (l : List CompV) (k : Nat) : tlen (l.take k) ≤ tlen l := by
 have e := congrArg tlen (List.take_append_drop k l)
 have := yy75 (l.take k) (l.drop k)
 omega
theorem yy310 {l : List CompV} {k : Nat} (h : k < l.length) : tlen (l.take k) + l[k].text.length ≤ tlen l := by
 have h1 := yy233 l (k + 1)
 rw [List.take_succ_eq_append_getElem h] at h1
 have h2 := yy75 (l.take k) [l[k]]
 have : tlen [l[k]] = l[k].text.length := by simp [tlen]
 omega
theorem yy234 {l : List CompV} {y : CompV} (h : y ∈ l) : y.text.length ≤ tlen l := by
 obtain ⟨i, hi, rfl⟩ := List.getElem_of_mem h
 have := yy310 hi
 omega
theorem yy91 {l : List CompV} (h : rCheck l = 0) : l.length ≤ 100 ∧ Nrm l ∧ rBase l ≤ 2000 ∧ rOut l ≤ 2000 := by
 unfold rCheck at h
 by_cases h1 : 100 < l.length
 ·rw [if_pos h1] at h; omega
 ·rw [if_neg h1] at h
  by_cases h2 : nrmB l = false
  ·rw [if_pos h2] at h; omega
  ·rw [if_neg h2] at h
   by_cases h3 : 2000 < rBase l ∨ 2000 < rOut l
   ·rw [if_pos h3] at h; omega
   ·refine ⟨by omega, Classical.byContradiction fun g => h2 (yy461 g), by omega, by omega⟩
def Fair (c : CompV) : Prop := ((c.kind = 1 ∨ c.kind = 3) ∧ 1 ≤ c.n) ∨ c.kind = 2
theorem Nrm.fair {l : List CompV} (h : Nrm l) : ∀ c ∈ l, Fair c := fun c hc => by
 obtain ⟨i, hi, rfl⟩ := List.getElem_of_mem hc
 rcases (h i _ (List.getElem?_eq_getElem hi)).1 with g | g
 ·exact .inl ⟨g.1, g.2.1⟩
 ·exact .inr g.1
def yy77 (m : Int) (c : CompV) : Int := if c.kind = 2 then m else m + c.n
def sumT (l : List CompV) : Int := l.foldl yy77 0
theorem yy185 : ∀ (l : List CompV) (n m : Int), 0 ≤ m → n = min m 1099511627776 → (∀ c ∈ l, Fair c) →
  l.foldl yy38 n = min (l.foldl yy77 m) 1099511627776 ∧ m ≤ l.foldl yy77 m
 | [], n, m, h0, h, _ => ⟨h, Int.le_refl _⟩
 | c :: l, n, m, h0, h, hf => by
  rw [List.foldl_cons, List.foldl_cons]
  have hc := hf c (by simp)
  have hl := fun x hx => hf x (List.mem_cons_of_mem _ hx)
  rcases hc with ⟨hk, hn⟩ | hk
  ·rw [show yy38 n c = hld n c.n from if_pos hk, show yy77 m c = m + c.n from if_neg (by omega)]
   have := yy185 l (hld n c.n) (m + c.n) (by omega) (by unfold hld; omega) hl
   exact ⟨this.1, by have := this.2; omega⟩
  ·rw [show yy38 n c = n from if_neg (by omega), show yy77 m c = m from if_pos hk]
   exact yy185 l n m h0 h hl
theorem yy462 {l : List CompV} (hf : ∀ c ∈ l, Fair c) (k : Nat) : 0 ≤ sumT (l.take k) ∧ sumT (l.take k) ≤ sumT l := by
 have h1 := (yy185 (l.take k) 0 0 (Int.le_refl _) (by omega) fun c hc => hf c (List.mem_of_mem_take hc)).2
 have h2 := (yy185 (l.drop k) (min (sumT (l.take k)) 1099511627776) (sumT (l.take k)) h1 rfl fun c hc => hf c (List.mem_of_mem_drop hc)).2
 have h3 : l.foldl yy77 0 = (l.drop k).foldl yy77 ((l.take k).foldl yy77 0) := by rw [← List.foldl_append, List.take_append_drop]
 refine ⟨h1, ?_⟩
 show _ ≤ l.foldl yy77 0
 rw [h3]
 exact h2
theorem yy647 {l : List CompV} (hf : ∀ c ∈ l, Fair c) (hb : rBase l ≤ 2000) : sumT l = rBase l := by
 have := (yy185 l 0 0 (Int.le_refl _) (by omega) hf).1
 show l.foldl yy77 0 = l.foldl yy38 0
 have hb' : l.foldl yy38 0 ≤ 2000 := hb
 omega
theorem yy648 (l : List CompV) (c : CompV) : sumT (l ++ [c]) = yy77 (sumT l) c := by rw [sumT, List.foldl_append]; rfl
def doStep (vs : List Nat) (s : Int × List Nat) (c : CompV) : Int × List Nat :=
 if c.kind = 1 then (s.1 + c.n, s.2 ++ E ((vs.take (s.1 + c.n).toNat).drop s.1.toNat)) else if c.kind = 2 then (s.1, s.2 ++ c.text) else (s.1 + c.n, s.2)
def doRun (vs : List Nat) (l : List CompV) : Int × List Nat := l.foldl (doStep vs) (0, [])
theorem yy463 (vs : List Nat) (l : List CompV) (c : CompV) : doRun vs (l ++ [c]) = doStep vs (doRun vs l) c := by rw [doRun, List.foldl_append]; rfl
theorem yy649 (vs : List Nat) (l : List CompV) : (doRun vs l).1 = sumT l := by
 have : ∀ (l : List CompV) (s : Int × List Nat), (l.foldl (doStep vs) s).1 = l.foldl yy77 s.1 := by
  intro l
  induction l with
  | nil => intro s; rfl
  | cons c l ih =>
   intro s
   rw [List.foldl_cons, List.foldl_cons, ih]
   congr 1
   unfold doStep yy77
   split
   ·next h => rw [if_neg (by omega)]
   ·split <;> rfl
 exact this l (0, [])
theorem yy363 (vs : List Nat) (a b : Nat) : (E ((vs.take b).drop a)).length ≤ (E vs).length := by
 have h1 := congrArg (fun l => (E l).length) (List.take_append_drop b vs)
 have h2 := congrArg (fun l => (E l).length) (List.take_append_drop a (vs.take b))
 simp only [yy86, List.length_append] at h1 h2
 omega
theorem yy546 (vs : List Nat) (hv : (E vs).length ≤ 1073741824) (l : List CompV) : (doRun vs l).2.length ≤ l.length * 1073741824 + tlen l := by
 have : ∀ (l : List CompV) (s : Int × List Nat), (l.foldl (doStep vs) s).2.length ≤ s.2.length + l.length * 1073741824 + tlen l := by
  intro l
  induction l with
  | nil => intro s; simp [tlen]
  | cons c l ih =>
   intro s
   rw [List.foldl_cons]
   refine Nat.le_trans (ih _) ?_
   have ht : tlen (c :: l) = c.text.length + tlen l := by simp [tlen]
   have hs : (doStep vs s c).2.length ≤ s.2.length + 1073741824 + c.text.length := by
    unfold doStep
    split
    ·have := yy363 vs s.1.toNat (s.1 + c.n).toNat
     simp only [List.length_append]
     omega
    ·split
     ·simp only [List.length_append]; omega
     ·simp only; omega
   rw [ht, List.length_cons]
   omega
 have := this l (0, [])
 show (l.foldl (doStep vs) (0, [])).2.length ≤ _
 simpa using this
def lastK (p : List CompV) : Int := match p.getLast? with | some c => c.kind | none => 0
theorem yy364 : lastK [] = 0 := rfl
theorem yy132 (p : List CompV) (c : CompV) : lastK (p ++ [c]) = c.kind := by simp [lastK]
def Part0 (c : CompV) : Prop := ((c.kind = 1 ∨ c.kind = 3) ∧ 1 ≤ c.n ∧ c.text = []) ∨ (c.kind = 2 ∧ c.n = 0 ∧ c.text ≠ [])
inductive Nm : List CompV → Prop
 | nil : Nm []
 | snoc (p : List CompV) (c : CompV) : Nm p → Part0 c → lastK p ≠ c.kind → ¬ (lastK p = 3 ∧ c.kind = 2) → Nm (p ++ [c])
theorem yy547 {l : List CompV} (h : Nm l) : (∀ y ∈ l, y.kind = 2 → ∃ vs, V y.text vs) → Nrm l := by
 induction h with
 | nil => intro _ i c h; simp at h
 | snoc p c hp hc h1 h2 ih =>
  intro hv i d hd
  have ihp := ih (fun y hy => hv y (List.mem_append_left _ hy))
  have hpre : ∀ j q, j ≤ p.length → 0 < j → (p ++ [c])[j - 1]? = some q → p[j - 1]? = some q := fun j q hj h0 hq => by
   rwa [List.getElem?_append_left (by omega)] at hq
  rcases Nat.lt_or_ge i p.length with hi | hi
  ·rw [List.getElem?_append_left hi] at hd
   have hn := ihp i d hd
   refine ⟨?_, fun q h0 hq => hn.2 q h0 (hpre i q (by omega) h0 hq)⟩
   rcases hn.1 with h | ⟨g1, g2, g3, g4, g5⟩
   ·exact .inl h
   ·exact .inr ⟨g1, g2, g3, g4, fun q h0 hq => g5 q h0 (hpre i q (by omega) h0 hq)⟩
  ·have hi2 : i = p.length := by
    have := (List.getElem?_eq_some_iff.1 hd).1
    rw [List.length_append] at this
    simp at this
    omega
   subst hi2
   have hdc : d = c := by simpa using hd.symm
   subst hdc
   have hq : ∀ q, 0 < p.length → (p ++ [d])[p.length - 1]? = some q → q.kind = lastK p := fun q h0 hq => by
    have e := hpre _ q (Nat.le_refl _) h0 hq
    rw [← List.getLast?_eq_getElem?] at e
    rw [lastK, e]
   refine ⟨?_, fun q h0 e => by rw [hq q h0 e]; exact h1⟩
   rcases hc with h | ⟨g1, g2, g3⟩
   ·exact .inl h
   ·exact .inr ⟨g1, g2, g3, hv d (by simp) g1, fun q h0 e g => h2 ⟨by rw [← hq q h0 e]; exact g, g1⟩⟩
structure NInv (s : NS) : Prop where
 nm : Nm s.out
 keep : s.out ≠ [] → 0 < s.keep
 last : s.out ≠ [] → lastK s.out ≠ 1
 keep0 : 0 ≤ s.keep
 keep1 : s.keep ≤ 1099511627776
 gone0 : 0 ≤ s.gone
 gone1 : s.gone ≤ 1099511627776
 top : ∀ y ∈ s.out, y.n ≤ 1099511627776
theorem NInv.start : NInv nStart := ⟨.nil, fun h => absurd rfl h, fun h => absurd rfl h, Int.le_refl _, by show (0 : Int) ≤ _; omega, Int.le_refl _, by show (0 : Int) ≤ _; omega, fun y hy => by cases hy⟩
theorem NInv.kept {s : NS} (h : NInv s) : Nm (s.out ++ keepOf s.keep) ∧ (lastK (s.out ++ keepOf s.keep) = 0 ∨ lastK (s.out ++ keepOf s.keep) = 1) := by
 by_cases hk : 0 < s.keep
 ·rw [keepOf, if_pos hk]
  refine ⟨.snoc _ _ h.nm (.inl ⟨.inl rfl, by show 1 ≤ s.keep; omega, rfl⟩) ?_ (fun e => by simp at e), .inr (yy132 _ _)⟩
  by_cases ho : s.out = []
  ·rw [ho, yy364]; show (0 : Int) ≠ 1; omega
  ·exact h.last ho
 ·have ho : s.out = [] := by
   by_cases ho : s.out = []
   ·exact ho
   ·exact absurd (h.keep ho) hk
  rw [keepOf, if_neg hk, ho]
  exact ⟨.nil, .inl rfl⟩
theorem NInv.texted {s : NS} (h : NInv s) : Nm (s.out ++ keepOf s.keep ++ textOf s.text) ∧ lastK (s.out ++ keepOf s.keep ++ textOf s.text) ≠ 3 ∧ (s.text ≠ [] → lastK (s.out ++ keepOf s.keep ++ textOf s.text) = 2) := by
 obtain ⟨h1, h2⟩ := h.kept
 by_cases ht : s.text = []
 ·rw [textOf, if_pos ht, List.append_nil]
  exact ⟨h1, by omega, fun e => absurd ht e⟩
 ·rw [textOf, if_neg ht, yy132]
  exact ⟨.snoc _ _ h1 (.inr ⟨rfl, rfl, ht⟩) (by show _ ≠ (2 : Int); omega) (fun e => by omega), by show (2 : Int) ≠ 3; omega, fun _ => rfl⟩
theorem NInv.flush {s : NS} (h : NInv s) : Nm s.flush ∧ (s.text ≠ [] ∨ 0 < s.gone → s.flush ≠ [] ∧ lastK s.flush ≠ 1) := by
 obtain ⟨h1, h2, h3⟩ := h.texted
 rw [NS.flush]
 by_cases hg : 0 < s.gone
 ·rw [goneOf, if_pos hg]
  exact ⟨.snoc _ _ h1 (.inl ⟨.inr rfl, by show 1 ≤ s.gone; omega, rfl⟩) h2 (fun e => by simp at e), fun _ => ⟨by simp, by rw [yy132]; show (3 : Int) ≠ 1; omega⟩⟩
 ·rw [goneOf, if_neg hg, List.append_nil]
  refine ⟨h1, fun e => ?_⟩
  have ht : s.text ≠ [] := e.elim (fun h => h) (fun h => absurd h hg)
  have h4 := h3 ht
  refine ⟨fun e => ?_, by omega⟩
  rw [e, yy364] at h4
  omega
theorem yy548 {s : NS} (h : NInv s) : ∀ y ∈ s.flush, y.n ≤ 1099511627776 := by
 intro y hy
 have h1 := h.keep1
 have h2 := h.gone1
 unfold NS.flush keepOf textOf goneOf at hy
 simp only [List.mem_append] at hy
 rcases hy with ((hy | hy) | hy) | hy
 ·exact h.top y hy
 ·split at hy
  ·rw [List.mem_singleton.1 hy]; exact h1
  ·cases hy
 ·split at hy
  ·cases hy
  ·rw [List.mem_singleton.1 hy]; show (0 : Int) ≤ _; omega
 ·split at hy
  ·rw [List.mem_singleton.1 hy]; exact h2
  ·cases hy
theorem NInv.step {s : NS} (h : NInv s) (c : CompV) : NInv (nStep s c) := by
 unfold nStep
 split
 ·exact ⟨h.nm, h.keep, h.last, h.keep0, h.keep1, h.gone0, h.gone1, h.top⟩
 ·split
  ·exact ⟨h.nm, h.keep, h.last, h.keep0, h.keep1, yy90 _ _, yy130 _ _, h.top⟩
  ·split
   ·exact h
   ·rename_i hn
    have hpos : ∀ a : Int, 0 < hld a c.n := fun a => by
     have : ¬ c.n < 1 := fun e => hn (.inr e)
     unfold hld
     omega
    split
    ·rename_i ht
     have hf := h.flush
     exact ⟨hf.1, fun _ => hpos 0, (hf.2 ht).2 |> fun e _ => e, yy90 _ _, yy130 _ _, Int.le_refl _, by show (0 : Int) ≤ _; omega, yy548 h⟩
    ·exact ⟨h.nm, fun _ => hpos s.keep, h.last, yy90 _ _, yy130 _ _, h.gone0, h.gone1, h.top⟩
theorem yy464 (l : List CompV) : NInv (nRun l) := by
 have : ∀ (l : List CompV) (s : NS), NInv s → NInv (l.foldl nStep s) := by
  intro l
  induction l with
  | nil => intro s h; exact h
  | cons c l ih => intro s h; exact ih _ (h.step c)
 exact this l _ .start
theorem yy717 (l : List CompV) : Nm (yy31 l) := (yy464 l).flush.1
def bOf (c : CompV) : Int := if c.kind = 1 ∨ c.kind = 3 then max c.n 0 else 0
def uOf (c : CompV) : Int := if c.kind = 1 then max c.n 0 else if c.kind = 2 then (loose c.text : Int) else 0
def nOf (c : CompV) : Int := max c.n 0
def sumB (l : List CompV) : Int := (l.map bOf).sum
def sumU (l : List CompV) : Int := (l.map uOf).sum
theorem yy614 (c : CompV) : 0 ≤ bOf c ∧ bOf c ≤ nOf c := by unfold bOf nOf; split <;> omega
theorem yy615 (c : CompV) : 0 ≤ uOf c ∧ uOf c ≤ nOf c + c.text.length := by
 have := yy122 c.text
 unfold uOf nOf
 split
 ·omega
 ·split <;> omega
theorem yy650 (l : List CompV) : 0 ≤ sumB l := by
 induction l with
 | nil => exact Int.le_refl _
 | cons c l ih => have := yy614 c; have h : sumB (c :: l) = bOf c + sumB l := by simp [sumB]
                  omega
theorem yy651 (l : List CompV) : 0 ≤ sumU l := by
 induction l with
 | nil => exact Int.le_refl _
 | cons c l ih => have := yy615 c; have h : sumU (c :: l) = uOf c + sumU l := by simp [sumU]
                  omega
theorem yy652 (l : List CompV) : rBase l = min (sumB l) 1099511627776 := by
 have : ∀ (l : List CompV) (n : Int), 0 ≤ n → n ≤ 1099511627776 → l.foldl yy38 n = min (n + sumB l) 1099511627776 := by
  intro l
  induction l with
  | nil => intro n h1 h2; show n = min (n + 0) _; omega
  | cons c l ih =>
   intro n h1 h2
   have e : sumB (c :: l) = bOf c + sumB l := by simp [sumB]
   have hp := yy650 l
   have e2 : yy38 n c = min (n + bOf c) 1099511627776 := by
    unfold yy38 bOf
    split
    ·unfold hld; omega
    ·omega
   have hb := yy614 c
   rw [List.foldl_cons, e, e2, ih _ (by omega) (by omega)]
   omega
 have h := this l 0 (by omega) (by omega)
 rwa [Int.zero_add] at h
theorem yy718 (l : List CompV) : rOut l = min (sumU l) 1099511627776 := by
 have : ∀ (l : List CompV) (n : Int), 0 ≤ n → n ≤ 1099511627776 → l.foldl yy54 n = min (n + sumU l) 1099511627776 := by
  intro l
  induction l with
  | nil => intro n h1 h2; show n = min (n + 0) _; omega
  | cons c l ih =>
   intro n h1 h2
   have e : sumU (c :: l) = uOf c + sumU l := by simp [sumU]
   have hp := yy651 l
   have e2 : yy54 n c = min (n + uOf c) 1099511627776 := by
    unfold yy54 uOf
    split
    ·unfold hld; omega
    ·split
     ·unfold hld; omega
     ·omega
   have hb := yy615 c
   rw [List.foldl_cons, e, e2, ih _ (by omega) (by omega)]
   omega
 have h := this l 0 (by omega) (by omega)
 rwa [Int.zero_add] at h
theorem V.append {a b va vb : List Nat} (h1 : V a va) (h2 : V b vb) : V (a ++ b) (va ++ vb) := by
 refine ⟨fun v hv => ?_, by rw [yy86, h1.bytes, h2.bytes]⟩
 rcases List.mem_append.1 hv with hv | hv
 ·exact h1.may v hv
 ·exact h2.may v hv
def AllV (l : List CompV) : Prop := ∀ y ∈ l, ∃ vs, V y.text vs
theorem yy269 {s : NS} (h1 : AllV s.out) (h2 : ∃ v, V s.text v) : AllV s.flush := by
 intro y hy
 unfold NS.flush keepOf textOf goneOf at hy
 simp only [List.mem_append] at hy
 rcases hy with ((hy | hy) | hy) | hy
 ·exact h1 y hy
 ·split at hy
  ·rw [List.mem_singleton.1 hy]; exact ⟨[], V.nil⟩
  ·cases hy
 ·split at hy
  ·cases hy
  ·rw [List.mem_singleton.1 hy]; exact h2
 ·split at hy
  ·rw [List.mem_singleton.1 hy]; exact ⟨[], V.nil⟩
  ·cases hy
theorem yy549 {s : NS} {c : CompV} (h1 : AllV s.out) (h2 : ∃ v, V s.text v) (hc : ∃ v, V c.text v) : AllV (nStep s c).out ∧ ∃ v, V (nStep s c).text v := by
 unfold nStep
 split
 ·obtain ⟨va, ha⟩ := h2
  obtain ⟨vb, hb⟩ := hc
  exact ⟨h1, _, ha.append hb⟩
 ·split
  ·exact ⟨h1, h2⟩
  ·split
   ·exact ⟨h1, h2⟩
   ·split
    ·exact ⟨yy269 h1 h2, [], V.nil⟩
    ·exact ⟨h1, h2⟩
theorem yy653 (l : List CompV) (hv : AllV l) : AllV (yy31 l) := by
 have : ∀ (l : List CompV) (s : NS), AllV l → AllV s.out → (∃ v, V s.text v) → AllV (l.foldl nStep s).out ∧ ∃ v, V (l.foldl nStep s).text v := by
  intro l
  induction l with
  | nil => intro s _ h1 h2; exact ⟨h1, h2⟩
  | cons c l ih =>
   intro s hv h1 h2
   have hst := yy549 h1 h2 (hv c (by simp))
   exact ih _ (fun y hy => hv y (by simp [hy])) hst.1 hst.2
 have h := this l nStart hv (fun y hy => by cases hy) ⟨[], V.nil⟩
 exact yy269 h.1 h.2
theorem yy270 (s : NS) : tlen s.flush = tlen s.out + s.text.length := by
 rw [NS.flush, yy75, yy75, yy75]
 have e1 : tlen (keepOf s.keep) = 0 := by unfold keepOf; split <;> rfl
 have e2 : tlen (textOf s.text) = s.text.length := by
  unfold textOf; split
  ·rename_i e; rw [e]; rfl
  ·simp [tlen]
 have e3 : tlen (goneOf s.gone) = 0 := by unfold goneOf; split <;> rfl
 omega
theorem yy550 (s : NS) (c : CompV) : tlen (nStep s c).out + (nStep s c).text.length ≤ tlen s.out + s.text.length + c.text.length := by
 unfold nStep
 split
 ·show tlen s.out + (s.text ++ c.text).length ≤ _
  rw [List.length_append]; omega
 ·split
  ·show tlen s.out + s.text.length ≤ _; omega
  ·split
   ·omega
   ·split
    ·show tlen s.flush + 0 ≤ _
     rw [yy270]; omega
    ·show tlen s.out + s.text.length ≤ _; omega
theorem yy235 (l : List CompV) : tlen (yy31 l) ≤ tlen l := by
 have : ∀ (l : List CompV) (s : NS), tlen (l.foldl nStep s).out + (l.foldl nStep s).text.length ≤ tlen s.out + s.text.length + tlen l := by
  intro l
  induction l with
  | nil => intro s; exact Nat.le_add_right _ _
  | cons c l ih =>
   intro s
   have e : tlen (c :: l) = c.text.length + tlen l := by simp [tlen]
   have h1 := ih (nStep s c)
   have h2 := yy550 s c
   rw [List.foldl_cons, e]
   omega
 have h := this l nStart
 rw [yy31, yy270]
 have e : tlen nStart.out + nStart.text.length = 0 := rfl
 have e2 : nRun l = l.foldl nStep nStart := rfl
 rw [e2]
 omega
theorem yy654 (l : List CompV) : (yy31 l).length ≤ 3 * l.length + 3 := Nat.le_trans (yy184 _) (by have := (yy613 l).out; omega)
def Gd (c : CompV) : Prop := Fit64 c.kind ∧ Fit64 c.n ∧ ∀ x ∈ c.text, x < 256
theorem yy465 {s : NS} (hi : NInv s) (h1 : ∀ y ∈ s.out, Gd y) (h2 : ∀ x ∈ s.text, x < 256) : ∀ y ∈ s.flush, Gd y := by
 intro y hy
 have k0 := hi.keep0; have k1 := hi.keep1; have g0 := hi.gone0; have g1 := hi.gone1
 unfold NS.flush keepOf textOf goneOf at hy
 simp only [List.mem_append] at hy
 rcases hy with ((hy | hy) | hy) | hy
 ·exact h1 y hy
 ·split at hy
  ·rw [List.mem_singleton.1 hy]; exact ⟨by unfold Fit64; simp, by unfold Fit64; show _ ≤ s.keep ∧ s.keep ≤ _; omega, fun x hx => by cases hx⟩
  ·cases hy
 ·split at hy
  ·cases hy
  ·rw [List.mem_singleton.1 hy]; exact ⟨by unfold Fit64; simp, by unfold Fit64; simp, h2⟩
 ·split at hy
  ·rw [List.mem_singleton.1 hy]; exact ⟨by unfold Fit64; simp, by unfold Fit64; show _ ≤ s.gone ∧ s.gone ≤ _; omega, fun x hx => by cases hx⟩
  ·cases hy
theorem yy551 (l : List CompV) (hg : ∀ y ∈ l, y.Good) (ht : tlen l ≤ 1099511627776) : ∀ y ∈ yy31 l, y.Good := by
 have : ∀ (l : List CompV) (s : NS), (∀ y ∈ l, y.Good) → NInv s → (∀ y ∈ s.out, Gd y) → (∀ x ∈ s.text, x < 256) → (∀ y ∈ (l.foldl nStep s).out, Gd y) ∧ ∀ x ∈ (l.foldl nStep s).text, x < 256 := by
  intro l
  induction l with
  | nil => intro s _ _ h1 h2; exact ⟨h1, h2⟩
  | cons c l ih =>
   intro s hg hi h1 h2
   have hc := hg c (by simp)
   have hs : (∀ y ∈ (nStep s c).out, Gd y) ∧ ∀ x ∈ (nStep s c).text, x < 256 := by
    unfold nStep
    split
    ·refine ⟨h1, fun x hx => ?_⟩
     rcases List.mem_append.1 hx with hx | hx
     ·exact h2 x hx
     ·exact hc.2.2.1 x hx
    ·split
     ·exact ⟨h1, h2⟩
     ·split
      ·exact ⟨h1, h2⟩
      ·split
       ·exact ⟨yy465 hi h1 h2, fun x hx => by cases hx⟩
       ·exact ⟨h1, h2⟩
   exact ih _ (fun y hy => hg y (by simp [hy])) (hi.step c) hs.1 hs.2
 have h := this l nStart hg .start (fun y hy => by cases hy) (fun x hx => by cases hx)
 have h2 := yy465 (yy464 l) h.1 h.2
 intro y hy
 have h3 := h2 y hy
 have h4 : y.text.length ≤ tlen (yy31 l) := by
  obtain ⟨i, hi, rfl⟩ := List.getElem_of_mem hy
  have := yy310 hi
  omega
 have h5 := yy235 l
 exact ⟨h3.1, h3.2.1, h3.2.2, by unfold maxLen; omega⟩
end Go.Proofs.YtjpjdkdbgjipnaaDoor
namespace Go.Proofs.YtjpjdkdbgjipnaaDoor
open Go.RowKit Go.Deep
theorem yy110 (a b : Int) (h0 : 0 ≤ a) (h1 : a ≤ 1099511627776) (w : World) :
  Calls Tryd.prog 92 #[.int .i64 a, .int .i64 b] w fun e w' => e = .returned (.int .i64 (hld a b)) ∧ w = w' := by
 rcases (show b < 0 ∨ (0 ≤ b ∧ b ≤ 1099511627776) ∨ 1099511627776 < b by omega) with g | ⟨g, g'⟩ | g <;>
  rcases (show a + b ≤ 1099511627776 ∨ 1099511627776 < a + b by omega) with k | k <;>
  ·go_enter Tryd.func92, Tryd.ntmps92
   go_wp2
   all_goals
    go_ret
    refine ⟨Eq.trans (b := Ending.returned (.int .i64 _)) rfl (congrArg (fun n : Int => Ending.returned (.int .i64 n)) ?_), rfl⟩
    unfold hld
    omega
theorem yy190 (n : Int) (w : World) :
  Calls Tryd.prog 103 #[.int .i64 n] w fun e w' => e = .returned (.agg #[.int .i64 1, .int .i64 n, .string (bstr [])]) ∧ Below w.heap.size w w' := by
 go_enter Tryd.func103, Tryd.ntmps103
 go_wp2
 refine bodyPost_ret (results_cell_row rfl _ _ w.heap.size 51 #[.int .i64 1, .int .i64 n, .string (bstr [])] (0, 0) _ rfl (heap_alloc_new w _) Tryd.underlying51 rfl (by kernel_rfl)) rfl ?_
 exact ⟨rfl, (Below.refl _ _).alloc (Nat.le_refl _) _⟩
theorem yy312 (n : Int) (w : World) :
  Calls Tryd.prog 105 #[.int .i64 n] w fun e w' => e = .returned (.agg #[.int .i64 3, .int .i64 n, .string (bstr [])]) ∧ Below w.heap.size w w' := by
 go_enter Tryd.func105, Tryd.ntmps105
 go_wp2
 refine bodyPost_ret (results_cell_row rfl _ _ w.heap.size 51 #[.int .i64 3, .int .i64 n, .string (bstr [])] (0, 0) _ rfl (heap_alloc_new w _) Tryd.underlying51 rfl (by kernel_rfl)) rfl ?_
 exact ⟨rfl, (Below.refl _ _).alloc (Nat.le_refl _) _⟩
theorem yy313 (t : List Nat) (w : World) :
  Calls Tryd.prog 104 #[.string (bstr t)] w fun e w' => e = .returned (.agg #[.int .i64 2, .int .i64 0, .string (bstr t)]) ∧ Below w.heap.size w w' := by
 go_enter Tryd.func104, Tryd.ntmps104
 go_wp2
 refine bodyPost_ret (results_cell_row rfl _ _ w.heap.size 51 #[.int .i64 2, .int .i64 0, .string (bstr t)] (0, 0) _ rfl (heap_alloc_new w _) Tryd.underlying51 rfl (by kernel_rfl)) rfl ?_
 exact ⟨rfl, (Below.refl _ _).alloc (Nat.le_refl _) _⟩
set_option maxHeartbeats 2000000 in
set_option maxRecDepth 100000 in
theorem yy191 (A : Option Addr) (c : Nat) (l : List CompV) (hl : l.length ≤ maxLen) (w : World) (hc : yy6 w A l) :
  Calls Tryd.prog 77 #[.slice A l.length c] w fun e w' => e = .returned (.int .i64 (rBase l)) ∧ Below w.heap.size w w' := by
 unfold maxLen at hl
 have HC := xh hc; clear hc
 obtain ⟨T, HT⟩ : ∃ T, Hid (rBase l = T) := ⟨_, xh rfl⟩
 rw [HT.out]
 go_enter Tryd.func77, Tryd.ntmps77
 go_wp2
 go_loopw [3, 8] (fun n i wr => ∃ (k : Nat) (m : Int), k ≤ l.length ∧ i = .int .i64 k ∧ n = .int .i64 m ∧ rBase (l.take k) = m ∧ Below w.heap.size w wr) (fun _ i _ => l.length - (intOf i).toNat)
 case atStart => exact ⟨0, 0, Nat.zero_le _, rfl, rfl, rfl, Below.refl _ _⟩
 case round =>
  obtain ⟨k, m, hk, rfl, rfl, hm, hbel⟩ := hrel
  have HM := xh hm; clear hm
  have HBEL := xh hbel; clear hbel
  by_cases hlt : k < l.length
  ·obtain ⟨b, off, rfl, _⟩ := HC.out.form (by omega)
   obtain ⟨x0, x1, x2⟩ := (HC.out.below HBEL.out).at_ hlt
   have HS := xh (show rBase (l.take (k + 1)) = yy38 m l[k] by rw [List.take_succ_eq_append_getElem hlt, yy268, HM.out])
   have HFIT : Hid (0 ≤ m ∧ m ≤ 1099511627776) := by show _ ∧ _; rw [← HM.out]; exact yy362 _
   generalize l[k] = y at x0 x1 x2 HS
   obtain ⟨kd, n, tx⟩ := y
   simp only at x0 x1 x2
   have hnew : Below wr.heap.size wr (wr.alloc (Obj.cells #[Value.int .i64 kd, Value.int .i64 n, Value.string (bstr tx)] 51)) := (Below.refl _ _).alloc (Nat.le_refl _) _
   have HB1 : Hid (Below w.heap.size w (wr.alloc (Obj.cells #[Value.int .i64 kd, Value.int .i64 n, Value.string (bstr tx)] 51))) := HBEL.out.trans (hnew.mono HBEL.out.size)
   clear hnew
   by_cases h1 : kd = 1 ∨ kd = 3
   ·rw [yy38, if_pos h1] at HS
    have HH := xh (fun w => yy110 m n HFIT.out.1 HFIT.out.2 w)
    obtain ⟨q, HQ⟩ : ∃ q, Hid (hld m n = q) := ⟨_, xh rfl⟩
    have HS2 : Hid (rBase (l.take (k + 1)) = q) := by show _ = _; rw [HS.out]; exact HQ.out
    rw [HQ.out] at HH
    rcases h1 with rfl | rfl
    ·go_wp2_with fail
     refine (HH.out _).mono ?_
     rintro e w1 ⟨rfl, rfl⟩
     go_wp2
     go_roundw
     case rel => exact ⟨k + 1, q, by omega, by go_num, rfl, HS2.out, HB1.out⟩
     case measure => simp [intOf]; omega
    ·go_wp2_with fail
     refine (HH.out _).mono ?_
     rintro e w1 ⟨rfl, rfl⟩
     go_wp2
     go_roundw
     case rel => exact ⟨k + 1, q, by omega, by go_num, rfl, HS2.out, HB1.out⟩
     case measure => simp [intOf]; omega
   ·have g1 : (kd == 1) = false := xn fun h => h1 (.inl h)
    have g3 : (kd == 3) = false := xn fun h => h1 (.inr h)
    rw [yy38, if_neg h1] at HS
    clear h1
    go_wp2
    go_roundw
    case rel => exact ⟨k + 1, m, by omega, by go_num, rfl, HS.out, HB1.out⟩
    case measure => simp [intOf]; omega
  ·have HE : Hid (m = T) := by show _ = _; rw [← HM.out, List.take_of_length_le (by omega), HT.out]
   go_wp2
   go_ret
   exact ⟨by rw [← HE.out]; rfl, HBEL.out⟩
set_option maxHeartbeats 2000000 in
set_option maxRecDepth 100000 in
theorem yy241 (A : Option Addr) (c : Nat) (l : List CompV) (hl : l.length ≤ maxLen) (hf : Fine1 l) (w : World) (hc : yy6 w A l) :
  Calls Tryd.prog 78 #[.slice A l.length c] w fun e w' => e = .returned (.int .i64 (rOut l)) ∧ Below w.heap.size w w' := by
 unfold maxLen at hl
 have HC := xh hc; clear hc
 have HF := xh hf; clear hf
 obtain ⟨T, HT⟩ : ∃ T, Hid (rOut l = T) := ⟨_, xh rfl⟩
 rw [HT.out]
 go_enter Tryd.func78, Tryd.ntmps78
 go_wp2
 go_loopw [3, 8] (fun n i wr => ∃ (k : Nat) (m : Int), k ≤ l.length ∧ i = .int .i64 k ∧ n = .int .i64 m ∧ rOut (l.take k) = m ∧ Below w.heap.size w wr) (fun _ i _ => l.length - (intOf i).toNat)
 case atStart => exact ⟨0, 0, Nat.zero_le _, rfl, rfl, rfl, Below.refl _ _⟩
 case round =>
  obtain ⟨k, m, hk, rfl, rfl, hm, hbel⟩ := hrel
  have HM := xh hm; clear hm
  have HBEL := xh hbel; clear hbel
  by_cases hlt : k < l.length
  ·obtain ⟨b, off, rfl, _⟩ := HC.out.form (by omega)
   obtain ⟨x0, x1, x2⟩ := (HC.out.below HBEL.out).at_ hlt
   have HS := xh (show rOut (l.take (k + 1)) = yy54 m l[k] by rw [List.take_succ_eq_append_getElem hlt, yy231, HM.out])
   have HFIT : Hid (0 ≤ m ∧ m ≤ 1099511627776) := by show _ ∧ _; rw [← HM.out]; exact yy646 _
   have HY := xh (HF.out l[k] (List.getElem_mem hlt))
   generalize l[k] = y at x0 x1 x2 HS HY
   obtain ⟨kd, n, tx⟩ := y
   simp only at x0 x1 x2
   have hnew : Below wr.heap.size wr (wr.alloc (Obj.cells #[Value.int .i64 kd, Value.int .i64 n, Value.string (bstr tx)] 51)) := (Below.refl _ _).alloc (Nat.le_refl _) _
   have HB1 : Hid (Below w.heap.size w (wr.alloc (Obj.cells #[Value.int .i64 kd, Value.int .i64 n, Value.string (bstr tx)] 51))) := HBEL.out.trans (hnew.mono HBEL.out.size)
   clear hnew
   by_cases h1 : kd = 1
   ·subst h1
    rw [yy54, if_pos rfl] at HS
    have HH := xh (fun w => yy110 m n HFIT.out.1 HFIT.out.2 w)
    obtain ⟨q, HQ⟩ : ∃ q, Hid (hld m n = q) := ⟨_, xh rfl⟩
    have HS2 : Hid (rOut (l.take (k + 1)) = q) := by show _ = _; rw [HS.out]; exact HQ.out
    rw [HQ.out] at HH
    go_wp2_with fail
    refine (HH.out _).mono ?_
    rintro e w1 ⟨rfl, rfl⟩
    go_wp2
    go_roundw
    case rel => exact ⟨k + 1, q, by omega, by go_num, rfl, HS2.out, HB1.out⟩
    case measure => simp [intOf]; omega
   ·have g1 : (kd == 1) = false := xn h1
    by_cases h2 : kd = 2
    ·subst h2
     rw [yy54, if_neg h1, if_pos rfl] at HS
     have HL := xh (fun w => yy552 tx HY.out.1.2.2.1 HY.out.2 w)
     have HH := xh (fun w => yy110 m (loose tx : Int) HFIT.out.1 HFIT.out.2 w)
     obtain ⟨z, HZ⟩ : ∃ z, Hid (loose tx = z) := ⟨_, xh rfl⟩
     obtain ⟨q, HQ⟩ : ∃ q, Hid (hld m (loose tx : Int) = q) := ⟨_, xh rfl⟩
     have HS2 : Hid (rOut (l.take (k + 1)) = q) := by show _ = _; rw [HS.out]; exact HQ.out
     rw [HQ.out] at HH
     rw [HZ.out] at HL HH
     go_wp2_with fail
     refine (HL.out _).mono ?_
     rintro e w1 ⟨rfl, hb1⟩
     have HB2 : Hid (Below w.heap.size w w1) := HB1.out.trans (hb1.mono HB1.out.size)
     clear hb1
     go_wp2_with fail
     refine (HH.out _).mono ?_
     rintro e w2 ⟨rfl, rfl⟩
     go_wp2
     go_roundw
     case rel => exact ⟨k + 1, q, by omega, by go_num, rfl, HS2.out, HB2.out⟩
     case measure => simp [intOf]; omega
    ·have g2 : (kd == 2) = false := xn h2
     rw [yy54, if_neg h1, if_neg h2] at HS
     clear h1 h2
     go_wp2
     go_roundw
     case rel => exact ⟨k + 1, m, by omega, by go_num, rfl, HS.out, HB1.out⟩
     case measure => simp [intOf]; omega
  ·have HE : Hid (m = T) := by show _ = _; rw [← HM.out, List.take_of_length_le (by omega), HT.out]
   go_wp2
   go_ret
   exact ⟨by rw [← HE.out]; rfl, HBEL.out⟩
theorem yy242 : (Tryd.prog.info? 51).map (fun i => (i.zero, i.size, i.bytes)) = some (some (.agg #[.int .i64 0, .int .i64 0, .string { data := #[] }]), 3, 32) := by kernel_rfl
end Go.Proofs.YtjpjdkdbgjipnaaDoor
namespace Go.Proofs.YtjpjdkdbgjipnaaDoor
open Go.RowKit Go.Deep Go.Lib
structure Aside (g B : Nat) (w w' : World) : Prop where
 os : w'.os = w.os
 tape : w'.tape = w.tape
 output : w'.output = w.output
 size : w.heap.size ≤ w'.heap.size
 block : ∀ k, k < B → k ≠ g → w'.heap[k]? = w.heap[k]?
theorem Aside.refl (g B : Nat) (w : World) : Aside g B w w := ⟨rfl, rfl, rfl, Nat.le_refl _, fun _ _ _ => rfl⟩
theorem Aside.trans {g B : Nat} {a b c : World} (h : Aside g B a b) (k : Aside g B b c) : Aside g B a c :=
 ⟨k.os.trans h.os, k.tape.trans h.tape, k.output.trans h.output, Nat.le_trans h.size k.size, fun i hi hg => (k.block i hi hg).trans (h.block i hi hg)⟩
theorem Aside.of_below {g B : Nat} {w w' : World} (h : Below w.heap.size w w') (hB : B ≤ w.heap.size) : Aside g B w w' := ⟨h.os, h.tape, h.output, h.size, fun k hk _ => h.block k (by omega)⟩
theorem Aside.grown {g B : Nat} {a w w' : World} {row : Option Nat} (h : Aside g B a w) (hg : w.grownBy w' row) (hB : B ≤ w.heap.size) (hr : ∀ k, row = some k → B ≤ k) : Aside g B a w' :=
 h.trans ⟨hg.os, hg.tape, hg.output, hg.size, fun k hk _ => hg.block k (by omega) (fun e => by have := hr k e.symm; omega)⟩
theorem Aside.set {g B : Nat} {a w : World} (h : Aside g B a w) (i : Nat) (v : Value) : Aside g B a (w.setCell ⟨g, i, none⟩ v) :=
 h.trans ⟨rfl, rfl, rfl, by simp [World.setCell], fun k _ hk => Below.heap_setCell _ _ _ _ hk⟩
theorem Aside.below {g B h : Nat} {W w w' : World} (k : Aside g B w w') (hb : Below h W w) (hg : h ≤ g) (hB : h ≤ B) : Below h W w' :=
 hb.trans ⟨k.os, k.tape, k.output, k.size, fun i hi => k.block i (by omega) (by omega)⟩
def yy472 (keep : Int) (A : Option Addr) (n c : Nat) (gone : Int) (i : Nat) : Value := if i = 0 then .int .i64 keep else if i = 1 then .slice A n c else .int .i64 gone
def NowAt (g B : Nat) (s : NS) (o : Value) (w : World) : Prop :=
 g < B ∧ B ≤ w.heap.size ∧ (∃ A c, w.rowIs g 130 3 (yy472 s.keep A s.text.length c s.gone) ∧ w.ownsRow B 5 1 (.slice A s.text.length c) s.text.length (u8s s.text)) ∧ w.ownsRow B 51 3 o s.out.length (s.out.flatMap yy2)
theorem NowAt.below {g B : Nat} {s : NS} {o : Value} {w w' : World} (h : NowAt g B s o w) (hb : Below w.heap.size w w') : NowAt g B s o w' := by
 obtain ⟨h1, h2, ⟨A, c, hr, ht⟩, ho⟩ := h
 exact ⟨h1, Nat.le_trans h2 hb.size, ⟨A, c, hr.of_block (hb.block g hr.lt), own_below ht hb⟩, own_below ho hb⟩
theorem NowAt.row {g B : Nat} {s : NS} {o : Value} {w : World} (h : NowAt g B s o w) : w.ownsRow B 51 3 o s.out.length (s.out.flatMap yy2) := h.2.2.2
theorem NowAt.up {g B : Nat} {s : NS} {o : Value} {w : World} (h : NowAt g B s o w) : B ≤ w.heap.size := h.2.1
theorem NowAt.out {g B : Nat} {s : NS} {o : Value} {w : World} (h : NowAt g B s o w) : ∃ A c, o = .slice A s.out.length c := own_slice h.row
theorem NowAt.read {g B : Nat} {s : NS} {o : Value} {w : World} (h : NowAt g B s o w) : ∃ A c, w.cell? ⟨g, 0, none⟩ = some (.int .i64 s.keep) ∧ w.cell? ⟨g, 1, none⟩ = some (.slice A s.text.length c) ∧ w.cell? ⟨g, 2, none⟩ = some (.int .i64 s.gone) ∧
  w.frozen? ⟨g, 0, none⟩ = false ∧ w.frozen? ⟨g, 1, none⟩ = false ∧ w.frozen? ⟨g, 2, none⟩ = false ∧ w.ownsRow B 5 1 (.slice A s.text.length c) s.text.length (u8s s.text) ∧ w.rowIs g 130 3 (yy472 s.keep A s.text.length c s.gone) := by
 obtain ⟨h1, h2, ⟨A, c, hr, ht⟩, ho⟩ := h
 exact ⟨A, c, hr.cell (i := 0) (by omega), hr.cell (i := 1) (by omega), hr.cell (i := 2) (by omega), hr.frozen 0, hr.frozen 1, hr.frozen 2, ht, hr⟩
theorem NowAt.push {g B : Nat} {s : NS} {o o' : Value} {out' : List CompV} {w w' : World} (h : NowAt g B s o w) (hg : w.grownBy w' o.ownBlock) (ho : w'.ownsRow B 51 3 o' out'.length (out'.flatMap yy2)) : NowAt g B { s with out := out' } o' w' := by
 obtain ⟨h1, h2, ⟨A, c, hr, ht⟩, ho0⟩ := h
 exact ⟨h1, Nat.le_trans h2 hg.size, ⟨A, c, hr.of_block (hg.block g hr.lt (fun e => by have := (ho0.lt g e.symm).1; omega)), yy134 ht ho0 (by decide) hg⟩, ho⟩
theorem yy21 {w : World} {B g : Nat} {e : TypeId} {size : Nat} {v : Value} {n : Nat} {xs : List Value} (h : w.ownsRow B e size v n xs) (hg : g < B) (i : Nat) (u : Value) : (w.setCell ⟨g, i, none⟩ u).ownsRow B e size v n xs :=
 yy314 h ((Only.refl g w).set i u) hg
theorem NowAt.setKeep {g B : Nat} {s : NS} {o : Value} {w : World} (h : NowAt g B s o w) (k : Int) : NowAt g B { s with keep := k } o (w.setCell ⟨g, 0, none⟩ (.int .i64 k)) := by
 obtain ⟨h1, h2, ⟨A, c, hr, ht⟩, ho⟩ := h
 refine ⟨h1, by simpa [World.setCell] using h2, ⟨A, c, (hr.set 0 (.int .i64 k)).congr fun i hi => ?_, yy21 ht h1 _ _⟩, yy21 ho h1 _ _⟩
 rcases (show i = 0 ∨ i = 1 ∨ i = 2 by omega) with rfl | rfl | rfl <;> rfl
theorem NowAt.setGone {g B : Nat} {s : NS} {o : Value} {w : World} (h : NowAt g B s o w) (k : Int) : NowAt g B { s with gone := k } o (w.setCell ⟨g, 2, none⟩ (.int .i64 k)) := by
 obtain ⟨h1, h2, ⟨A, c, hr, ht⟩, ho⟩ := h
 refine ⟨h1, by simpa [World.setCell] using h2, ⟨A, c, (hr.set 2 (.int .i64 k)).congr fun i hi => ?_, yy21 ht h1 _ _⟩, yy21 ho h1 _ _⟩
 rcases (show i = 0 ∨ i = 1 ∨ i = 2 by omega) with rfl | rfl | rfl <;> rfl
theorem NowAt.setText {g B : Nat} {s : NS} {o : Value} {t : List Nat} {A A' : Option Addr} {c c' : Nat} {w w1 : World} (h : NowAt g B s o w) (hown : w.ownsRow B 5 1 (.slice A s.text.length c) s.text.length (u8s s.text))
  (hg : w.grownBy w1 (Value.slice A s.text.length c).ownBlock) (hown1 : w1.ownsRow B 5 1 (.slice A' t.length c') t.length (u8s t)) :
  NowAt g B { s with text := t } o (w1.setCell ⟨g, 1, none⟩ (.slice A' t.length c')) ∧ Aside g B w (w1.setCell ⟨g, 1, none⟩ (.slice A' t.length c')) := by
 obtain ⟨h1, h2, ⟨A0, c0, hr, ht⟩, ho⟩ := h
 have hr1 : w1.rowIs g 130 3 (yy472 s.keep A0 s.text.length c0 s.gone) := hr.of_block (hg.block g hr.lt (fun e => by have := (hown.lt g e.symm).1; omega))
 refine ⟨⟨h1, by simpa [World.setCell] using Nat.le_trans h2 hg.size, ⟨A', c', (hr1.set 1 (.slice A' t.length c')).congr fun i hi => ?_, yy21 hown1 h1 _ _⟩, yy21 (yy134 ho hown (by decide) hg) h1 _ _⟩, ((Aside.refl g B w).grown hg h2 (fun k e => (hown.lt k e).1)).set 1 _⟩
 rcases (show i = 0 ∨ i = 1 ∨ i = 2 by omega) with rfl | rfl | rfl <;> rfl
theorem yy659 {w : World} {B : Nat} {A : Option Addr} {n c : Nat} {xs : List Value} (h : w.ownsRow B 5 1 (.slice A n c) n xs) : w.ownsRow B 5 1 (.slice (addrHigh A c) 0 c) 0 (u8s []) := by
 refine ⟨rfl, ?_⟩
 rcases h.2 with ⟨h2, _⟩ | ⟨g', cap, cur, hv, hg, hh, h3, h4, h5, _⟩
 ·injection h2 with e1 _ e3
  subst e1 e3
  exact .inl ⟨rfl, rfl⟩
 ·injection hv with e1 _ e3
  subst e1 e3
  refine .inr ⟨g', c, cur, ?_, hg, hh, Nat.zero_le _, h4, h5, by simp [u8s]⟩
  unfold addrHigh
  split
  ·rfl
  ·simp [Addr.add]
theorem NowAt.begin {g B : Nat} {s : NS} {o : Value} {A : Option Addr} {c : Nat} {w : World} (h : NowAt g B s o w) (hown : w.ownsRow B 5 1 (.slice A s.text.length c) s.text.length (u8s s.text)) :
  NowAt g B ⟨s.out, 0, 0, []⟩ o (((w.setCell ⟨g, 0, none⟩ (.int .i64 0)).setCell ⟨g, 1, none⟩ (.slice (addrHigh A c) 0 c)).setCell ⟨g, 2, none⟩ (.int .i64 0)) := by
 obtain ⟨h1, h2, ⟨A0, c0, hr, ht⟩, ho⟩ := h
 refine ⟨h1, by simpa [World.setCell] using h2, ⟨addrHigh A c, c, (((hr.set 0 (.int .i64 0)).set 1 (.slice (addrHigh A c) 0 c)).set 2 (.int .i64 0)).congr fun i hi => ?_, yy21 (yy21 (yy21 (yy659 hown) h1 _ _) h1 _ _) h1 _ _⟩, yy21 (yy21 (yy21 ho h1 _ _) h1 _ _) h1 _ _⟩
 rcases (show i = 0 ∨ i = 1 ∨ i = 2 by omega) with rfl | rfl | rfl <;> rfl
theorem yy30 {ops : Array Oper} {rest : List Oper} {o : Oper} {a : Act} {w : World} {Q : Exit → Act → World → Prop} (hgd : o.guard = none) (s x : Operand)
  (ho : o.op = .call { callee := .builtin .append, args := #[s, x], argTypes := #[40, 40] })
  (B : Nat) (v : Value) (out : List CompV) (cr : CompV) (hs : a.eval s = v) (hown : w.ownsRow B 51 3 v out.length (out.flatMap yy2)) (hb : B ≤ w.heap.size)
  (hx : a.eval x = .slice (some ⟨w.heap.size, 0, none⟩) 1 1) (hlen : out.length ≤ 1099511627776)
  (h : ∀ out' A' c' w', out' = out ++ [cr] → w'.ownsRow B 51 3 (.slice A' out'.length c') out'.length (out'.flatMap yy2) → (w.alloc (.cells #[.int .i64 cr.kind, .int .i64 cr.n, .string (bstr cr.text)] 51)).grownBy w' v.ownBlock → wpList Tryd.prog ops Q rest (a.put o.dst (.slice A' out'.length c')) w') :
  wpList Tryd.prog ops Q (o :: rest) a (w.alloc (.cells #[.int .i64 cr.kind, .int .i64 cr.n, .string (bstr cr.text)] 51)) := by
 obtain ⟨i0, hi0, hz0, hz1, hz2⟩ := info_parts yy242
 refine wpList_append_own_wide _ hgd s x 40 ho B 51 i0 (.agg #[.int .i64 0, .int .i64 0, .string { data := #[] }]) 3 32 Tryd.underlying40 hi0 hz0 hz1 hz2 rfl (by omega) v out.length (out.flatMap yy2) hs (hown.alloc _) ⟨w.heap.size, 0, none⟩ 1 1 (yy2 cr) hx rfl ?_ ?_ (by simp only [maxLen]; omega) (by omega) (by simp; omega) ?_
 ·intro j u hj
  rw [Go.WideShapes.add_plain, Nat.zero_add, cell_of_row _ _ _ _ _ _ (heap_alloc_new w _)]
  simpa [yy2] using hj
 ·intro u hu; simp [yy2] at hu; rcases hu with rfl | rfl | rfl <;> rfl
 intro v' w' hown' hgr _
 have e : out.flatMap yy2 ++ yy2 cr = (out ++ [cr]).flatMap yy2 := by simp
 have hown2 : w'.ownsRow B 51 3 v' (out ++ [cr]).length ((out ++ [cr]).flatMap yy2) := by
  rw [← e, List.length_append]
  exact hown'
 obtain ⟨A', c', rfl⟩ := own_slice hown2
 exact h _ A' c' w' rfl hown2 hgr
set_option maxHeartbeats 1000000 in
set_option maxRecDepth 100000 in
theorem yy473 (g B : Nat) (s : NS) (o : Value) (hg : 0 ≤ s.gone) (w : World) (h : NowAt g B s o w) :
  Calls Tryd.prog 95 #[.pointer (some ⟨g, 0, none⟩)] w fun e w' => e = .returned (.bool (decide (s.text = [] ∧ s.gone = 0))) ∧ w = w' := by
 obtain ⟨A, c, c0, c1, c2, _⟩ := h.read
 clear h
 obtain ⟨out, keep, gone, tx⟩ := s
 simp only at c0 c1 c2 hg ⊢
 cases tx with
 | nil =>
  simp only [List.length_nil] at c1
  by_cases hz : gone = 0
  ·subst hz
   rw [show decide (([] : List Nat) = [] ∧ (0 : Int) = 0) = true by simp]
   go_enter Tryd.func95, Tryd.ntmps95
   go_wp2
   go_ret
   exact ⟨rfl, rfl⟩
  ·have gz : (gone == 0) = false := xn hz
   rw [show decide (([] : List Nat) = [] ∧ gone = 0) = false by simp [hz]]
   clear hz
   go_enter Tryd.func95, Tryd.ntmps95
   go_wp2
   go_ret
   exact ⟨rfl, rfl⟩
 | cons x t =>
  rw [show decide (x :: t = [] ∧ gone = 0) = false by simp]
  rw [List.length_cons] at c1
  generalize t.length = n at c1
  have gz : (((n + 1 : Nat) : Int) == 0) = false := xn (by omega)
  go_enter Tryd.func95, Tryd.ntmps95
  go_wp2
  go_ret
  exact ⟨rfl, rfl⟩
end Go.Proofs.YtjpjdkdbgjipnaaDoor
namespace Go.Proofs.YtjpjdkdbgjipnaaDoor
open Go.RowKit Go.Deep
theorem yy136 : Tryd.prog.elem 40 = 51 := by kernel_rfl
theorem yy372 (w : World) : (sizeOf 51).run Tryd.prog w = .ok 3 w := Tryd.sizeOf51 w
theorem yy272 {w : World} {A : Option Addr} {x : CompV} {l : List CompV} {c : Nat} (h : yy6 w A (x :: l)) (hc : (x :: l).length ≤ c) :
  ∃ b off A', A = some ⟨b, off, none⟩ ∧ b < w.heap.size ∧ w.cell? ⟨b, off, none⟩ = some (.int .i64 x.kind) ∧ w.cell? ⟨b, off + 1, none⟩ = some (.int .i64 x.n) ∧ w.cell? ⟨b, off + 2, none⟩ = some (.string (bstr x.text)) ∧
   (∀ w, (Instr.slice 40 (.slice (some ⟨b, off, none⟩) (l.length + 1) c) (some (.int .i64 1)) none none).run Tryd.prog w = .ok (.slice A' l.length (c - 1)) w) ∧ yy6 w A' l ∧ l.length ≤ c - 1 := by
 obtain ⟨b, off, rfl, hb⟩ := h.form (by simp)
 obtain ⟨h0, h1, h2⟩ := h.at_ (i := 0) (by simp)
 simp only [Nat.zero_mul, Nat.add_zero, List.getElem_cons_zero] at h0 h1 h2
 have hc' : l.length + 1 ≤ c := by simpa using hc
 refine ⟨b, off, (if c = 1 then some ⟨b, off, none⟩ else some ⟨b, off + 3, none⟩), rfl, hb, h0, h1, h2, fun w => ?_, ?_, by omega⟩
 ·rw [run_slice_l (P := Tryd.prog) (w := w) 40 (some ⟨b, off, none⟩) (l.length + 1) c (by rw [yy136]; exact Tryd.underlying40) .i64 (1 : Int) (by omega) (by omega), yy136, yy372]
  simp [Result.andThen, sliced]
  try (split <;> simp [Go.WideShapes.add_plain])
 ·by_cases hl : l = []
  ·rw [hl]; exact .inl rfl
  ·have hl0 : 0 < l.length := List.length_pos_iff.2 hl
   rw [if_neg (by omega)]
   rcases h with h | ⟨b', off', e, hlt, hcc⟩
   ·exact absurd (congrArg List.length h) (by simp [yy2])
   ·injection e with e
    injection e with e1 e2
    subst e1 e2
    refine .inr ⟨b, off + 3, rfl, hlt, fun j v hj => ?_⟩
    have := hcc (3 + j) v (by rw [List.flatMap_cons, List.getElem?_append_right (by simp [yy2])]; simpa [yy2] using hj)
    rwa [← Nat.add_assoc] at this
set_option maxRecDepth 100000 in
theorem yy661 {o : Oper} {a : Act} {w : World} {K : Act → World → Prop} {Q : Exit → Act → World → Prop} (s x : Operand)
  (ho : o.op = .call { callee := .builtin .append, args := #[s, x], argTypes := #[40, 40] })
  (base : Nat) (v : Value) (out l : List CompV) (hs : a.eval s = v) (hown : w.ownsRow base 51 3 v out.length (out.flatMap yy2)) (hsz : base ≤ w.heap.size)
  (A : Option Addr) (c : Nat) (hx : a.eval x = .slice A l.length c) (hA : yy6 w A l) (hnil : A = none → l = [] ∧ c = 0) (hlen : out.length + l.length ≤ 1099511627776)
  (h : ∀ out' A' c' w', out' = out ++ l → w'.ownsRow base 51 3 (.slice A' out'.length c') out'.length (out'.flatMap yy2) → Below base w w' → K (a.put o.dst (.slice A' out'.length c')) w') :
  o.wp Tryd.prog a w K Q := by
 obtain ⟨i0, hi0, hz0, hz1, hz2⟩ := info_parts yy242
 cases A with
 | none =>
  obtain ⟨rfl, rfl⟩ := hnil rfl
  have hr := run_append_owned_none (P := Tryd.prog) (w := w) base 40 o.type 51 i0 3 Tryd.underlying40 hi0 v out.length _ hown
  obtain ⟨A', c', rfl⟩ := own_slice hown
  unfold Oper.wp execOp
  simp only [ho, resolve, invoke, builtin, Sem.run_bind, Sem.run_pure, Result.andThen_ok, List.map_toArray, List.map_cons, List.map_nil, hs, hx, List.length_nil, hr]
  exact h out A' c' w (by simp) hown (Below.refl _ _)
 | some ad =>
  refine wp_append_own_wide w s x 40 ho base 51 i0 (.agg #[.int .i64 0, .int .i64 0, .string { data := #[] }]) 3 32 Tryd.underlying40 hi0 hz0 hz1 hz2 rfl (by omega) v out.length (out.flatMap yy2) hs hown ad l.length c (l.flatMap yy2) hx (yy27 yy2 3 yy40 l) ?_ ?_ (by simp only [maxLen]; omega) (by omega) hsz ?_
  ·intro j u hj
   rcases hA with hA | ⟨b, off, e, _, hc⟩
   ·rw [hA] at hj; simp at hj
   ·injection e with e
    subst e
    rw [Go.WideShapes.add_plain]
    exact hc j u hj
  ·intro u hu
   obtain ⟨y, _, hy⟩ := List.mem_flatMap.1 hu
   simp [yy2] at hy
   rcases hy with rfl | rfl | rfl <;> rfl
  intro v' w' hown' hgr _
  have e : out.flatMap yy2 ++ l.flatMap yy2 = (out ++ l).flatMap yy2 := by simp
  have hown2 : w'.ownsRow base 51 3 v' (out ++ l).length ((out ++ l).flatMap yy2) := by
   rw [← e, List.length_append]
   exact hown'
  obtain ⟨A', c', rfl⟩ := own_slice hown2
  exact h _ A' c' w' rfl hown2 ((Below.refl base w).grown hgr hsz (fun k hk => (hown.lt k hk).1))
theorem yy66 {ops : Array Oper} {rest : List Oper} {o : Oper} {a : Act} {w : World} {Q : Exit → Act → World → Prop} (hgd : o.guard = none) (s x : Operand)
  (ho : o.op = .call { callee := .builtin .append, args := #[s, x], argTypes := #[40, 40] })
  (base : Nat) (v : Value) (out : List CompV) (cr : CompV) (hs : a.eval s = v) (hown : w.ownsRow base 51 3 v out.length (out.flatMap yy2)) (hsz : base ≤ w.heap.size)
  (hx : a.eval x = .slice (some ⟨w.heap.size, 0, none⟩) 1 1) (hlen : out.length ≤ 1099511627776)
  (h : ∀ out' A' c' w', out' = out ++ [cr] → w'.ownsRow base 51 3 (.slice A' out'.length c') out'.length (out'.flatMap yy2) → Below base w w' → wpList Tryd.prog ops Q rest (a.put o.dst (.slice A' out'.length c')) w') :
  wpList Tryd.prog ops Q (o :: rest) a (w.alloc (.cells #[.int .i64 cr.kind, .int .i64 cr.n, .string (bstr cr.text)] 51)) := by
 obtain ⟨i0, hi0, hz0, hz1, hz2⟩ := info_parts yy242
 refine wpList_append_own_wide _ hgd s x 40 ho base 51 i0 (.agg #[.int .i64 0, .int .i64 0, .string { data := #[] }]) 3 32 Tryd.underlying40 hi0 hz0 hz1 hz2 rfl (by omega) v out.length (out.flatMap yy2) hs (hown.alloc _) ⟨w.heap.size, 0, none⟩ 1 1 (yy2 cr) hx rfl ?_ ?_ (by simp only [maxLen]; omega) (by omega) (by simp; omega) ?_
 ·intro j u hj
  rw [Go.WideShapes.add_plain, Nat.zero_add, cell_of_row _ _ _ _ _ _ (heap_alloc_new w _)]
  simpa [yy2] using hj
 ·intro u hu; simp [yy2] at hu; rcases hu with rfl | rfl | rfl <;> rfl
 intro v' w' hown' hgr _
 have e : out.flatMap yy2 ++ yy2 cr = (out ++ [cr]).flatMap yy2 := by simp
 have hown2 : w'.ownsRow base 51 3 v' (out ++ [cr]).length ((out ++ [cr]).flatMap yy2) := by
  rw [← e, List.length_append]
  exact hown'
 obtain ⟨A', c', rfl⟩ := own_slice hown2
 exact h _ A' c' w' rfl hown2 (((Below.refl base w).alloc hsz _).grown hgr (by simp; omega) (fun k hk => (hown.lt k hk).1))
theorem yy119 (w : World) (x y : Obj) : ((w.alloc x).alloc y).heap[w.heap.size + 1]? = some y := by
 have := heap_alloc_new (w.alloc x) y
 rwa [World.size_alloc] at this
set_option maxHeartbeats 1000000 in
set_option maxRecDepth 100000 in
theorem yy342 (a : ActV) (w : World) :
  Calls Tryd.prog 45 #[.agg (yy0 a).toArray] w fun e w' => e = .returned (.agg (yy0 (aPlain a)).toArray) ∧ Below w.heap.size w w' := by
 obtain ⟨k, i, p, n, d, A, c, o⟩ := a
 by_cases h1 : k = 1
 ·rw [yy490 h1]
  subst h1
  unfold yy0
  go_enter Tryd.func45, Tryd.ntmps45
  go_wp2
  refine bodyPost_ret (results_cell_row rfl _ _ (w.heap.size + 1) 46 #[.int .i64 1, .int .i64 i, .int .i64 p, .string (bstr n), .bool d, .slice none 0 0] (0, 0) _ rfl (yy119 _ _ _) Tryd.underlying46 rfl (by kernel_rfl)) rfl ?_
  exact ⟨rfl, ((Below.refl _ _).alloc (Nat.le_refl _) _).alloc (by simp) _⟩
 by_cases h2 : k = 2
 ·rw [yy330 h2]
  subst h2
  unfold yy0
  go_enter Tryd.func45, Tryd.ntmps45
  go_wp2
  refine bodyPost_ret (results_cell_row rfl _ _ (w.heap.size + 1) 46 #[.int .i64 2, .int .i64 i, .int .i64 0, .string (bstr []), .bool false, .slice none 0 0] (0, 0) _ rfl (yy119 _ _ _) Tryd.underlying46 rfl (by kernel_rfl)) rfl ?_
  exact ⟨rfl, ((Below.refl _ _).alloc (Nat.le_refl _) _).alloc (by simp) _⟩
 by_cases h3 : k = 3
 ·rw [yy491 h3]
  subst h3
  unfold yy0
  go_enter Tryd.func45, Tryd.ntmps45
  go_wp2
  refine bodyPost_ret (results_cell_row rfl _ _ (w.heap.size + 1) 46 #[.int .i64 3, .int .i64 i, .int .i64 p, .string (bstr n), .bool false, .slice none 0 0] (0, 0) _ rfl (yy119 _ _ _) Tryd.underlying46 rfl (by kernel_rfl)) rfl ?_
  exact ⟨rfl, ((Below.refl _ _).alloc (Nat.le_refl _) _).alloc (by simp) _⟩
 by_cases h4 : k = 4
 ·rw [yy331 h4]
  subst h4
  unfold yy0
  go_enter Tryd.func45, Tryd.ntmps45
  go_wp2
  refine bodyPost_ret (results_cell_row rfl _ _ (w.heap.size + 1) 46 #[.int .i64 4, .int .i64 i, .int .i64 0, .string (bstr []), .bool false, .slice A o.length c] (0, 0) _ rfl (yy119 _ _ _) Tryd.underlying46 rfl (by kernel_rfl)) rfl ?_
  exact ⟨rfl, ((Below.refl _ _).alloc (Nat.le_refl _) _).alloc (by simp) _⟩
 ·rw [yy492 ⟨h1, h2, h3, h4⟩]
  have g1 : (k == 1) = false := xn h1
  have g2 : (k == 2) = false := xn h2
  have g3 : (k == 3) = false := xn h3
  have g4 : (k == 4) = false := xn h4
  clear h1 h2 h3 h4
  unfold yy0
  go_enter Tryd.func45, Tryd.ntmps45
  go_wp2
  refine bodyPost_ret (results_cell_row rfl _ _ (w.heap.size + 1) 46 #[.int .i64 k, .int .i64 0, .int .i64 0, .string (bstr []), .bool false, .slice none 0 0] (0, 0) _ rfl (yy119 _ _ _) Tryd.underlying46 rfl (by kernel_rfl)) rfl ?_
  exact ⟨rfl, ((Below.refl _ _).alloc (Nat.le_refl _) _).alloc (by simp) _⟩
set_option maxHeartbeats 1000000 in
set_option maxRecDepth 100000 in
theorem yy583 (a : ActV) (w : World) :
  Calls Tryd.prog 73 #[.agg (yy0 a).toArray] w fun e w' => e = .returned (.agg (yy0 (aPlain a)).toArray) ∧ Below w.heap.size w w' := by
 obtain ⟨k, i, p, n, d, A, c, o⟩ := a
 by_cases h1 : k = 1
 ·rw [yy490 h1]
  subst h1
  unfold yy0
  go_enter Tryd.func73, Tryd.ntmps73
  go_wp2
  refine bodyPost_ret (results_cell_row rfl _ _ (w.heap.size + 1) 46 #[.int .i64 1, .int .i64 i, .int .i64 p, .string (bstr n), .bool d, .slice none 0 0] (0, 0) _ rfl (yy119 _ _ _) Tryd.underlying46 rfl (by kernel_rfl)) rfl ?_
  exact ⟨rfl, ((Below.refl _ _).alloc (Nat.le_refl _) _).alloc (by simp) _⟩
 by_cases h2 : k = 2
 ·rw [yy330 h2]
  subst h2
  unfold yy0
  go_enter Tryd.func73, Tryd.ntmps73
  go_wp2
  refine bodyPost_ret (results_cell_row rfl _ _ (w.heap.size + 1) 46 #[.int .i64 2, .int .i64 i, .int .i64 0, .string (bstr []), .bool false, .slice none 0 0] (0, 0) _ rfl (yy119 _ _ _) Tryd.underlying46 rfl (by kernel_rfl)) rfl ?_
  exact ⟨rfl, ((Below.refl _ _).alloc (Nat.le_refl _) _).alloc (by simp) _⟩
 by_cases h3 : k = 3
 ·rw [yy491 h3]
  subst h3
  unfold yy0
  go_enter Tryd.func73, Tryd.ntmps73
  go_wp2
  refine bodyPost_ret (results_cell_row rfl _ _ (w.heap.size + 1) 46 #[.int .i64 3, .int .i64 i, .int .i64 p, .string (bstr n), .bool false, .slice none 0 0] (0, 0) _ rfl (yy119 _ _ _) Tryd.underlying46 rfl (by kernel_rfl)) rfl ?_
  exact ⟨rfl, ((Below.refl _ _).alloc (Nat.le_refl _) _).alloc (by simp) _⟩
 by_cases h4 : k = 4
 ·rw [yy331 h4]
  subst h4
  unfold yy0
  go_enter Tryd.func73, Tryd.ntmps73
  go_wp2
  refine bodyPost_ret (results_cell_row rfl _ _ (w.heap.size + 1) 46 #[.int .i64 4, .int .i64 i, .int .i64 0, .string (bstr []), .bool false, .slice A o.length c] (0, 0) _ rfl (yy119 _ _ _) Tryd.underlying46 rfl (by kernel_rfl)) rfl ?_
  exact ⟨rfl, ((Below.refl _ _).alloc (Nat.le_refl _) _).alloc (by simp) _⟩
 ·rw [yy492 ⟨h1, h2, h3, h4⟩]
  have g1 : (k == 1) = false := xn h1
  have g2 : (k == 2) = false := xn h2
  have g3 : (k == 3) = false := xn h3
  have g4 : (k == 4) = false := xn h4
  clear h1 h2 h3 h4
  unfold yy0
  go_enter Tryd.func73, Tryd.ntmps73
  go_wp2
  refine bodyPost_ret (results_cell_row rfl _ _ (w.heap.size + 1) 46 #[.int .i64 k, .int .i64 0, .int .i64 0, .string (bstr []), .bool false, .slice none 0 0] (0, 0) _ rfl (yy119 _ _ _) Tryd.underlying46 rfl (by kernel_rfl)) rfl ?_
  exact ⟨rfl, ((Below.refl _ _).alloc (Nat.le_refl _) _).alloc (by simp) _⟩
end Go.Proofs.YtjpjdkdbgjipnaaDoor
