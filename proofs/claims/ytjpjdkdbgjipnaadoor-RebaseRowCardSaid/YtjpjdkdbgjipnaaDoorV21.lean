/- An act more at a row of acts of the call's own, beside parts of the call's own. Condition: no more than 2^40 of them. (Merged of 10 texts.) -/
import Derived.Test.YtjpjdkdbgjipnaaDoorV22
import Derived.Test.YtjpjdkdbgjipnaaDoorV8
import Derived.Test.YtjpjdkdbgjipnaaDoorV5
import Derived.Test.YtjpjdkdbgjipnaaDoorV9
import Derived.Test.YtjpjdkdbgjipnaaDoorV45
import Derived.Test.YtjpjdkdbgjipnaaDoorV7
import Derived.Test.YtjpjdkdbgjipnaaDoorV47
import Derived.Test.YtjpjdkdbgjipnaaDoorV44
import Derived.Deep.DeepAppendWide
import Derived.Laws.OwnMore
import Derived.Deep.AppendLies
namespace Go.Proofs.YtjpjdkdbgjipnaaDoor
noncomputable def cps (t : List Nat) : List Nat := @dite _ (∃ vs, V t vs) (Classical.propDecidable _) (fun h => Classical.choose h) (fun _ => [])
theorem cps_of {t vs : List Nat} (h : V t vs) : cps t = vs := by
 unfold cps
 rw [dif_pos ⟨vs, h⟩]
 exact V.uniq (Classical.choose_spec (⟨vs, h⟩ : ∃ vs, V t vs)) h
theorem yy186 : cps [] = [] := cps_of V.nil
theorem cps_E {vs : List Nat} (h : ∀ v ∈ vs, May v) : cps (E vs) = vs := cps_of (V.mk h)
theorem cps_V {t : List Nat} (h : ∃ vs, V t vs) : V t (cps t) := by
 obtain ⟨vs, h⟩ := h
 rw [cps_of h]
 exact h
theorem yy365 {t : List Nat} (h : ∃ vs, V t vs) : loose t = (cps t).length := (cps_V h).loose
def Wh (c : CompV) : Prop := ((c.kind = 1 ∨ c.kind = 3) ∧ 1 ≤ c.n ∧ c.text = []) ∨ (c.kind = 2 ∧ c.n = 0 ∧ c.text ≠ [] ∧ ∃ vs, V c.text vs)
theorem Wh.cases {c : CompV} (h : Wh c) : (c.kind = 1 ∧ 1 ≤ c.n ∧ c.text = []) ∨ (c.kind = 3 ∧ 1 ≤ c.n ∧ c.text = []) ∨ (c.kind = 2 ∧ c.n = 0 ∧ c.text ≠ [] ∧ ∃ vs, V c.text vs) := by
 rcases h with ⟨h | h, g⟩ | h
 ·exact .inl ⟨h, g⟩
 ·exact .inr (.inl ⟨h, g⟩)
 ·exact .inr (.inr h)
theorem cps_ne {t : List Nat} (h : ∃ vs, V t vs) (h0 : t ≠ []) : 0 < (cps t).length := by
 have hv := cps_V h
 cases hc : cps t with
 | nil => exact absurd (by rw [← hv.bytes, hc]; exact E_nil) h0
 | cons v vs => simp
noncomputable def ed : List CompV → List Nat → List Nat
 | [], _ => []
 | c :: l, vs => if c.kind = 1 then vs.take c.n.toNat ++ ed l (vs.drop c.n.toNat) else if c.kind = 2 then cps c.text ++ ed l vs else ed l (vs.drop c.n.toNat)
theorem ed_nil (vs : List Nat) : ed [] vs = [] := rfl
theorem ed_one {c : CompV} (h : c.kind = 1) (l : List CompV) (vs : List Nat) : ed (c :: l) vs = vs.take c.n.toNat ++ ed l (vs.drop c.n.toNat) := by rw [ed, if_pos h]
theorem ed_two {c : CompV} (h : c.kind = 2) (l : List CompV) (vs : List Nat) : ed (c :: l) vs = cps c.text ++ ed l vs := by rw [ed, if_neg (by omega), if_pos h]
theorem yy60 {c : CompV} (h : c.kind = 3) (l : List CompV) (vs : List Nat) : ed (c :: l) vs = ed l (vs.drop c.n.toNat) := by rw [ed, if_neg (by omega), if_neg (by omega)]
def inN (c : CompV) : Nat := if c.kind = 2 then 0 else c.n.toNat
noncomputable def outN (c : CompV) : Nat := if c.kind = 1 then c.n.toNat else if c.kind = 2 then (cps c.text).length else 0
def inS : List CompV → Nat
 | [] => 0
 | c :: l => inN c + inS l
noncomputable def outS : List CompV → Nat
 | [] => 0
 | c :: l => outN c + outS l
theorem yy69 : inS [] = 0 := rfl
theorem yy311 : outS [] = 0 := rfl
theorem yy26 (c : CompV) (l : List CompV) : inS (c :: l) = inN c + inS l := rfl
theorem yy57 (c : CompV) (l : List CompV) : outS (c :: l) = outN c + outS l := rfl
theorem in_one {c : CompV} (h : c.kind = 1) : inN c = c.n.toNat := if_neg (by omega)
theorem in_two {c : CompV} (h : c.kind = 2) : inN c = 0 := if_pos h
theorem yy72 {c : CompV} (h : c.kind = 3) : inN c = c.n.toNat := if_neg (by omega)
theorem yy187 {c : CompV} (h : c.kind = 1) : outN c = c.n.toNat := if_pos h
theorem yy133 {c : CompV} (h : c.kind = 2) : outN c = (cps c.text).length := by rw [outN, if_neg (by omega), if_pos h]
theorem yy108 {c : CompV} (h : c.kind = 3) : outN c = 0 := by rw [outN, if_neg (by omega), if_neg (by omega)]
theorem yy55 : ∀ (a b : List CompV), inS (a ++ b) = inS a + inS b
 | [], b => by simp [inS]
 | c :: a, b => by rw [List.cons_append, inS, inS, yy55 a b]; omega
theorem yy109 : ∀ (l : List CompV) (vs : List Nat), (∀ c ∈ l, Wh c) → inS l ≤ vs.length → (ed l vs).length = outS l
 | [], vs, _, _ => rfl
 | c :: l, vs, hw, h => by
  have ih := fun vs h => yy109 l vs (fun x hx => hw x (List.mem_cons_of_mem _ hx)) h
  rw [inS] at h
  rw [outS]
  rcases (hw c (by simp)).cases with ⟨hk, _⟩ | ⟨hk, _⟩ | ⟨hk, _⟩
  ·rw [in_one hk] at h
   rw [ed_one hk, yy187 hk, List.length_append, List.length_take, ih _ (by rw [List.length_drop]; omega)]
   omega
  ·rw [yy72 hk] at h
   rw [yy60 hk, yy108 hk, ih _ (by rw [List.length_drop]; omega)]
   omega
  ·rw [in_two hk] at h
   rw [ed_two hk, yy133 hk, List.length_append, ih _ (by omega)]
theorem ed_may : ∀ (l : List CompV) (vs : List Nat), (∀ c ∈ l, Wh c) → (∀ v ∈ vs, May v) → ∀ v ∈ ed l vs, May v
 | [], vs, _, _ => fun v hv => by cases hv
 | c :: l, vs, hw, h => fun v hv => by
  have ih := fun vs h => ed_may l vs (fun x hx => hw x (List.mem_cons_of_mem _ hx)) h v
  rcases (hw c (by simp)).cases with ⟨hk, _⟩ | ⟨hk, _⟩ | ⟨hk, _, _, ht⟩
  ·rw [ed_one hk] at hv
   rcases List.mem_append.1 hv with hv | hv
   ·exact h v (List.mem_of_mem_take hv)
   ·exact ih _ (fun x hx => h x (List.mem_of_mem_drop hx)) hv
  ·rw [yy60 hk] at hv
   exact ih _ (fun x hx => h x (List.mem_of_mem_drop hx)) hv
  ·rw [ed_two hk] at hv
   rcases List.mem_append.1 hv with hv | hv
   ·exact (cps_V ht).may v hv
   ·exact ih _ h hv
theorem yy616 : ∀ (l : List CompV), (∀ c ∈ l, Wh c) → sumB l = (inS l : Int) ∧ sumU l = (outS l : Int)
 | [], _ => ⟨rfl, rfl⟩
 | c :: l, hw => by
  have ih := yy616 l fun x hx => hw x (List.mem_cons_of_mem _ hx)
  have h1 : sumB (c :: l) = bOf c + sumB l := by simp [sumB]
  have h2 : sumU (c :: l) = uOf c + sumU l := by simp [sumU]
  rw [h1, h2, ih.1, ih.2, inS, outS, bOf, uOf]
  rcases (hw c (by simp)).cases with ⟨hk, hn, _⟩ | ⟨hk, hn, _⟩ | ⟨hk, _, _, ht⟩
  ·rw [in_one hk, yy187 hk, if_pos (.inl hk), if_pos hk]; omega
  ·rw [yy72 hk, yy108 hk, if_pos (.inr hk), if_neg (by omega), if_neg (by omega)]; omega
  ·rw [in_two hk, yy133 hk, if_neg (by omega), if_neg (by omega), if_pos hk, yy365 ht]; omega
theorem Nrm.wh {l : List CompV} (h : Nrm l) : ∀ c ∈ l, Wh c := fun c hc => by
 obtain ⟨i, hi, rfl⟩ := List.getElem_of_mem hc
 rcases (h i _ (List.getElem?_eq_getElem hi)).1 with g | g
 ·exact .inl g
 ·exact .inr ⟨g.1, g.2.1, g.2.2.1, g.2.2.2.1⟩
structure Ok (l : List CompV) : Prop where
 len : l.length ≤ 100
 nrm : Nrm l
 wh : ∀ c ∈ l, Wh c
 base : rBase l = (inS l : Int)
 out : rOut l = (outS l : Int)
 base1 : inS l ≤ 2000
 out1 : outS l ≤ 2000
theorem ok_of {l : List CompV} (h : rCheck l = 0) : Ok l := by
 obtain ⟨h1, h2, h3, h4⟩ := yy91 h
 have hs := yy616 l h2.wh
 have e1 := yy652 l
 have e2 := yy718 l
 rw [hs.1] at e1
 rw [hs.2] at e2
 exact ⟨h1, h2, h2.wh, by omega, by omega, by omega, by omega⟩
theorem Ok.check {l : List CompV} (h : Ok l) : rCheck l = 0 := by
 have h1 := h.base; have h2 := h.out; have h3 := h.base1; have h4 := h.out1
 unfold rCheck
 rw [if_neg (by have := h.len; omega), if_neg (by rw [yy123 h.nrm]; simp), if_neg (by omega)]
theorem yy366 : ∀ (vs : List Nat) (l : List CompV) (m : Nat) (o : List Nat), (∀ c ∈ l, Wh c) →
  (l.foldl (doStep vs) ((m : Int), o)).2 = o ++ E (ed l (vs.drop m))
 | vs, [], m, o, _ => by simp [ed_nil, E_nil]
 | vs, c :: l, m, o, hw => by
  have ih := fun m o => yy366 vs l m o fun x hx => hw x (List.mem_cons_of_mem _ hx)
  rw [List.foldl_cons]
  rcases (hw c (by simp)).cases with ⟨hk, hn, _⟩ | ⟨hk, hn, _⟩ | ⟨hk, _, _, ht⟩
  ·rw [doStep, if_pos hk, ed_one hk, show ((m : Int) + c.n) = ((m + c.n.toNat : Nat) : Int) by omega, ih]
   simp only [Int.toNat_natCast]
   rw [yy86, List.append_assoc, List.drop_drop, List.drop_take, show m + c.n.toNat - m = c.n.toNat by omega]
  ·rw [doStep, if_neg (by omega), if_neg (by omega), yy60 hk, show ((m : Int) + c.n) = ((m + c.n.toNat : Nat) : Int) by omega, ih, List.drop_drop]
  ·rw [doStep, if_neg (by omega), if_pos hk, ed_two hk, ih, yy86, List.append_assoc, (cps_V ht).bytes]
theorem yy655 (vs : List Nat) {l : List CompV} (hw : ∀ c ∈ l, Wh c) : (doRun vs l).2 = E (ed l vs) := by
 have := yy366 vs l 0 [] hw
 rw [List.drop_zero, List.nil_append] at this
 exact this
def Ch : Int → List CompV → Prop
 | _, [] => True
 | k, c :: l => Wh c ∧ k ≠ c.kind ∧ ¬ (k = 3 ∧ c.kind = 2) ∧ Ch c.kind l
def lastOr : Int → List CompV → Int
 | k, [] => k
 | _, c :: l => lastOr c.kind l
theorem yy150 : ∀ (p : List CompV) (k : Int) (c : CompV), lastOr k (p ++ [c]) = c.kind
 | [], _, _ => rfl
 | d :: p, k, c => by rw [List.cons_append, lastOr, yy150 p]
theorem Ch.append : ∀ (p : List CompV) (k : Int) (l : List CompV), Ch k (p ++ l) ↔ Ch k p ∧ Ch (lastOr k p) l
 | [], k, l => by simp [Ch, lastOr]
 | c :: p, k, l => by rw [List.cons_append, Ch, Ch, lastOr, Ch.append p]; exact ⟨fun h => ⟨⟨h.1, h.2.1, h.2.2.1, h.2.2.2.1⟩, h.2.2.2.2⟩, fun h => ⟨h.1.1, h.1.2.1, h.1.2.2.1, h.1.2.2.2, h.2⟩⟩
theorem Ch.wh : ∀ {l : List CompV} {k : Int}, Ch k l → ∀ c ∈ l, Wh c
 | [], _, _ => fun c hc => by cases hc
 | d :: l, _, h => fun c hc => by
  rcases List.mem_cons.1 hc with rfl | hc
  ·exact h.1
  ·exact Ch.wh h.2.2.2 c hc
theorem yy466 : ∀ {p : List CompV}, Nm p → lastK p = lastOr 0 p := fun h => by
 cases h with
 | nil => rfl
 | snoc p c _ _ _ _ => rw [yy132, yy150]
theorem yy656 {l : List CompV} (h : Nm l) : (∀ y ∈ l, y.kind = 2 → ∃ vs, V y.text vs) → Ch 0 l := by
 induction h with
 | nil => intro _; trivial
 | snoc p c hp hc h1 h2 ih =>
  intro hv
  rw [Ch.append, ← yy466 hp]
  refine ⟨ih fun y hy => hv y (List.mem_append_left _ hy), ?_, h1, h2, trivial⟩
  rcases hc with h | ⟨g1, g2, g3⟩
  ·exact .inl h
  ·exact .inr ⟨g1, g2, g3, hv c (by simp) g1⟩
theorem yy467 : ∀ (l p : List CompV), Nm p → Ch (lastOr 0 p) l → Nm (p ++ l)
 | [], p, hp, _ => by rwa [List.append_nil]
 | c :: l, p, hp, h => by
  rw [show p ++ c :: l = (p ++ [c]) ++ l by simp]
  have hk := h.2.1
  have hk3 := h.2.2.1
  rw [← yy466 hp] at hk hk3
  refine yy467 l _ (.snoc p c hp ?_ hk hk3) (by rw [yy150]; exact h.2.2.2)
  rcases h.1 with g | ⟨g1, g2, g3, _⟩
  ·exact .inl g
  ·exact .inr ⟨g1, g2, g3⟩
theorem Ch.nm {l : List CompV} (h : Ch 0 l) : Nm l := yy467 l [] .nil h
theorem Ch.nrm {l : List CompV} (h : Ch 0 l) : Nrm l := yy547 h.nm fun y hy hk => by
 rcases (h.wh y hy).cases with ⟨g, _⟩ | ⟨g, _⟩ | ⟨_, _, _, g⟩
 ·omega
 ·omega
 ·exact g
attribute [irreducible] ed inS outS
theorem yy67 : ∀ (a b : List CompV) (vs : List Nat), ed (a ++ b) vs = ed a vs ++ ed b (vs.drop (inS a))
 | [], b, vs => by rw [List.nil_append, ed_nil, yy69, List.drop_zero, List.nil_append]
 | c :: a, b, vs => by
  rw [List.cons_append, yy26]
  by_cases h1 : c.kind = 1
  ·rw [ed_one h1, ed_one h1, yy67 a b, in_one h1, List.append_assoc, List.drop_drop]
  ·by_cases h2 : c.kind = 2
   ·rw [ed_two h2, ed_two h2, yy67 a b, in_two h2, List.append_assoc, Nat.zero_add]
   ·have e : ∀ l, ed (c :: l) vs = ed l (vs.drop c.n.toNat) := fun l => by rw [ed, if_neg h1, if_neg h2]
    rw [e, e, yy67 a b, inN, if_neg h2, List.drop_drop]
theorem yy468 {a b : List Nat} (ha : ∃ vs, V a vs) (hb : ∃ vs, V b vs) : cps (a ++ b) = cps a ++ cps b := cps_of ((cps_V ha).append (cps_V hb))
theorem yy617 {n : Int} (h : 0 ≤ n) (vs : List Nat) : ed (keepOf n) vs = vs.take n.toNat ∧ inS (keepOf n) = n.toNat := by
 unfold keepOf
 by_cases h0 : 0 < n
 ·rw [if_pos h0, ed_one rfl, ed_nil, yy26, yy69, in_one rfl]
  simp
 ·rw [if_neg h0, ed_nil, yy69, show n.toNat = 0 by omega]
  simp
theorem yy618 {n : Int} (h : 0 ≤ n) (vs : List Nat) : ed (goneOf n) vs = [] ∧ inS (goneOf n) = n.toNat := by
 unfold goneOf
 by_cases h0 : 0 < n
 ·rw [if_pos h0, yy60 rfl, ed_nil, yy26, yy69, yy72 rfl]
  simp
 ·rw [if_neg h0, ed_nil, yy69, show n.toNat = 0 by omega]
  simp
theorem yy619 (t : List Nat) (vs : List Nat) : ed (textOf t) vs = cps t ∧ inS (textOf t) = 0 := by
 unfold textOf
 by_cases h0 : t = []
 ·rw [if_pos h0, ed_nil, yy69, h0, yy186]
  simp
 ·rw [if_neg h0, ed_two rfl, ed_nil, yy26, yy69, in_two rfl]
  simp
theorem yy188 {s : NS} (hk : 0 ≤ s.keep) (hg : 0 ≤ s.gone) (vs : List Nat) :
  ed s.flush vs = ed s.out vs ++ (vs.drop (inS s.out)).take s.keep.toNat ++ cps s.text ∧ inS s.flush = inS s.out + s.keep.toNat + s.gone.toNat := by
 unfold NS.flush
 rw [yy67, yy67, yy67, (yy617 hk _).1, (yy619 _ _).1, (yy618 hg _).1, List.append_nil, yy55, yy55, yy55, (yy617 hk vs).2, (yy619 s.text vs).2, (yy618 hg vs).2]
 exact ⟨rfl, by omega⟩
structure NEd (l : List CompV) (s : NS) : Prop where
 ed : ∀ vs, ed s.flush vs = ed l vs
 ins : inS s.flush = inS l
 text : ∃ vs, V s.text vs
theorem yy657 {l : List CompV} {s : NS} (h : NEd l s) (hi : NInv s) (c : CompV) (hc : Wh c) (hl : inS (l ++ [c]) ≤ 1099511627776) : NEd (l ++ [c]) (nStep s c) := by
 have hk := hi.keep0; have hg := hi.gone0
 have hf := fun vs => yy188 hk hg vs
 have he := h.ed; have hs := h.ins; have ht := h.text
 have hin := (hf []).2
 rw [yy55, yy26, yy69] at hl
 rcases hc.cases with ⟨g, gn, gt⟩ | ⟨g, gn, gt⟩ | ⟨g, gn, gt, gv⟩
 ·rw [in_one g] at hl
  have e0 : hld 0 c.n = c.n := by unfold hld; omega
  rw [nStep, if_neg (by omega), if_neg (by omega), if_neg (by omega)]
  by_cases ho : s.text ≠ [] ∨ 0 < s.gone
  ·rw [if_pos ho, e0]
   have hf2 := fun vs => yy188 (s := ⟨s.flush, c.n, 0, []⟩) (by show 0 ≤ c.n; omega) (by show (0 : Int) ≤ 0; omega) vs
   refine ⟨fun vs => ?_, ?_, [], V.nil⟩
   ·rw [(hf2 vs).1, yy67, ed_one g, ed_nil, yy186, List.append_nil, List.append_nil, he, hs]
   ·rw [(hf2 []).2, yy55, yy26, yy69, in_one g, hs]
    show inS l + c.n.toNat + (0 : Int).toNat = _
    omega
  ·have ht0 : s.text = [] := Classical.byContradiction fun e => ho (.inl e)
   have hg0 : s.gone = 0 := by
    have : ¬ 0 < s.gone := fun e => ho (.inr e)
    omega
   rw [if_neg ho]
   have ek : hld s.keep c.n = s.keep + c.n := by unfold hld; omega
   have hf2 := fun vs => yy188 (s := { s with keep := hld s.keep c.n }) (by show 0 ≤ hld s.keep c.n; exact yy90 _ _) hg vs
   refine ⟨fun vs => ?_, ?_, ht⟩
   ·rw [(hf2 vs).1, yy67, ed_one g, ed_nil, ← he, ← hs, (hf vs).1, (hf vs).2]
    show ed s.out vs ++ List.take (hld s.keep c.n).toNat (List.drop (inS s.out) vs) ++ cps s.text = _
    rw [ht0, yy186, List.append_nil, List.append_nil, List.append_nil, ek, show (s.keep + c.n).toNat = s.keep.toNat + c.n.toNat by omega, List.take_add, List.drop_drop, hg0, List.append_assoc]
    simp
   ·rw [(hf2 []).2, yy55, yy26, yy69, in_one g, ← hs, hin]
    show inS s.out + (hld s.keep c.n).toNat + s.gone.toNat = _
    rw [ek]
    omega
 ·rw [yy72 g] at hl
  have ek : hld s.gone c.n = s.gone + c.n := by unfold hld; omega
  rw [nStep, if_neg (by omega), if_pos g]
  have hf2 := fun vs => yy188 (s := { s with gone := hld s.gone c.n }) hk (by show 0 ≤ hld s.gone c.n; exact yy90 _ _) vs
  refine ⟨fun vs => ?_, ?_, ht⟩
  ·rw [(hf2 vs).1, yy67, yy60 g, ed_nil, List.append_nil, ← he, (hf vs).1]
  ·rw [(hf2 []).2, yy55, yy26, yy69, yy72 g, ← hs, hin]
   show inS s.out + s.keep.toNat + (hld s.gone c.n).toNat = _
   rw [ek]
   omega
 ·rw [nStep, if_pos g]
  have hf2 := fun vs => yy188 (s := { s with text := s.text ++ c.text }) hk hg vs
  refine ⟨fun vs => ?_, ?_, ?_⟩
  ·rw [(hf2 vs).1, yy67, ed_two g, ed_nil, List.append_nil, ← he, (hf vs).1]
   show ed s.out vs ++ List.take s.keep.toNat (List.drop (inS s.out) vs) ++ cps (s.text ++ c.text) = _
   rw [yy468 ht gv, List.append_assoc, List.append_assoc, List.append_assoc]
  ·rw [(hf2 []).2, yy55, yy26, yy69, in_two g, ← hs, hin]
   show inS s.out + s.keep.toNat + s.gone.toNat = _
   omega
  ·exact ⟨_, (cps_V ht).append (cps_V gv)⟩
theorem run_ed (l : List CompV) (hw : ∀ c ∈ l, Wh c) (hl : inS l ≤ 1099511627776) : NEd l (nRun l) := by
 have : ∀ k, k ≤ l.length → NEd (l.take k) (nRun (l.take k)) := by
  intro k
  induction k with
  | zero => exact fun _ => ⟨fun vs => by rw [List.take_zero]; rfl, by rw [List.take_zero]; rfl, [], V.nil⟩
  | succ k ih =>
   intro hk
   rw [List.take_succ_eq_append_getElem (by omega), yy232]
   refine yy657 (ih (by omega)) (yy464 _) _ (hw _ (List.getElem_mem _)) ?_
   rw [← List.take_succ_eq_append_getElem (by omega)]
   have := yy55 (l.take (k + 1)) (l.drop (k + 1))
   rw [List.take_append_drop] at this
   omega
 have h := this l.length (Nat.le_refl _)
 rwa [List.take_length] at h
theorem yy719 {l : List CompV} (hw : ∀ c ∈ l, Wh c) : AllV l := fun y hy => by
 rcases (hw y hy).cases with ⟨_, _, e⟩ | ⟨_, _, e⟩ | ⟨_, _, _, e⟩
 ·exact ⟨[], by rw [e]; exact V.nil⟩
 ·exact ⟨[], by rw [e]; exact V.nil⟩
 ·exact e
structure NormEd (l m : List CompV) : Prop where
 ch : Ch 0 m
 ed : ∀ vs, ed m vs = ed l vs
 ins : inS m = inS l
 outs : outS m = outS l
theorem yy720 {l : List CompV} (hw : ∀ c ∈ l, Wh c) (hl : inS l ≤ 1099511627776) : NormEd l (yy31 l) := by
 have h := run_ed l hw hl
 have hc : Ch 0 (yy31 l) := yy656 (yy717 l) fun y hy _ => yy653 l (yy719 hw) y hy
 refine ⟨hc, h.ed, h.ins, ?_⟩
 have e1 := yy109 (yy31 l) (List.replicate (inS l) 0) hc.wh (by rw [List.length_replicate]; exact Nat.le_of_eq h.ins)
 have e2 := yy109 l (List.replicate (inS l) 0) hw (by rw [List.length_replicate]; exact Nat.le_refl _)
 have e3 : ed (yy31 l) (List.replicate (inS l) 0) = ed l (List.replicate (inS l) 0) := h.ed _
 rw [← e1, ← e2, e3]
noncomputable def sz (c : CompV) : Nat := if c.kind = 2 then (cps c.text).length else c.n.toNat
noncomputable def cut (c : CompV) (n : Nat) : CompV := if c.kind = 2 then ⟨2, 0, E ((cps c.text).drop n)⟩ else ⟨c.kind, c.n - n, []⟩
noncomputable def piece (c : CompV) (k : Nat) : CompV := if c.kind = 2 then ⟨2, 0, E ((cps c.text).take k)⟩ else ⟨c.kind, k, []⟩
noncomputable def chop (c : CompV) (l : List CompV) (n : Nat) : List CompV := if n = sz c then l else cut c n :: l
theorem sz_two {c : CompV} (h : c.kind = 2) : sz c = (cps c.text).length := if_pos h
theorem sz_not {c : CompV} (h : c.kind ≠ 2) : sz c = c.n.toNat := if_neg h
theorem Wh.sz {c : CompV} (h : Wh c) : 0 < sz c := by
 rcases h.cases with ⟨g, gn, _⟩ | ⟨g, gn, _⟩ | ⟨g, _, gt, gv⟩
 ·rw [sz_not (by omega)]; omega
 ·rw [sz_not (by omega)]; omega
 ·rw [sz_two g]; exact cps_ne gv gt
theorem yy469 (c : CompV) (n : Nat) : (cut c n).kind = c.kind := by unfold cut; split <;> simp_all
theorem yy189 (c : CompV) (n : Nat) : (piece c n).kind = c.kind := by unfold piece; split <;> simp_all
theorem yy236 {t : List Nat} (h : ∃ vs, V t vs) (n : Nat) : ∀ v ∈ (cps t).drop n, May v := fun v hv => (cps_V h).may v (List.mem_of_mem_drop hv)
theorem yy237 {t : List Nat} (h : ∃ vs, V t vs) (n : Nat) : ∀ v ∈ (cps t).take n, May v := fun v hv => (cps_V h).may v (List.mem_of_mem_take hv)
theorem E_ne {vs : List Nat} (h : 0 < vs.length) : E vs ≠ [] := fun e => by
 have := yy149 vs
 rw [e] at this
 have : vs.length ≤ 0 := this
 omega
theorem cut_wh {c : CompV} (h : Wh c) {n : Nat} (hn : n < sz c) : Wh (cut c n) ∧ sz (cut c n) = sz c - n := by
 rcases h.cases with ⟨g, gn, gt⟩ | ⟨g, gn, gt⟩ | ⟨g, gn, gt, gv⟩
 ·rw [sz_not (c := c) (by omega)] at hn ⊢
  have e : cut c n = ⟨c.kind, c.n - n, []⟩ := if_neg (by omega)
  rw [e]
  exact ⟨.inl ⟨.inl g, by show 1 ≤ c.n - n; omega, rfl⟩, by rw [sz_not (by show c.kind ≠ 2; omega)]; show (c.n - n).toNat = _; omega⟩
 ·rw [sz_not (c := c) (by omega)] at hn ⊢
  have e : cut c n = ⟨c.kind, c.n - n, []⟩ := if_neg (by omega)
  rw [e]
  exact ⟨.inl ⟨.inr g, by show 1 ≤ c.n - n; omega, rfl⟩, by rw [sz_not (by show c.kind ≠ 2; omega)]; show (c.n - n).toNat = _; omega⟩
 ·rw [sz_two (c := c) g] at hn ⊢
  have e : cut c n = ⟨2, 0, E ((cps c.text).drop n)⟩ := if_pos g
  rw [e]
  refine ⟨.inr ⟨rfl, rfl, E_ne (by rw [List.length_drop]; omega), _, V.mk (yy236 gv n)⟩, ?_⟩
  rw [sz_two rfl]
  show (cps (E _)).length = _
  rw [cps_E (yy236 gv n), List.length_drop]
theorem yy238 {c : CompV} (h : Wh c) {n : Nat} (h0 : 0 < n) (hn : n ≤ sz c) : Wh (piece c n) ∧ sz (piece c n) = n := by
 rcases h.cases with ⟨g, gn, gt⟩ | ⟨g, gn, gt⟩ | ⟨g, gn, gt, gv⟩
 ·have e : piece c n = ⟨c.kind, n, []⟩ := if_neg (by omega)
  rw [e]
  exact ⟨.inl ⟨.inl g, by show (1 : Int) ≤ n; omega, rfl⟩, by rw [sz_not (by show c.kind ≠ 2; omega)]; rfl⟩
 ·have e : piece c n = ⟨c.kind, n, []⟩ := if_neg (by omega)
  rw [e]
  exact ⟨.inl ⟨.inr g, by show (1 : Int) ≤ n; omega, rfl⟩, by rw [sz_not (by show c.kind ≠ 2; omega)]; rfl⟩
 ·rw [sz_two g] at hn
  have e : piece c n = ⟨2, 0, E ((cps c.text).take n)⟩ := if_pos g
  rw [e]
  refine ⟨.inr ⟨rfl, rfl, E_ne (by rw [List.length_take]; omega), _, V.mk (yy237 gv n)⟩, ?_⟩
  rw [sz_two rfl]
  show (cps (E _)).length = _
  rw [cps_E (yy237 gv n), List.length_take]
  omega
theorem yy367 {c : CompV} (h : Wh c) : piece c (sz c) = c := by
 obtain ⟨a, b, t⟩ := c
 rcases h.cases with ⟨g, gn, gt⟩ | ⟨g, gn, gt⟩ | ⟨g, gn, gt, gv⟩
 ·simp only at g gt gn
  subst g gt
  show CompV.mk 1 ((b.toNat : Nat) : Int) [] = _
  rw [show (b.toNat : Int) = b by omega]
 ·simp only at g gt gn
  subst g gt
  show CompV.mk 3 ((b.toNat : Nat) : Int) [] = _
  rw [show (b.toNat : Int) = b by omega]
 ·simp only at g gn gv
  subst g gn
  show CompV.mk 2 0 (E ((cps t).take (cps t).length)) = _
  rw [List.take_length, (cps_V gv).bytes]
theorem yy620 {c : CompV} (h : Wh c) (l : List CompV) {n : Nat} (h0 : 0 < n) (hn : n ≤ sz c) :
  (∀ vs, ed (c :: l) vs = ed (piece c n :: chop c l n) vs) ∧ inS (c :: l) = inN (piece c n) + inS (chop c l n) ∧ outS (c :: l) = outN (piece c n) + outS (chop c l n) ∧ ((∀ x ∈ l, Wh x) → ∀ x ∈ chop c l n, Wh x) := by
 have hp := (yy238 h h0 hn)
 by_cases he : n = sz c
 ·have e : chop c l n = l := if_pos he
  rw [e, he, yy367 h, yy26, yy57]
  exact ⟨fun _ => rfl, rfl, rfl, fun h => h⟩
 ·have hlt : n < sz c := by omega
  have hc := cut_wh h hlt
  have e : chop c l n = cut c n :: l := if_neg he
  rw [e, yy26, yy26, yy57, yy57]
  have hk := yy469 c n
  have hq := yy189 c n
  have hw : (∀ x ∈ l, Wh x) → ∀ x ∈ cut c n :: l, Wh x := fun h x hx => by
   rcases List.mem_cons.1 hx with rfl | hx
   ·exact hc.1
   ·exact h x hx
  rcases h.cases with ⟨g, gn, gt⟩ | ⟨g, gn, gt⟩ | ⟨g, gn, gt, gv⟩
  ·rw [g] at hk hq
   have e1 : (cut c n).n = c.n - n := by rw [cut, if_neg (by omega)]
   have e2 : (piece c n).n = n := by rw [piece, if_neg (by omega)]
   rw [sz_not (by omega)] at hlt
   rw [in_one g, in_one hk, in_one hq, yy187 g, yy187 hk, yy187 hq, e1, e2]
   refine ⟨fun vs => ?_, by omega, by omega, hw⟩
   rw [ed_one g, ed_one hq, ed_one hk, e1, e2, ← List.append_assoc, List.drop_drop, Int.toNat_natCast, ← List.take_add, show n + (c.n - n).toNat = c.n.toNat by omega]
  ·rw [g] at hk hq
   have e1 : (cut c n).n = c.n - n := by rw [cut, if_neg (by omega)]
   have e2 : (piece c n).n = n := by rw [piece, if_neg (by omega)]
   rw [sz_not (by omega)] at hlt
   rw [yy72 g, yy72 hk, yy72 hq, yy108 g, yy108 hk, yy108 hq, e1, e2]
   refine ⟨fun vs => ?_, by omega, by omega, hw⟩
   rw [yy60 g, yy60 hq, yy60 hk, e1, e2, List.drop_drop, Int.toNat_natCast, show n + (c.n - n).toNat = c.n.toNat by omega]
  ·rw [g] at hk hq
   have e1 : (cut c n).text = E ((cps c.text).drop n) := by rw [cut, if_pos g]
   have e2 : (piece c n).text = E ((cps c.text).take n) := by rw [piece, if_pos g]
   rw [sz_two g] at hlt
   rw [in_two g, in_two hk, in_two hq, yy133 g, yy133 hk, yy133 hq, e1, e2, cps_E (yy236 gv n), cps_E (yy237 gv n), List.length_drop, List.length_take]
   refine ⟨fun vs => ?_, by omega, by omega, hw⟩
   rw [ed_two g, ed_two hq, ed_two hk, e1, e2, cps_E (yy236 gv n), cps_E (yy237 gv n), ← List.append_assoc, List.take_append_drop]
def kd : List CompV → Int
 | [] => 0
 | c :: _ => c.kind
inductive Cmp : List CompV → List CompV → List CompV → Prop
 | nil : Cmp [] [] []
 | gone (c : CompV) (a b o : List CompV) : c.kind = 3 → Cmp a b o → Cmp (c :: a) b (c :: o)
 | puts (a : List CompV) (d : CompV) (b o : List CompV) : kd a ≠ 3 → d.kind = 2 → Cmp a b o → Cmp a (d :: b) (d :: o)
 | both (c : CompV) (a : List CompV) (d : CompV) (b o : List CompV) (n : Nat) : c.kind ≠ 3 → d.kind ≠ 2 → n = min (sz c) (sz d) → Cmp (chop c a n) (chop d b n) o →
   Cmp (c :: a) (d :: b) ((if d.kind = 1 then [piece c n] else if c.kind = 1 then [piece d n] else []) ++ o)
theorem yy470 {c : CompV} {l : List CompV} (h1 : Wh c) (h2 : ∀ x ∈ l, Wh x) : ∀ x ∈ c :: l, Wh x := fun x hx => by
 rcases List.mem_cons.1 hx with rfl | hx
 ·exact h1
 ·exact h2 x hx
theorem Cmp.one {a b o : List CompV} (h : Cmp a b o) : ∀ {o' : List CompV}, Cmp a b o' → o = o' := by
 induction h with
 | nil => intro o' h'; cases h'; rfl
 | gone c a b o hk _ ih =>
  intro o' h'
  cases h' with
  | gone _ _ _ o2 _ g => rw [ih g]
  | puts _ _ _ _ g => exact absurd hk g
  | both _ _ _ _ _ _ g => exact absurd hk g
 | puts a d b o h3 hk _ ih =>
  intro o' h'
  cases h' with
  | gone _ _ _ o2 g => exact absurd g h3
  | puts _ _ _ _ _ _ g => rw [ih g]
  | both _ _ _ _ _ _ _ g => exact absurd hk g
 | both c a d b o n h3 h2 hmin _ ih =>
  intro o' h'
  cases h' with
  | gone _ _ _ o2 g => exact absurd g h3
  | puts _ _ _ _ _ g => exact absurd g h2
  | both _ _ _ _ _ m _ _ hm g => subst hmin; subst hm; rw [ih g]
end Go.Proofs.YtjpjdkdbgjipnaaDoor
namespace Go.Proofs.YtjpjdkdbgjipnaaDoor
open Go.RowKit Go.Deep
theorem yy327 {l vs : List Nat} (h : V l vs) (hl : l.length ≤ 1099511627776) (w : World) :
  Calls Tryd.prog 30 #[.string (bstr l)] w fun e w' => e = .returned (.int .i64 ((vs.length : Nat) : Int)) ∧ Below w.heap.size w w' := by
 have HP := xh (yy94 l (by rw [← h.bytes]; exact E_lt h.may) hl w)
 have HL : Hid (vs.length ≤ 1099511627776) := by show vs.length ≤ _; have := h.length_le; omega
 have hl2 := HL.out
 have H := xh h; clear h
 go_enter Tryd.func30, Tryd.ntmps30
 go_wp2_with fail
 refine HP.out.mono ?_
 rintro e w1 ⟨⟨ws, hv, A, c, rfl, _⟩ | ⟨hn, _⟩, hbel⟩
 ·obtain rfl := hv.uniq H.out
  rw [yy173]
  go_wp2
  go_ret
  exact ⟨rfl, hbel⟩
 ·exact absurd ⟨vs, H.out⟩ hn
set_option maxRecDepth 100000 in
theorem yy163 {l vs : List Nat} (h : V l vs) (hl : l.length ≤ 1099511627776) (n : Nat) (hn : n ≤ vs.length) (w : World) :
  Calls Tryd.prog 88 #[.string (bstr l), .int .i64 (n : Int)] w fun e w' => e = .returned (.int .i64 (((E (vs.take n)).length : Nat) : Int)) ∧ w = w' := by
 have HP := xh (fun i hi w => yy124 l (by rw [← h.bytes]; exact E_lt h.may) hl i hi w)
 have hsz := bstr_size l
 have HL : Hid (vs.length ≤ 1099511627776) := by show vs.length ≤ _; have := h.length_le; omega
 have hl2 := HL.out
 have H := xh h; clear h
 go_enter Tryd.func88, Tryd.ntmps88
 go_wp2
 go_loopw [1, 5] (fun m at_ wr => ∃ j i : Nat, j ≤ n ∧ i = (E (vs.take j)).length ∧ m = .int .i64 ((n - j : Nat) : Int) ∧ at_ = .int .i64 (i : Int) ∧ wr = w) (fun m _ _ => (intOf m).toNat)
 case atStart => exact ⟨0, 0, Nat.zero_le _, by rw [List.take_zero, E_nil]; rfl, rfl, rfl, rfl⟩
 case round =>
  obtain ⟨j, i, hj, hi, rfl, rfl, rfl⟩ := hrel
  have HI := xh hi; clear hi
  obtain ⟨m, HM⟩ : ∃ m, Hid (m = n - j) := ⟨_, rfl⟩
  rw [← HM.out]
  have hmn : m ≤ n := by rw [HM.out]; omega
  by_cases hlt : j < n
  ·have hjv : j < vs.length := by omega
   obtain ⟨v, HV⟩ : ∃ v, Hid (v = vs[j]) := ⟨vs[j], xh rfl⟩
   have HMAY : Hid (May v) := by show May v; rw [HV.out]; exact H.out.may _ (List.getElem_mem hjv)
   have HT : Hid (vs.take (j + 1) = vs.take j ++ [v]) := by show _ = _; rw [List.take_succ_eq_append_getElem hjv, HV.out]
   have HL2 : Hid (l = E (vs.take j) ++ (enc v ++ E (vs.drop (j + 1)))) := by
    show l = _
    rw [← List.append_assoc, ← E_snoc, ← HT.out, ← yy86, List.take_append_drop, H.out.bytes]
   have HDR : Hid (l.drop i = enc v ++ E (vs.drop (j + 1))) := by show _ = _; rw [HI.out, HL2.out, List.drop_left' rfl]
   have hp := yy265 v
   have hle := enc_le v
   obtain ⟨q, HQ⟩ : ∃ q, Hid (q = (enc v).length) := ⟨_, rfl⟩
   have HIL : Hid (i + q ≤ l.length) := by
    show i + q ≤ l.length
    have h1 := congrArg List.length HL2.out
    rw [List.length_append, List.length_append, ← HI.out, ← HQ.out] at h1
    omega
   have hil := HIL.out
   rw [← HQ.out] at hp hle
   have hi2 : i < l.length := by omega
   have hm1 : 0 < m := by rw [HM.out]; omega
   have HP1 := xh (fun w => HP.out i hi2 w)
   rw [HDR.out] at HP1
   have HST := xh (st_enc HMAY.out (E (vs.drop (j + 1))))
   have hmax : max (q : Int) 1 = (q : Int) := by omega
   go_wp2_with fail
   refine (HP1.out _).mono ?_
   rintro e w1 ⟨⟨v', t, hst, rfl⟩ | ⟨hst, _⟩, rfl⟩
   ·rw [HST.out] at hst
    injection hst with hst
    injection hst with h1 h2
    subst h1
    clear h2
    rw [← HQ.out]
    go_wp2
    go_roundw
    case rel => exact ⟨j + 1, i + q, by omega, by rw [HT.out, E_snoc, List.length_append, ← HI.out, ← HQ.out], by congr 1; have := HM.out; omega, by go_num, trivial⟩
    case measure => simp [intOf]; omega
   ·rw [HST.out] at hst
    cases hst
  ·have hm0 : m = 0 := by rw [HM.out]; omega
   have hjn : j = n := by omega
   subst hjn
   subst hm0
   go_wp2
   go_ret
   exact ⟨by rw [← HI.out]; rfl, rfl⟩
theorem yy328 {l vs : List Nat} (h : V l vs) (hl : l.length ≤ 1099511627776) (a b : Nat) (hab : a ≤ b) (hb : b ≤ vs.length) (w : World) :
  Calls Tryd.prog 71 #[.string (bstr l), .int .i64 (a : Int), .int .i64 (b : Int)] w fun e w' => e = .returned (.string (bstr (E ((vs.take b).drop a)))) ∧ w = w' := by
 have G1 := xh (fun w => yy163 h hl a (by omega) w)
 have G2 := xh (fun w => yy163 h hl b hb w)
 have h1 : (E (vs.take a)).length ≤ (E (vs.take b)).length := yy266 vs a b hab
 have h2 : (E (vs.take b)).length ≤ l.length := by
  have := yy266 vs b vs.length hb
  rw [List.take_length, h.bytes] at this
  exact this
 have hs := yy457 l _ _ h1 h2
 rw [← h.bytes, yy716 vs a b hab, h.bytes] at hs
 obtain ⟨p, HP⟩ : ∃ p, Hid ((E (vs.take a)).length = p) := ⟨_, rfl⟩
 obtain ⟨q, HQ⟩ : ∃ q, Hid ((E (vs.take b)).length = q) := ⟨_, rfl⟩
 rw [HP.out] at G1 hs h1
 rw [HQ.out] at G2 hs h2 h1
 clear h
 go_enter Tryd.func71, Tryd.ntmps71
 go_wp2_with fail
 refine (G1.out _).mono ?_
 rintro e w1 ⟨rfl, rfl⟩
 go_wp2_with fail
 refine (G2.out _).mono ?_
 rintro e w1 ⟨rfl, rfl⟩
 go_wp2
 go_ret
 exact ⟨rfl, rfl⟩
end Go.Proofs.YtjpjdkdbgjipnaaDoor
namespace Go.Proofs.YtjpjdkdbgjipnaaDoor
end Go.Proofs.YtjpjdkdbgjipnaaDoor
namespace Go.Proofs.YtjpjdkdbgjipnaaDoor
open Go.RowKit Go.Deep
def ActRow (w : World) (A : Option Addr) (l : List ActV) : Prop := yy4 w A (l.flatMap yy0)
theorem ActRow.below {w w' : World} {A : Option Addr} {l : List ActV} (h : ActRow w A l) (hb : Below w.heap.size w w') : ActRow w' A l := yy4.below h hb
theorem ActRow.form {w : World} {A : Option Addr} {l : List ActV} (h : ActRow w A l) (h0 : 0 < l.length) : ∃ b off, A = some ⟨b, off, none⟩ ∧ b < w.heap.size :=
 yy4.form h (by intro e; have h1 := yy27 yy0 6 yy15 l; rw [e, List.length_nil] at h1; omega)
theorem yy513 : (Tryd.prog.info? 46).map (fun i => (i.zero, i.size, i.bytes)) = some (some (.agg #[.int .i64 0, .int .i64 0, .int .i64 0, .string { data := #[] }, .bool false, .slice none 0 0]), 6, 72) := by kernel_rfl
def OwnA (w : World) (B : Nat) (A : Option Addr) (c : Nat) (l : List ActV) : Prop := w.ownsRow B 46 6 (.slice A l.length c) l.length (l.flatMap yy0)
theorem yy340 (l : List ActV) : ∀ u ∈ l.flatMap yy0, u.oneCell' = true := by
 intro u hu
 obtain ⟨y, _, hy⟩ := List.mem_flatMap.1 hu
 simp [yy0] at hy
 rcases hy with rfl | rfl | rfl | rfl | rfl | rfl <;> rfl
theorem OwnA.at_ {w : World} {B c : Nat} {A : Option Addr} {l : List ActV} (h : OwnA w B A c l) : ActRow w A l := yy4.of_own h
theorem OwnA.cap {w : World} {B c : Nat} {A : Option Addr} {l : List ActV} (h : OwnA w B A c l) : l.length ≤ c := by
 rcases h.2 with ⟨e, h0⟩ | ⟨g, cap, cur, e, _, _, hn, _⟩
 ·omega
 ·injection e with _ _ e
  omega
theorem OwnA.empty (w : World) {B : Nat} (h : B ≤ w.heap.size) : OwnA (w.alloc (.cells #[] 46)) B (some ⟨w.heap.size, 0, none⟩) 0 [] := World.ownsRow_lit w #[] 0 h (by simp [maxLen]) rfl
theorem OwnA.nil (w : World) (B : Nat) : OwnA w B none 0 [] := World.ownsRow_nil _ _ _ _
theorem OwnA.below {w w' : World} {B c : Nat} {A : Option Addr} {l : List ActV} (h : OwnA w B A c l) (hb : Below w.heap.size w w') : OwnA w' B A c l := own_below h hb
theorem yy213 {w : World} (base : Nat) (t ty e : TypeId) (i : TypeInfo) (size : Nat) (ht : Tryd.prog.underlying t = some (.slice e)) (hi : Tryd.prog.info? e = some i) (v : Value) (n : Nat) (xs : List Value) (c : Nat) (hown : w.ownsRow base e size v n xs) :
  (Builtin.append_ #[t, t] ty #[v, .slice none 0 c]).run Tryd.prog w = .ok v w := by
 rcases hown.2 with ⟨rfl, rfl⟩ | ⟨g, cap, cur, rfl, _, _, hnc, _⟩
 ·simp [Builtin.append_, run_underlying ht, sizeOf, typeInfo, hi, Builtin.lenOf, Builtin.firstCells]
 ·simp [Builtin.append_, run_underlying ht, sizeOf, typeInfo, hi, Builtin.lenOf, Builtin.firstCells, hnc, storeCells]
set_option maxRecDepth 100000 in
theorem yy294 {w : World} {B c0 : Nat} {A0 : Option Addr} {out : List ActV} (hown : OwnA w B A0 c0 out) (hB : B ≤ w.heap.size) {A : Option Addr} {m : List ActV} (c : Nat) (hA : ActRow w A m) (hlen : out.length + m.length ≤ 1099511627776) (ty : TypeId) :
  ∃ A' c' w', (Builtin.append_ #[23, 23] ty #[.slice A0 out.length c0, .slice A m.length c]).run Tryd.prog w = .ok (.slice A' (out ++ m).length c') w' ∧ OwnA w' B A' c' (out ++ m) ∧ Below B w w' ∧ ∀ (g : Nat) (l : List ActV), g < w.heap.size → (∀ b, A0 = some b → b.block ≠ g) → ActRow w (some ⟨g, 0, none⟩) l → ActRow w' (some ⟨g, 0, none⟩) l := by
 obtain ⟨i0, hi0, hz0, hz1, hz2⟩ := info_parts yy513
 cases A with
 | none =>
  have hm : m = [] := by
   cases m with
   | nil => rfl
   | cons y m =>
    obtain ⟨b, off, e, _⟩ := hA.form (by simp)
    cases e
  subst hm
  refine ⟨A0, c0, w, ?_, ?_, Below.refl _ _, fun _ _ _ _ h => h⟩
  ·rw [List.append_nil]
   exact yy213 B _ ty _ i0 6 Tryd.underlying23 hi0 _ _ _ c hown
  ·rw [List.append_nil]
   exact hown
 | some ad =>
  obtain ⟨v', w', hr, h2, h3, _⟩ := run_append_own_wide (P := Tryd.prog) w B 23 ty 46 i0 (.agg #[.int .i64 0, .int .i64 0, .int .i64 0, .string { data := #[] }, .bool false, .slice none 0 0]) 6 72 Tryd.underlying23 hi0 hz0 hz1 hz2 rfl (by omega)
   _ out.length (out.flatMap yy0) hown ad m.length c (m.flatMap yy0) (yy27 yy0 6 yy15 m) (fun j u hu => by
    rcases hA with h0 | ⟨b, off, e, _, hc⟩
    ·rw [h0] at hu; cases hu
    ·injection e with e
     subst e
     rw [Go.WideShapes.add_plain]
     exact hc j u hu) (yy340 m) (by simp only [maxLen]; omega) (by omega) hB
  have e : out.flatMap yy0 ++ m.flatMap yy0 = (out ++ m).flatMap yy0 := List.flatMap_append.symm
  rw [e, ← List.length_append] at h2
  obtain ⟨A', c', rfl⟩ := own_slice h2
  refine ⟨A', c', w', hr, h2, (Below.refl B w).grown h3 hB (fun k hk => (hown.lt k hk).1), fun g l hg hne h => ?_⟩
  rcases h with h | ⟨b, off, e, hlt, hc⟩
  ·exact .inl h
  ·injection e with e
   injection e with e1 e2
   subst e1 e2
   refine .inr ⟨g, 0, rfl, Nat.lt_of_lt_of_le hlt h3.size, fun j v hj => (h3.cell_far ⟨g, 0 + j, none⟩ hlt ?_).trans (hc j v hj)⟩
   cases A0 with
   | none => intro e; cases e
   | some a =>
    intro e
    injection e with e
    exact hne a rfl e.symm
theorem yy341 {w : World} {B c0 : Nat} {A0 : Option Addr} {out : List ActV} (hown : OwnA w B A0 c0 out) (hB : B ≤ w.heap.size) {A : Option Addr} {m : List ActV} (c : Nat) (hA : ActRow w A m) (hlen : out.length + m.length ≤ 1099511627776) (ty : TypeId) :
  ∃ A' c' w', (Builtin.append_ #[23, 23] ty #[.slice A0 out.length c0, .slice A m.length c]).run Tryd.prog w = .ok (.slice A' (out ++ m).length c') w' ∧ OwnA w' B A' c' (out ++ m) ∧ Below B w w' := by
 obtain ⟨A', c', w', h1, h2, h3, _⟩ := yy294 hown hB c hA hlen ty
 exact ⟨A', c', w', h1, h2, h3⟩
theorem yy436 {w : World} {o : Oper} {a : Act} {K : Act → World → Prop} {Q : Exit → Act → World → Prop} (s x : Operand)
  (ho : o.op = .call { callee := .builtin .append, args := #[s, x], argTypes := #[23, 23] })
  {B c0 : Nat} {A0 : Option Addr} {out : List ActV} (hown : OwnA w B A0 c0 out) (hB : B ≤ w.heap.size) {A : Option Addr} {m : List ActV} (c : Nat) (hA : ActRow w A m) (hlen : out.length + m.length ≤ 1099511627776)
  (hs : a.eval s = .slice A0 out.length c0) (hx : a.eval x = .slice A m.length c)
  (hK : ∀ A' c' w', OwnA w' B A' c' (out ++ m) → Below B w w' → K (a.put o.dst (.slice A' (out ++ m).length c')) w') : o.wp Tryd.prog a w K Q := by
 obtain ⟨A', c', w', hrun, h1, h2⟩ := yy341 hown hB c hA hlen o.type
 unfold Oper.wp execOp
 simp only [ho, resolve, invoke, builtin, Sem.run_bind, Sem.run_pure, Result.andThen_ok, List.map_toArray, List.map_cons, List.map_nil, hs, hx, hrun]
 exact hK A' c' w' h1 h2
theorem yy214 {w : World} {ops : Array Oper} {rest : List Oper} {o : Oper} {a : Act} {Q : Exit → Act → World → Prop} (hgd : o.guard = none) (s x : Operand)
  (ho : o.op = .call { callee := .builtin .append, args := #[s, x], argTypes := #[23, 23] })
  {B c0 : Nat} {A0 : Option Addr} {out : List ActV} (hown : OwnA w B A0 c0 out) (hB : B ≤ w.heap.size) {A : Option Addr} {m : List ActV} (c : Nat) (hA : ActRow w A m) (hlen : out.length + m.length ≤ 1099511627776)
  (hs : a.eval s = .slice A0 out.length c0) (hx : a.eval x = .slice A m.length c)
  (h : ∀ A' c' w', OwnA w' B A' c' (out ++ m) → Below B w w' → wpList Tryd.prog ops Q rest (a.put o.dst (.slice A' (out ++ m).length c')) w') : wpList Tryd.prog ops Q (o :: rest) a w :=
 wpList_plain hgd fun _ hK => yy436 s x ho hown hB c hA hlen hs hx fun A' c' w' h1 h2 => hK _ _ (h A' c' w' h1 h2)
theorem yy514 (x : World) (n : ActV) (g : Nat) (hg : g = x.heap.size) : ActRow (x.alloc (.cells (yy0 n).toArray 46)) (some ⟨g, 0, none⟩) [n] := by
 subst hg
 refine .inr ⟨_, 0, rfl, by simp, fun j v hj => ?_⟩
 rw [cell_of_row _ _ _ _ _ _ (heap_alloc_new x _)]
 simpa using hj
set_option maxRecDepth 100000 in
theorem yy582 {w : World} {B c0 : Nat} {A0 : Option Addr} {out : List ActV} (hown : OwnA w B A0 c0 out) (hB : B ≤ w.heap.size) {ad : Addr} {m : List ActV} (c : Nat) (hA : ActRow w (some ad) m) (hlen : out.length + m.length ≤ 1099511627776) (ty : TypeId) :
  ∃ A' c' w', (Builtin.append_ #[23, 23] ty #[.slice A0 out.length c0, .slice (some ad) m.length c]).run Tryd.prog w = .ok (.slice A' (out ++ m).length c') w' ∧ OwnA w' B A' c' (out ++ m) ∧ Below B w w' ∧ ∀ base size v n xs, w.ownsRow base 51 size v n xs → w'.ownsRow base 51 size v n xs := by
 obtain ⟨i0, hi0, hz0, hz1, hz2⟩ := info_parts yy513
 obtain ⟨v', w', hr, h2, h3, _⟩ := run_append_own_wide (P := Tryd.prog) w B 23 ty 46 i0 (.agg #[.int .i64 0, .int .i64 0, .int .i64 0, .string { data := #[] }, .bool false, .slice none 0 0]) 6 72 Tryd.underlying23 hi0 hz0 hz1 hz2 rfl (by omega)
  _ out.length (out.flatMap yy0) hown ad m.length c (m.flatMap yy0) (yy27 yy0 6 yy15 m) (fun j u hu => by
   rcases hA with h0 | ⟨b, off, e, _, hc⟩
   ·rw [h0] at hu; cases hu
   ·injection e with e
    subst e
    rw [Go.WideShapes.add_plain]
    exact hc j u hu) (yy340 m) (by simp only [maxLen]; omega) (by omega) hB
 have e : out.flatMap yy0 ++ m.flatMap yy0 = (out ++ m).flatMap yy0 := List.flatMap_append.symm
 rw [e, ← List.length_append] at h2
 obtain ⟨A', c', rfl⟩ := own_slice h2
 exact ⟨A', c', w', hr, h2, (Below.refl B w).grown h3 hB (fun k hk => (hown.lt k hk).1), fun base size v n xs h => yy134 h hown (by decide) h3⟩
set_option maxRecDepth 100000 in
theorem yy101 {w : World} {ops : Array Oper} {rest : List Oper} {o : Oper} {a : Act} {Q : Exit → Act → World → Prop} (hgd : o.guard = none) (s x : Operand)
  (ho : o.op = .call { callee := .builtin .append, args := #[s, x], argTypes := #[23, 23] })
  {B c0 : Nat} {A0 : Option Addr} {out : List ActV} (hown : OwnA w B A0 c0 out) (hB : B ≤ w.heap.size) {ad : Addr} {m : List ActV} (c : Nat) (hA : ActRow w (some ad) m) (hlen : out.length + m.length ≤ 1099511627776)
  (hs : a.eval s = .slice A0 out.length c0) (hx : a.eval x = .slice (some ad) m.length c)
  (h : ∀ A' c' w', OwnA w' B A' c' (out ++ m) → Below B w w' → (∀ base size v n xs, w.ownsRow base 51 size v n xs → w'.ownsRow base 51 size v n xs) → wpList Tryd.prog ops Q rest (a.put o.dst (.slice A' (out ++ m).length c')) w') : wpList Tryd.prog ops Q (o :: rest) a w := by
 refine wpList_plain hgd fun K hK => ?_
 obtain ⟨A', c', w', hrun, h1, h2, h3⟩ := yy582 hown hB c hA hlen o.type
 unfold Oper.wp execOp
 simp only [ho, resolve, invoke, builtin, Sem.run_bind, Sem.run_pure, Result.andThen_ok, List.map_toArray, List.map_cons, List.map_nil, hs, hx, hrun]
 exact hK _ _ (h A' c' w' h1 h2 h3)
end Go.Proofs.YtjpjdkdbgjipnaaDoor
