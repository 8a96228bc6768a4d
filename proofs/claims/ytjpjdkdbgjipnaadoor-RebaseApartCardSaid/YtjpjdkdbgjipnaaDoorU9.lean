/- What puts a text in the place of another one: its parts. No condition beyond those that each lemma states. (Merged of 12 texts.) -/
import Derived.Test.YtjpjdkdbgjipnaaDoorU5
import Derived.Test.YtjpjdkdbgjipnaaDoorU0
import Derived.Test.YtjpjdkdbgjipnaaDoorU37
import Derived.Test.YtjpjdkdbgjipnaaDoorU3
import Derived.Test.YtjpjdkdbgjipnaaDoorU24
namespace Go.Proofs.YtjpjdkdbgjipnaaDoor
noncomputable def cps (t : List Nat) : List Nat := @dite _ (∃ vs, V t vs) (Classical.propDecidable _) (fun h => Classical.choose h) (fun _ => [])
theorem cps_of {t vs : List Nat} (h : V t vs) : cps t = vs := by
 unfold cps
 rw [dif_pos ⟨vs, h⟩]
 exact V.uniq (Classical.choose_spec (⟨vs, h⟩ : ∃ vs, V t vs)) h
theorem yy257 : cps [] = [] := cps_of V.nil
theorem cps_E {vs : List Nat} (h : ∀ v ∈ vs, May v) : cps (E vs) = vs := cps_of (V.mk h)
theorem cps_V {t : List Nat} (h : ∃ vs, V t vs) : V t (cps t) := by
 obtain ⟨vs, h⟩ := h
 rw [cps_of h]
 exact h
theorem yy473 {t : List Nat} (h : ∃ vs, V t vs) : loose t = (cps t).length := (cps_V h).loose
def Wh (c : CompV) : Prop := ((c.kind = 1 ∨ c.kind = 3) ∧ 1 ≤ c.n ∧ c.text = []) ∨ (c.kind = 2 ∧ c.n = 0 ∧ c.text ≠ [] ∧ ∃ vs, V c.text vs)
theorem Wh.cases {c : CompV} (h : Wh c) : (c.kind = 1 ∧ 1 ≤ c.n ∧ c.text = []) ∨ (c.kind = 3 ∧ 1 ≤ c.n ∧ c.text = []) ∨ (c.kind = 2 ∧ c.n = 0 ∧ c.text ≠ [] ∧ ∃ vs, V c.text vs) := by
 rcases h with ⟨h | h, g⟩ | h
 ·exact .inl ⟨h, g⟩
 ·exact .inr (.inl ⟨h, g⟩)
 ·exact .inr (.inr h)
theorem cps_ne {t : List Nat} (h : ∃ vs, V t vs) (h0 : t ≠ []) : 0 < (cps t).length := by
 have hv := cps_V h
 cases hc : cps t with
 | nil => exact absurd (by rw [← hv.bytes, hc]; exact E_nil) h0
 | cons v vs => simp
noncomputable def ed : List CompV → List Nat → List Nat
 | [], _ => []
 | c :: l, vs => if c.kind = 1 then vs.take c.n.toNat ++ ed l (vs.drop c.n.toNat) else if c.kind = 2 then cps c.text ++ ed l vs else ed l (vs.drop c.n.toNat)
theorem ed_nil (vs : List Nat) : ed [] vs = [] := rfl
theorem ed_one {c : CompV} (h : c.kind = 1) (l : List CompV) (vs : List Nat) : ed (c :: l) vs = vs.take c.n.toNat ++ ed l (vs.drop c.n.toNat) := by rw [ed, if_pos h]
theorem ed_two {c : CompV} (h : c.kind = 2) (l : List CompV) (vs : List Nat) : ed (c :: l) vs = cps c.text ++ ed l vs := by rw [ed, if_neg (by omega), if_pos h]
theorem yy74 {c : CompV} (h : c.kind = 3) (l : List CompV) (vs : List Nat) : ed (c :: l) vs = ed l (vs.drop c.n.toNat) := by rw [ed, if_neg (by omega), if_neg (by omega)]
def inN (c : CompV) : Nat := if c.kind = 2 then 0 else c.n.toNat
noncomputable def outN (c : CompV) : Nat := if c.kind = 1 then c.n.toNat else if c.kind = 2 then (cps c.text).length else 0
def inS : List CompV → Nat
 | [] => 0
 | c :: l => inN c + inS l
noncomputable def outS : List CompV → Nat
 | [] => 0
 | c :: l => outN c + outS l
theorem yy86 : inS [] = 0 := rfl
theorem yy414 : outS [] = 0 := rfl
theorem yy32 (c : CompV) (l : List CompV) : inS (c :: l) = inN c + inS l := rfl
theorem yy69 (c : CompV) (l : List CompV) : outS (c :: l) = outN c + outS l := rfl
theorem in_one {c : CompV} (h : c.kind = 1) : inN c = c.n.toNat := if_neg (by omega)
theorem in_two {c : CompV} (h : c.kind = 2) : inN c = 0 := if_pos h
theorem yy89 {c : CompV} (h : c.kind = 3) : inN c = c.n.toNat := if_neg (by omega)
theorem yy258 {c : CompV} (h : c.kind = 1) : outN c = c.n.toNat := if_pos h
theorem yy185 {c : CompV} (h : c.kind = 2) : outN c = (cps c.text).length := by rw [outN, if_neg (by omega), if_pos h]
theorem yy146 {c : CompV} (h : c.kind = 3) : outN c = 0 := by rw [outN, if_neg (by omega), if_neg (by omega)]
theorem yy66 : ∀ (a b : List CompV), inS (a ++ b) = inS a + inS b
 | [], b => by simp [inS]
 | c :: a, b => by rw [List.cons_append, inS, inS, yy66 a b]; omega
theorem yy147 : ∀ (l : List CompV) (vs : List Nat), (∀ c ∈ l, Wh c) → inS l ≤ vs.length → (ed l vs).length = outS l
 | [], vs, _, _ => rfl
 | c :: l, vs, hw, h => by
  have ih := fun vs h => yy147 l vs (fun x hx => hw x (List.mem_cons_of_mem _ hx)) h
  rw [inS] at h
  rw [outS]
  rcases (hw c (by simp)).cases with ⟨hk, _⟩ | ⟨hk, _⟩ | ⟨hk, _⟩
  ·rw [in_one hk] at h
   rw [ed_one hk, yy258 hk, List.length_append, List.length_take, ih _ (by rw [List.length_drop]; omega)]
   omega
  ·rw [yy89 hk] at h
   rw [yy74 hk, yy146 hk, ih _ (by rw [List.length_drop]; omega)]
   omega
  ·rw [in_two hk] at h
   rw [ed_two hk, yy185 hk, List.length_append, ih _ (by omega)]
theorem ed_may : ∀ (l : List CompV) (vs : List Nat), (∀ c ∈ l, Wh c) → (∀ v ∈ vs, May v) → ∀ v ∈ ed l vs, May v
 | [], vs, _, _ => fun v hv => by cases hv
 | c :: l, vs, hw, h => fun v hv => by
  have ih := fun vs h => ed_may l vs (fun x hx => hw x (List.mem_cons_of_mem _ hx)) h v
  rcases (hw c (by simp)).cases with ⟨hk, _⟩ | ⟨hk, _⟩ | ⟨hk, _, _, ht⟩
  ·rw [ed_one hk] at hv
   rcases List.mem_append.1 hv with hv | hv
   ·exact h v (List.mem_of_mem_take hv)
   ·exact ih _ (fun x hx => h x (List.mem_of_mem_drop hx)) hv
  ·rw [yy74 hk] at hv
   exact ih _ (fun x hx => h x (List.mem_of_mem_drop hx)) hv
  ·rw [ed_two hk] at hv
   rcases List.mem_append.1 hv with hv | hv
   ·exact (cps_V ht).may v hv
   ·exact ih _ h hv
theorem yy749 : ∀ (l : List CompV), (∀ c ∈ l, Wh c) → sumB l = (inS l : Int) ∧ sumU l = (outS l : Int)
 | [], _ => ⟨rfl, rfl⟩
 | c :: l, hw => by
  have ih := yy749 l fun x hx => hw x (List.mem_cons_of_mem _ hx)
  have h1 : sumB (c :: l) = bOf c + sumB l := by simp [sumB]
  have h2 : sumU (c :: l) = uOf c + sumU l := by simp [sumU]
  rw [h1, h2, ih.1, ih.2, inS, outS, bOf, uOf]
  rcases (hw c (by simp)).cases with ⟨hk, hn, _⟩ | ⟨hk, hn, _⟩ | ⟨hk, _, _, ht⟩
  ·rw [in_one hk, yy258 hk, if_pos (.inl hk), if_pos hk]; omega
  ·rw [yy89 hk, yy146 hk, if_pos (.inr hk), if_neg (by omega), if_neg (by omega)]; omega
  ·rw [in_two hk, yy185 hk, if_neg (by omega), if_neg (by omega), if_pos hk, yy473 ht]; omega
theorem Nrm.wh {l : List CompV} (h : Nrm l) : ∀ c ∈ l, Wh c := fun c hc => by
 obtain ⟨i, hi, rfl⟩ := List.getElem_of_mem hc
 rcases (h i _ (List.getElem?_eq_getElem hi)).1 with g | g
 ·exact .inl g
 ·exact .inr ⟨g.1, g.2.1, g.2.2.1, g.2.2.2.1⟩
structure Ok (l : List CompV) : Prop where
 len : l.length ≤ 100
 nrm : Nrm l
 wh : ∀ c ∈ l, Wh c
 base : rBase l = (inS l : Int)
 out : rOut l = (outS l : Int)
 base1 : inS l ≤ 2000
 out1 : outS l ≤ 2000
theorem ok_of {l : List CompV} (h : rCheck l = 0) : Ok l := by
 obtain ⟨h1, h2, h3, h4⟩ := yy130 h
 have hs := yy749 l h2.wh
 have e1 := yy784 l
 have e2 := yy848 l
 rw [hs.1] at e1
 rw [hs.2] at e2
 exact ⟨h1, h2, h2.wh, by omega, by omega, by omega, by omega⟩
theorem Ok.check {l : List CompV} (h : Ok l) : rCheck l = 0 := by
 have h1 := h.base; have h2 := h.out; have h3 := h.base1; have h4 := h.out1
 unfold rCheck
 rw [if_neg (by have := h.len; omega), if_neg (by rw [yy168 h.nrm]; simp), if_neg (by omega)]
theorem yy474 : ∀ (vs : List Nat) (l : List CompV) (m : Nat) (o : List Nat), (∀ c ∈ l, Wh c) →
  (l.foldl (doStep vs) ((m : Int), o)).2 = o ++ E (ed l (vs.drop m))
 | vs, [], m, o, _ => by simp [ed_nil, E_nil]
 | vs, c :: l, m, o, hw => by
  have ih := fun m o => yy474 vs l m o fun x hx => hw x (List.mem_cons_of_mem _ hx)
  rw [List.foldl_cons]
  rcases (hw c (by simp)).cases with ⟨hk, hn, _⟩ | ⟨hk, hn, _⟩ | ⟨hk, _, _, ht⟩
  ·rw [doStep, if_pos hk, ed_one hk, show ((m : Int) + c.n) = ((m + c.n.toNat : Nat) : Int) by omega, ih]
   simp only [Int.toNat_natCast]
   rw [yy116, List.append_assoc, List.drop_drop, List.drop_take, show m + c.n.toNat - m = c.n.toNat by omega]
  ·rw [doStep, if_neg (by omega), if_neg (by omega), yy74 hk, show ((m : Int) + c.n) = ((m + c.n.toNat : Nat) : Int) by omega, ih, List.drop_drop]
  ·rw [doStep, if_neg (by omega), if_pos hk, ed_two hk, ih, yy116, List.append_assoc, (cps_V ht).bytes]
theorem yy787 (vs : List Nat) {l : List CompV} (hw : ∀ c ∈ l, Wh c) : (doRun vs l).2 = E (ed l vs) := by
 have := yy474 vs l 0 [] hw
 rw [List.drop_zero, List.nil_append] at this
 exact this
def Ch : Int → List CompV → Prop
 | _, [] => True
 | k, c :: l => Wh c ∧ k ≠ c.kind ∧ ¬ (k = 3 ∧ c.kind = 2) ∧ Ch c.kind l
def lastOr : Int → List CompV → Int
 | k, [] => k
 | _, c :: l => lastOr c.kind l
theorem yy206 : ∀ (p : List CompV) (k : Int) (c : CompV), lastOr k (p ++ [c]) = c.kind
 | [], _, _ => rfl
 | d :: p, k, c => by rw [List.cons_append, lastOr, yy206 p]
theorem Ch.append : ∀ (p : List CompV) (k : Int) (l : List CompV), Ch k (p ++ l) ↔ Ch k p ∧ Ch (lastOr k p) l
 | [], k, l => by simp [Ch, lastOr]
 | c :: p, k, l => by rw [List.cons_append, Ch, Ch, lastOr, Ch.append p]; exact ⟨fun h => ⟨⟨h.1, h.2.1, h.2.2.1, h.2.2.2.1⟩, h.2.2.2.2⟩, fun h => ⟨h.1.1, h.1.2.1, h.1.2.2.1, h.1.2.2.2, h.2⟩⟩
theorem Ch.wh : ∀ {l : List CompV} {k : Int}, Ch k l → ∀ c ∈ l, Wh c
 | [], _, _ => fun c hc => by cases hc
 | d :: l, _, h => fun c hc => by
  rcases List.mem_cons.1 hc with rfl | hc
  ·exact h.1
  ·exact Ch.wh h.2.2.2 c hc
theorem yy576 : ∀ {p : List CompV}, Nm p → lastK p = lastOr 0 p := fun h => by
 cases h with
 | nil => rfl
 | snoc p c _ _ _ _ => rw [yy184, yy206]
theorem yy788 {l : List CompV} (h : Nm l) : (∀ y ∈ l, y.kind = 2 → ∃ vs, V y.text vs) → Ch 0 l := by
 induction h with
 | nil => intro _; trivial
 | snoc p c hp hc h1 h2 ih =>
  intro hv
  rw [Ch.append, ← yy576 hp]
  refine ⟨ih fun y hy => hv y (List.mem_append_left _ hy), ?_, h1, h2, trivial⟩
  rcases hc with h | ⟨g1, g2, g3⟩
  ·exact .inl h
  ·exact .inr ⟨g1, g2, g3, hv c (by simp) g1⟩
theorem yy577 : ∀ (l p : List CompV), Nm p → Ch (lastOr 0 p) l → Nm (p ++ l)
 | [], p, hp, _ => by rwa [List.append_nil]
 | c :: l, p, hp, h => by
  rw [show p ++ c :: l = (p ++ [c]) ++ l by simp]
  have hk := h.2.1
  have hk3 := h.2.2.1
  rw [← yy576 hp] at hk hk3
  refine yy577 l _ (.snoc p c hp ?_ hk hk3) (by rw [yy206]; exact h.2.2.2)
  rcases h.1 with g | ⟨g1, g2, g3, _⟩
  ·exact .inl g
  ·exact .inr ⟨g1, g2, g3⟩
theorem Ch.nm {l : List CompV} (h : Ch 0 l) : Nm l := yy577 l [] .nil h
theorem Ch.nrm {l : List CompV} (h : Ch 0 l) : Nrm l := yy676 h.nm fun y hy hk => by
 rcases (h.wh y hy).cases with ⟨g, _⟩ | ⟨g, _⟩ | ⟨_, _, _, g⟩
 ·omega
 ·omega
 ·exact g
attribute [irreducible] ed inS outS
theorem yy84 : ∀ (a b : List CompV) (vs : List Nat), ed (a ++ b) vs = ed a vs ++ ed b (vs.drop (inS a))
 | [], b, vs => by rw [List.nil_append, ed_nil, yy86, List.drop_zero, List.nil_append]
 | c :: a, b, vs => by
  rw [List.cons_append, yy32]
  by_cases h1 : c.kind = 1
  ·rw [ed_one h1, ed_one h1, yy84 a b, in_one h1, List.append_assoc, List.drop_drop]
  ·by_cases h2 : c.kind = 2
   ·rw [ed_two h2, ed_two h2, yy84 a b, in_two h2, List.append_assoc, Nat.zero_add]
   ·have e : ∀ l, ed (c :: l) vs = ed l (vs.drop c.n.toNat) := fun l => by rw [ed, if_neg h1, if_neg h2]
    rw [e, e, yy84 a b, inN, if_neg h2, List.drop_drop]
theorem yy578 {a b : List Nat} (ha : ∃ vs, V a vs) (hb : ∃ vs, V b vs) : cps (a ++ b) = cps a ++ cps b := cps_of ((cps_V ha).append (cps_V hb))
theorem yy750 {n : Int} (h : 0 ≤ n) (vs : List Nat) : ed (keepOf n) vs = vs.take n.toNat ∧ inS (keepOf n) = n.toNat := by
 unfold keepOf
 by_cases h0 : 0 < n
 ·rw [if_pos h0, ed_one rfl, ed_nil, yy32, yy86, in_one rfl]
  simp
 ·rw [if_neg h0, ed_nil, yy86, show n.toNat = 0 by omega]
  simp
theorem yy751 {n : Int} (h : 0 ≤ n) (vs : List Nat) : ed (goneOf n) vs = [] ∧ inS (goneOf n) = n.toNat := by
 unfold goneOf
 by_cases h0 : 0 < n
 ·rw [if_pos h0, yy74 rfl, ed_nil, yy32, yy86, yy89 rfl]
  simp
 ·rw [if_neg h0, ed_nil, yy86, show n.toNat = 0 by omega]
  simp
theorem yy752 (t : List Nat) (vs : List Nat) : ed (textOf t) vs = cps t ∧ inS (textOf t) = 0 := by
 unfold textOf
 by_cases h0 : t = []
 ·rw [if_pos h0, ed_nil, yy86, h0, yy257]
  simp
 ·rw [if_neg h0, ed_two rfl, ed_nil, yy32, yy86, in_two rfl]
  simp
theorem yy259 {s : NS} (hk : 0 ≤ s.keep) (hg : 0 ≤ s.gone) (vs : List Nat) :
  ed s.flush vs = ed s.out vs ++ (vs.drop (inS s.out)).take s.keep.toNat ++ cps s.text ∧ inS s.flush = inS s.out + s.keep.toNat + s.gone.toNat := by
 unfold NS.flush
 rw [yy84, yy84, yy84, (yy750 hk _).1, (yy752 _ _).1, (yy751 hg _).1, List.append_nil, yy66, yy66, yy66, (yy750 hk vs).2, (yy752 s.text vs).2, (yy751 hg vs).2]
 exact ⟨rfl, by omega⟩
structure NEd (l : List CompV) (s : NS) : Prop where
 ed : ∀ vs, ed s.flush vs = ed l vs
 ins : inS s.flush = inS l
 text : ∃ vs, V s.text vs
theorem yy789 {l : List CompV} {s : NS} (h : NEd l s) (hi : NInv s) (c : CompV) (hc : Wh c) (hl : inS (l ++ [c]) ≤ 1099511627776) : NEd (l ++ [c]) (nStep s c) := by
 have hk := hi.keep0; have hg := hi.gone0
 have hf := fun vs => yy259 hk hg vs
 have he := h.ed; have hs := h.ins; have ht := h.text
 have hin := (hf []).2
 rw [yy66, yy32, yy86] at hl
 rcases hc.cases with ⟨g, gn, gt⟩ | ⟨g, gn, gt⟩ | ⟨g, gn, gt, gv⟩
 ·rw [in_one g] at hl
  have e0 : hld 0 c.n = c.n := by unfold hld; omega
  rw [nStep, if_neg (by omega), if_neg (by omega), if_neg (by omega)]
  by_cases ho : s.text ≠ [] ∨ 0 < s.gone
  ·rw [if_pos ho, e0]
   have hf2 := fun vs => yy259 (s := ⟨s.flush, c.n, 0, []⟩) (by show 0 ≤ c.n; omega) (by show (0 : Int) ≤ 0; omega) vs
   refine ⟨fun vs => ?_, ?_, [], V.nil⟩
   ·rw [(hf2 vs).1, yy84, ed_one g, ed_nil, yy257, List.append_nil, List.append_nil, he, hs]
   ·rw [(hf2 []).2, yy66, yy32, yy86, in_one g, hs]
    show inS l + c.n.toNat + (0 : Int).toNat = _
    omega
  ·have ht0 : s.text = [] := Classical.byContradiction fun e => ho (.inl e)
   have hg0 : s.gone = 0 := by
    have : ¬ 0 < s.gone := fun e => ho (.inr e)
    omega
   rw [if_neg ho]
   have ek : hld s.keep c.n = s.keep + c.n := by unfold hld; omega
   have hf2 := fun vs => yy259 (s := { s with keep := hld s.keep c.n }) (by show 0 ≤ hld s.keep c.n; exact yy129 _ _) hg vs
   refine ⟨fun vs => ?_, ?_, ht⟩
   ·rw [(hf2 vs).1, yy84, ed_one g, ed_nil, ← he, ← hs, (hf vs).1, (hf vs).2]
    show ed s.out vs ++ List.take (hld s.keep c.n).toNat (List.drop (inS s.out) vs) ++ cps s.text = _
    rw [ht0, yy257, List.append_nil, List.append_nil, List.append_nil, ek, show (s.keep + c.n).toNat = s.keep.toNat + c.n.toNat by omega, List.take_add, List.drop_drop, hg0, List.append_assoc]
    simp
   ·rw [(hf2 []).2, yy66, yy32, yy86, in_one g, ← hs, hin]
    show inS s.out + (hld s.keep c.n).toNat + s.gone.toNat = _
    rw [ek]
    omega
 ·rw [yy89 g] at hl
  have ek : hld s.gone c.n = s.gone + c.n := by unfold hld; omega
  rw [nStep, if_neg (by omega), if_pos g]
  have hf2 := fun vs => yy259 (s := { s with gone := hld s.gone c.n }) hk (by show 0 ≤ hld s.gone c.n; exact yy129 _ _) vs
  refine ⟨fun vs => ?_, ?_, ht⟩
  ·rw [(hf2 vs).1, yy84, yy74 g, ed_nil, List.append_nil, ← he, (hf vs).1]
  ·rw [(hf2 []).2, yy66, yy32, yy86, yy89 g, ← hs, hin]
   show inS s.out + s.keep.toNat + (hld s.gone c.n).toNat = _
   rw [ek]
   omega
 ·rw [nStep, if_pos g]
  have hf2 := fun vs => yy259 (s := { s with text := s.text ++ c.text }) hk hg vs
  refine ⟨fun vs => ?_, ?_, ?_⟩
  ·rw [(hf2 vs).1, yy84, ed_two g, ed_nil, List.append_nil, ← he, (hf vs).1]
   show ed s.out vs ++ List.take s.keep.toNat (List.drop (inS s.out) vs) ++ cps (s.text ++ c.text) = _
   rw [yy578 ht gv, List.append_assoc, List.append_assoc, List.append_assoc]
  ·rw [(hf2 []).2, yy66, yy32, yy86, in_two g, ← hs, hin]
   show inS s.out + s.keep.toNat + s.gone.toNat = _
   omega
  ·exact ⟨_, (cps_V ht).append (cps_V gv)⟩
theorem run_ed (l : List CompV) (hw : ∀ c ∈ l, Wh c) (hl : inS l ≤ 1099511627776) : NEd l (nRun l) := by
 have : ∀ k, k ≤ l.length → NEd (l.take k) (nRun (l.take k)) := by
  intro k
  induction k with
  | zero => exact fun _ => ⟨fun vs => by rw [List.take_zero]; rfl, by rw [List.take_zero]; rfl, [], V.nil⟩
  | succ k ih =>
   intro hk
   rw [List.take_succ_eq_append_getElem (by omega), yy325]
   refine yy789 (ih (by omega)) (yy574 _) _ (hw _ (List.getElem_mem _)) ?_
   rw [← List.take_succ_eq_append_getElem (by omega)]
   have := yy66 (l.take (k + 1)) (l.drop (k + 1))
   rw [List.take_append_drop] at this
   omega
 have h := this l.length (Nat.le_refl _)
 rwa [List.take_length] at h
theorem yy849 {l : List CompV} (hw : ∀ c ∈ l, Wh c) : AllV l := fun y hy => by
 rcases (hw y hy).cases with ⟨_, _, e⟩ | ⟨_, _, e⟩ | ⟨_, _, _, e⟩
 ·exact ⟨[], by rw [e]; exact V.nil⟩
 ·exact ⟨[], by rw [e]; exact V.nil⟩
 ·exact e
structure NormEd (l m : List CompV) : Prop where
 ch : Ch 0 m
 ed : ∀ vs, ed m vs = ed l vs
 ins : inS m = inS l
 outs : outS m = outS l
theorem yy850 {l : List CompV} (hw : ∀ c ∈ l, Wh c) (hl : inS l ≤ 1099511627776) : NormEd l (yy38 l) := by
 have h := run_ed l hw hl
 have hc : Ch 0 (yy38 l) := yy788 (yy847 l) fun y hy _ => yy785 l (yy849 hw) y hy
 refine ⟨hc, h.ed, h.ins, ?_⟩
 have e1 := yy147 (yy38 l) (List.replicate (inS l) 0) hc.wh (by rw [List.length_replicate]; exact Nat.le_of_eq h.ins)
 have e2 := yy147 l (List.replicate (inS l) 0) hw (by rw [List.length_replicate]; exact Nat.le_refl _)
 have e3 : ed (yy38 l) (List.replicate (inS l) 0) = ed l (List.replicate (inS l) 0) := h.ed _
 rw [← e1, ← e2, e3]
noncomputable def sz (c : CompV) : Nat := if c.kind = 2 then (cps c.text).length else c.n.toNat
noncomputable def cut (c : CompV) (n : Nat) : CompV := if c.kind = 2 then ⟨2, 0, E ((cps c.text).drop n)⟩ else ⟨c.kind, c.n - n, []⟩
noncomputable def piece (c : CompV) (k : Nat) : CompV := if c.kind = 2 then ⟨2, 0, E ((cps c.text).take k)⟩ else ⟨c.kind, k, []⟩
noncomputable def chop (c : CompV) (l : List CompV) (n : Nat) : List CompV := if n = sz c then l else cut c n :: l
theorem sz_two {c : CompV} (h : c.kind = 2) : sz c = (cps c.text).length := if_pos h
theorem sz_not {c : CompV} (h : c.kind ≠ 2) : sz c = c.n.toNat := if_neg h
theorem Wh.sz {c : CompV} (h : Wh c) : 0 < sz c := by
 rcases h.cases with ⟨g, gn, _⟩ | ⟨g, gn, _⟩ | ⟨g, _, gt, gv⟩
 ·rw [sz_not (by omega)]; omega
 ·rw [sz_not (by omega)]; omega
 ·rw [sz_two g]; exact cps_ne gv gt
theorem yy579 (c : CompV) (n : Nat) : (cut c n).kind = c.kind := by unfold cut; split <;> simp_all
theorem yy260 (c : CompV) (n : Nat) : (piece c n).kind = c.kind := by unfold piece; split <;> simp_all
theorem yy329 {t : List Nat} (h : ∃ vs, V t vs) (n : Nat) : ∀ v ∈ (cps t).drop n, May v := fun v hv => (cps_V h).may v (List.mem_of_mem_drop hv)
theorem yy330 {t : List Nat} (h : ∃ vs, V t vs) (n : Nat) : ∀ v ∈ (cps t).take n, May v := fun v hv => (cps_V h).may v (List.mem_of_mem_take hv)
theorem E_ne {vs : List Nat} (h : 0 < vs.length) : E vs ≠ [] := fun e => by
 have := yy205 vs
 rw [e] at this
 have : vs.length ≤ 0 := this
 omega
theorem cut_wh {c : CompV} (h : Wh c) {n : Nat} (hn : n < sz c) : Wh (cut c n) ∧ sz (cut c n) = sz c - n := by
 rcases h.cases with ⟨g, gn, gt⟩ | ⟨g, gn, gt⟩ | ⟨g, gn, gt, gv⟩
 ·rw [sz_not (c := c) (by omega)] at hn ⊢
  have e : cut c n = ⟨c.kind, c.n - n, []⟩ := if_neg (by omega)
  rw [e]
  exact ⟨.inl ⟨.inl g, by show 1 ≤ c.n - n; omega, rfl⟩, by rw [sz_not (by show c.kind ≠ 2; omega)]; show (c.n - n).toNat = _; omega⟩
 ·rw [sz_not (c := c) (by omega)] at hn ⊢
  have e : cut c n = ⟨c.kind, c.n - n, []⟩ := if_neg (by omega)
  rw [e]
  exact ⟨.inl ⟨.inr g, by show 1 ≤ c.n - n; omega, rfl⟩, by rw [sz_not (by show c.kind ≠ 2; omega)]; show (c.n - n).toNat = _; omega⟩
 ·rw [sz_two (c := c) g] at hn ⊢
  have e : cut c n = ⟨2, 0, E ((cps c.text).drop n)⟩ := if_pos g
  rw [e]
  refine ⟨.inr ⟨rfl, rfl, E_ne (by rw [List.length_drop]; omega), _, V.mk (yy329 gv n)⟩, ?_⟩
  rw [sz_two rfl]
  show (cps (E _)).length = _
  rw [cps_E (yy329 gv n), List.length_drop]
theorem yy331 {c : CompV} (h : Wh c) {n : Nat} (h0 : 0 < n) (hn : n ≤ sz c) : Wh (piece c n) ∧ sz (piece c n) = n := by
 rcases h.cases with ⟨g, gn, gt⟩ | ⟨g, gn, gt⟩ | ⟨g, gn, gt, gv⟩
 ·have e : piece c n = ⟨c.kind, n, []⟩ := if_neg (by omega)
  rw [e]
  exact ⟨.inl ⟨.inl g, by show (1 : Int) ≤ n; omega, rfl⟩, by rw [sz_not (by show c.kind ≠ 2; omega)]; rfl⟩
 ·have e : piece c n = ⟨c.kind, n, []⟩ := if_neg (by omega)
  rw [e]
  exact ⟨.inl ⟨.inr g, by show (1 : Int) ≤ n; omega, rfl⟩, by rw [sz_not (by show c.kind ≠ 2; omega)]; rfl⟩
 ·rw [sz_two g] at hn
  have e : piece c n = ⟨2, 0, E ((cps c.text).take n)⟩ := if_pos g
  rw [e]
  refine ⟨.inr ⟨rfl, rfl, E_ne (by rw [List.length_take]; omega), _, V.mk (yy330 gv n)⟩, ?_⟩
  rw [sz_two rfl]
  show (cps (E _)).length = _
  rw [cps_E (yy330 gv n), List.length_take]
  omega
theorem yy475 {c : CompV} (h : Wh c) : piece c (sz c) = c := by
 obtain ⟨a, b, t⟩ := c
 rcases h.cases with ⟨g, gn, gt⟩ | ⟨g, gn, gt⟩ | ⟨g, gn, gt, gv⟩
 ·simp only at g gt gn
  subst g gt
  show CompV.mk 1 ((b.toNat : Nat) : Int) [] = _
  rw [show (b.toNat : Int) = b by omega]
 ·simp only at g gt gn
  subst g gt
  show CompV.mk 3 ((b.toNat : Nat) : Int) [] = _
  rw [show (b.toNat : Int) = b by omega]
 ·simp only at g gn gv
  subst g gn
  show CompV.mk 2 0 (E ((cps t).take (cps t).length)) = _
  rw [List.take_length, (cps_V gv).bytes]
theorem yy753 {c : CompV} (h : Wh c) (l : List CompV) {n : Nat} (h0 : 0 < n) (hn : n ≤ sz c) :
  (∀ vs, ed (c :: l) vs = ed (piece c n :: chop c l n) vs) ∧ inS (c :: l) = inN (piece c n) + inS (chop c l n) ∧ outS (c :: l) = outN (piece c n) + outS (chop c l n) ∧ ((∀ x ∈ l, Wh x) → ∀ x ∈ chop c l n, Wh x) := by
 have hp := (yy331 h h0 hn)
 by_cases he : n = sz c
 ·have e : chop c l n = l := if_pos he
  rw [e, he, yy475 h, yy32, yy69]
  exact ⟨fun _ => rfl, rfl, rfl, fun h => h⟩
 ·have hlt : n < sz c := by omega
  have hc := cut_wh h hlt
  have e : chop c l n = cut c n :: l := if_neg he
  rw [e, yy32, yy32, yy69, yy69]
  have hk := yy579 c n
  have hq := yy260 c n
  have hw : (∀ x ∈ l, Wh x) → ∀ x ∈ cut c n :: l, Wh x := fun h x hx => by
   rcases List.mem_cons.1 hx with rfl | hx
   ·exact hc.1
   ·exact h x hx
  rcases h.cases with ⟨g, gn, gt⟩ | ⟨g, gn, gt⟩ | ⟨g, gn, gt, gv⟩
  ·rw [g] at hk hq
   have e1 : (cut c n).n = c.n - n := by rw [cut, if_neg (by omega)]
   have e2 : (piece c n).n = n := by rw [piece, if_neg (by omega)]
   rw [sz_not (by omega)] at hlt
   rw [in_one g, in_one hk, in_one hq, yy258 g, yy258 hk, yy258 hq, e1, e2]
   refine ⟨fun vs => ?_, by omega, by omega, hw⟩
   rw [ed_one g, ed_one hq, ed_one hk, e1, e2, ← List.append_assoc, List.drop_drop, Int.toNat_natCast, ← List.take_add, show n + (c.n - n).toNat = c.n.toNat by omega]
  ·rw [g] at hk hq
   have e1 : (cut c n).n = c.n - n := by rw [cut, if_neg (by omega)]
   have e2 : (piece c n).n = n := by rw [piece, if_neg (by omega)]
   rw [sz_not (by omega)] at hlt
   rw [yy89 g, yy89 hk, yy89 hq, yy146 g, yy146 hk, yy146 hq, e1, e2]
   refine ⟨fun vs => ?_, by omega, by omega, hw⟩
   rw [yy74 g, yy74 hq, yy74 hk, e1, e2, List.drop_drop, Int.toNat_natCast, show n + (c.n - n).toNat = c.n.toNat by omega]
  ·rw [g] at hk hq
   have e1 : (cut c n).text = E ((cps c.text).drop n) := by rw [cut, if_pos g]
   have e2 : (piece c n).text = E ((cps c.text).take n) := by rw [piece, if_pos g]
   rw [sz_two g] at hlt
   rw [in_two g, in_two hk, in_two hq, yy185 g, yy185 hk, yy185 hq, e1, e2, cps_E (yy329 gv n), cps_E (yy330 gv n), List.length_drop, List.length_take]
   refine ⟨fun vs => ?_, by omega, by omega, hw⟩
   rw [ed_two g, ed_two hq, ed_two hk, e1, e2, cps_E (yy329 gv n), cps_E (yy330 gv n), ← List.append_assoc, List.take_append_drop]
def kd : List CompV → Int
 | [] => 0
 | c :: _ => c.kind
inductive Cmp : List CompV → List CompV → List CompV → Prop
 | nil : Cmp [] [] []
 | gone (c : CompV) (a b o : List CompV) : c.kind = 3 → Cmp a b o → Cmp (c :: a) b (c :: o)
 | puts (a : List CompV) (d : CompV) (b o : List CompV) : kd a ≠ 3 → d.kind = 2 → Cmp a b o → Cmp a (d :: b) (d :: o)
 | both (c : CompV) (a : List CompV) (d : CompV) (b o : List CompV) (n : Nat) : c.kind ≠ 3 → d.kind ≠ 2 → n = min (sz c) (sz d) → Cmp (chop c a n) (chop d b n) o →
   Cmp (c :: a) (d :: b) ((if d.kind = 1 then [piece c n] else if c.kind = 1 then [piece d n] else []) ++ o)
theorem yy580 {c : CompV} {l : List CompV} (h1 : Wh c) (h2 : ∀ x ∈ l, Wh x) : ∀ x ∈ c :: l, Wh x := fun x hx => by
 rcases List.mem_cons.1 hx with rfl | hx
 ·exact h1
 ·exact h2 x hx
theorem Cmp.one {a b o : List CompV} (h : Cmp a b o) : ∀ {o' : List CompV}, Cmp a b o' → o = o' := by
 induction h with
 | nil => intro o' h'; cases h'; rfl
 | gone c a b o hk _ ih =>
  intro o' h'
  cases h' with
  | gone _ _ _ o2 _ g => rw [ih g]
  | puts _ _ _ _ g => exact absurd hk g
  | both _ _ _ _ _ _ g => exact absurd hk g
 | puts a d b o h3 hk _ ih =>
  intro o' h'
  cases h' with
  | gone _ _ _ o2 g => exact absurd g h3
  | puts _ _ _ _ _ _ g => rw [ih g]
  | both _ _ _ _ _ _ _ g => exact absurd hk g
 | both c a d b o n h3 h2 hmin _ ih =>
  intro o' h'
  cases h' with
  | gone _ _ _ o2 g => exact absurd g h3
  | puts _ _ _ _ _ g => exact absurd g h2
  | both _ _ _ _ _ m _ _ hm g => subst hmin; subst hm; rw [ih g]
theorem yy377 : (bstr []).toList = [] := by
 rw [ByteArray.toList, ByteArray.toList.loop, if_neg (by rw [bstr_size]; simp)]
 rfl
theorem yy152 : (bstr []).toList.isEmpty = true := by rw [yy377]; rfl
theorem yy169 {l : List Nat} (h : l ≠ []) : (bstr l).toList.isEmpty = false := by
 cases e : (bstr l).toList.isEmpty with
 | false => rfl
 | true =>
  exfalso
  have h1 : (bstr l).toList = [] := List.isEmpty_iff.1 e
  have h2 : (bstr []).toList = [] := yy377
  have h3 : ((bstr l).toList == (bstr []).toList) = false := bstr_neq fun g => h (by
   have := congrArg ByteArray.size g
   rw [bstr_size, bstr_size] at this
   exact List.length_eq_zero_iff.1 this)
  rw [h1, h2] at h3
  simp at h3
end Go.Proofs.YtjpjdkdbgjipnaaDoor
namespace Go.Proofs.YtjpjdkdbgjipnaaDoor
open Go.RowKit Go.Deep
set_option maxRecDepth 100000 in
theorem yy424 (l : List Nat) (hb : ∀ x ∈ l, x < 256) (hl : l.length ≤ 1099511627776) (w : World) :
  Calls Tryd.prog 87 #[.string (bstr l)] w fun e w' => e = .returned (.int .i64 (loose l : Int)) ∧ w = w' := by
 have HP := xh (fun i hi w => yy170 l hb hl i hi w)
 have HB := xh hb; clear hb
 have hsz := bstr_size l
 obtain ⟨T, HT⟩ : ∃ T, Hid (loose l = T) := ⟨_, xh rfl⟩
 have HTL : Hid (T ≤ l.length) := by show _ ≤ _; rw [← HT.out]; exact yy167 l
 rw [HT.out]
 go_enter Tryd.func87, Tryd.ntmps87
 go_wp2
 go_loopw [3, 4] (fun k i wr => ∃ p q : Nat, p ≤ l.length ∧ i = .int .i64 p ∧ k = .int .i64 q ∧ q + loose (l.drop p) = T ∧ w = wr) (fun _ i _ => l.length - (intOf i).toNat)
 case atStart => exact ⟨0, 0, Nat.zero_le _, rfl, rfl, by rw [Nat.zero_add]; exact HT.out, rfl⟩
 case round =>
  obtain ⟨p, q, hp, rfl, rfl, hq, rfl⟩ := hrel
  have HQ := xh hq; clear hq
  by_cases hlt : p < l.length
  ·obtain ⟨c, t, hd⟩ : ∃ c t, l.drop p = c :: t := ⟨l[p], l.drop (p + 1), List.drop_eq_getElem_cons hlt⟩
   have hix := fun w => byte_at HB.out hd w
   have hne : l.drop p ≠ [] := by rw [hd]; simp
   have hs1 := yy107 (l.drop p)
   have hs2 := yy254 hne
   rw [List.length_drop] at hs2
   have HN := xh (yy183 hne)
   rw [List.drop_drop] at HN
   have HPT := xh (fun w => HP.out p hlt w)
   obtain ⟨s, HS⟩ : ∃ s, Hid (yy64 (l.drop p) = s) := ⟨_, xh rfl⟩
   rw [HS.out] at hs1 hs2 HN
   have HQ2 : Hid (q + 1 + loose (l.drop (p + s)) = T) := by show _ = _; have := HQ.out; rw [HN.out] at this; omega
   have hqt : q < 1099511627776 := by have := HQ2.out; have := HTL.out; omega
   have hpl : p + s ≤ l.length := by omega
   clear hne
   have HD := xh hd
   clear hd
   by_cases h0 : c = 0
   ·subst h0
    have hs : s = 1 := by
     rw [← HS.out, yy64, HD.out, show st (0 :: t) = none by rw [yy58, if_pos (by omega), yy55, if_pos (.inr (by unfold May; omega))]]
    subst hs
    go_wp2
    go_roundw
    case rel => exact ⟨p + 1, q + 1, hpl, by go_num, by go_num, HQ2.out, trivial⟩
    case measure => simp [intOf]; omega
   ·have hc : (c == 0) = false := xn h0
    go_wp2_with fail
    refine (HPT.out _).mono ?_
    rintro e w1 ⟨⟨v, t2, hst, rfl⟩ | ⟨hst, rfl⟩, rfl⟩
    ·have hs : (enc v).length = s := by rw [← HS.out, yy64, hst]
     rw [hs]
     clear hst hs
     have hmax : max (s : Int) 1 = (s : Int) := by omega
     go_wp2
     go_roundw
     case rel => exact ⟨p + s, q + 1, hpl, by go_num, by go_num, HQ2.out, trivial⟩
     case measure => simp [intOf]; omega
    ·have hs : s = 1 := by rw [← HS.out, yy64, hst]
     subst hs
     clear hst
     go_wp2
     go_roundw
     case rel => exact ⟨p + 1, q + 1, hpl, by go_num, by go_num, HQ2.out, trivial⟩
     case measure => simp [intOf]; omega
  ·have HE : Hid (q = T) := by
    show q = T
    have := HQ.out
    rw [List.drop_eq_nil_of_le (by omega), yy236] at this
    omega
   go_wp2
   go_ret
   exact ⟨by rw [← HE.out]; rfl, rfl⟩
theorem yy312 (a b : Int) (w : World) :
  Calls Tryd.prog 86 #[.int .i64 a, .int .i64 b] w fun e w' => e = .returned (.int .i64 (hld a b)) ∧ w = w' := by
 rcases (show a < 0 ∨ (0 ≤ a ∧ a ≤ 1099511627776) ∨ 1099511627776 < a by omega) with h | ⟨h, h'⟩ | h <;> rcases (show b < 0 ∨ (0 ≤ b ∧ b ≤ 1099511627776) ∨ 1099511627776 < b by omega) with g | ⟨g, g'⟩ | g <;>
  rcases (show a + b ≤ 1099511627776 ∨ 1099511627776 < a + b by omega) with k | k <;>
  ·go_enter Tryd.func86, Tryd.ntmps86
   go_wp2
   all_goals
    go_ret
    refine ⟨Eq.trans (b := Ending.returned (.int .i64 _)) rfl (congrArg (fun n : Int => Ending.returned (.int .i64 n)) ?_), rfl⟩
    unfold hld
    omega
theorem yy313 (A : Option Addr) (c : Nat) (l : List CompV) (hl : l.length ≤ maxLen) (w : World) (hc : yy7 w A l) :
  Calls Tryd.prog 68 #[.slice A l.length c] w fun e w' => e = .returned (.int .i64 (rBase l)) ∧ w = w' := by
 unfold maxLen at hl
 have HC := xh hc; clear hc
 have GH := xh (fun a b w => yy312 a b w)
 obtain ⟨T, HT⟩ : ∃ T, Hid (rBase l = T) := ⟨_, xh rfl⟩
 rw [HT.out]
 go_enter Tryd.func68, Tryd.ntmps68
 go_wp2
 go_loopw [3, 4] (fun n i wr => ∃ (k : Nat) (m : Int), k ≤ l.length ∧ i = .int .i64 k ∧ n = .int .i64 m ∧ rBase (l.take k) = m ∧ w = wr) (fun _ i _ => l.length - (intOf i).toNat)
 case atStart => exact ⟨0, 0, Nat.zero_le _, rfl, rfl, rfl, rfl⟩
 case round =>
  obtain ⟨k, m, hk, rfl, rfl, hm, rfl⟩ := hrel
  have HM := xh hm; clear hm
  by_cases hlt : k < l.length
  ·obtain ⟨b, off, rfl, _⟩ := HC.out.form (by omega)
   obtain ⟨x0, x1, _⟩ := HC.out.at_ hlt
   have HS := xh (show rBase (l.take (k + 1)) = yy45 m l[k] by rw [List.take_succ_eq_append_getElem hlt, yy370, HM.out])
   generalize l[k] = y at x0 x1 HS
   obtain ⟨kd, n, tx⟩ := y
   simp only at x0 x1
   by_cases h1 : kd = 1 ∨ kd = 3
   ·rw [yy45, if_pos h1] at HS
    have HH := xh (fun w => GH.out m n w)
    obtain ⟨q, HQ⟩ : ∃ q, Hid (hld m n = q) := ⟨_, xh rfl⟩
    have HS2 : Hid (rBase (l.take (k + 1)) = q) := by show _ = _; rw [HS.out]; exact HQ.out
    rw [HQ.out] at HH
    rcases h1 with rfl | rfl
    ·go_wp2_with fail
     refine (HH.out _).mono ?_
     rintro e w1 ⟨rfl, rfl⟩
     go_wp2
     go_roundw
     case rel => exact ⟨k + 1, q, by omega, by go_num, rfl, HS2.out, trivial⟩
     case measure => simp [intOf]; omega
    ·go_wp2_with fail
     refine (HH.out _).mono ?_
     rintro e w1 ⟨rfl, rfl⟩
     go_wp2
     go_roundw
     case rel => exact ⟨k + 1, q, by omega, by go_num, rfl, HS2.out, trivial⟩
     case measure => simp [intOf]; omega
   ·have g1 : (kd == 1) = false := xn fun h => h1 (.inl h)
    have g3 : (kd == 3) = false := xn fun h => h1 (.inr h)
    rw [yy45, if_neg h1] at HS
    clear h1
    go_wp2
    go_roundw
    case rel => exact ⟨k + 1, m, by omega, by go_num, rfl, HS.out, trivial⟩
    case measure => simp [intOf]; omega
  ·have HE : Hid (m = T) := by show _ = _; rw [← HM.out, List.take_of_length_le (by omega), HT.out]
   go_wp2
   go_ret
   exact ⟨by rw [← HE.out]; rfl, rfl⟩
theorem yy590 (A : Option Addr) (c : Nat) (l : List CompV) (hl : l.length ≤ maxLen) (hf : Fine1 l) (w : World) (hc : yy7 w A l) :
  Calls Tryd.prog 69 #[.slice A l.length c] w fun e w' => e = .returned (.int .i64 (rOut l)) ∧ w = w' := by
 unfold maxLen at hl
 have HC := xh hc; clear hc
 have HF := xh hf; clear hf
 have GH := xh (fun a b w => yy312 a b w)
 obtain ⟨T, HT⟩ : ∃ T, Hid (rOut l = T) := ⟨_, xh rfl⟩
 rw [HT.out]
 go_enter Tryd.func69, Tryd.ntmps69
 go_wp2
 go_loopw [3, 4] (fun n i wr => ∃ (k : Nat) (m : Int), k ≤ l.length ∧ i = .int .i64 k ∧ n = .int .i64 m ∧ rOut (l.take k) = m ∧ w = wr) (fun _ i _ => l.length - (intOf i).toNat)
 case atStart => exact ⟨0, 0, Nat.zero_le _, rfl, rfl, rfl, rfl⟩
 case round =>
  obtain ⟨k, m, hk, rfl, rfl, hm, rfl⟩ := hrel
  have HM := xh hm; clear hm
  by_cases hlt : k < l.length
  ·obtain ⟨b, off, rfl, _⟩ := HC.out.form (by omega)
   obtain ⟨x0, x1, x2⟩ := HC.out.at_ hlt
   have HS := xh (show rOut (l.take (k + 1)) = yy65 m l[k] by rw [List.take_succ_eq_append_getElem hlt, yy324, HM.out])
   have HY := xh (HF.out l[k] (List.getElem_mem hlt))
   generalize l[k] = y at x0 x1 x2 HS HY
   obtain ⟨kd, n, tx⟩ := y
   simp only at x0 x1 x2
   by_cases h1 : kd = 1
   ·subst h1
    rw [yy65, if_pos rfl] at HS
    have HH := xh (fun w => GH.out m n w)
    obtain ⟨q, HQ⟩ : ∃ q, Hid (hld m n = q) := ⟨_, xh rfl⟩
    have HS2 : Hid (rOut (l.take (k + 1)) = q) := by show _ = _; rw [HS.out]; exact HQ.out
    rw [HQ.out] at HH
    go_wp2_with fail
    refine (HH.out _).mono ?_
    rintro e w1 ⟨rfl, rfl⟩
    go_wp2
    go_roundw
    case rel => exact ⟨k + 1, q, by omega, by go_num, rfl, HS2.out, trivial⟩
    case measure => simp [intOf]; omega
   ·have g1 : (kd == 1) = false := xn h1
    by_cases h2 : kd = 2
    ·subst h2
     rw [yy65, if_neg h1, if_pos rfl] at HS
     have HL := xh (fun w => yy424 tx HY.out.1.2.2.1 HY.out.2 w)
     have HH := xh (fun w => GH.out m (loose tx : Int) w)
     obtain ⟨z, HZ⟩ : ∃ z, Hid (loose tx = z) := ⟨_, xh rfl⟩
     obtain ⟨q, HQ⟩ : ∃ q, Hid (hld m (loose tx : Int) = q) := ⟨_, xh rfl⟩
     have HS2 : Hid (rOut (l.take (k + 1)) = q) := by show _ = _; rw [HS.out]; exact HQ.out
     rw [HQ.out] at HH
     rw [HZ.out] at HL HH
     go_wp2_with fail
     refine (HL.out _).mono ?_
     rintro e w1 ⟨rfl, rfl⟩
     go_wp2_with fail
     refine (HH.out _).mono ?_
     rintro e w1 ⟨rfl, rfl⟩
     go_wp2
     go_roundw
     case rel => exact ⟨k + 1, q, by omega, by go_num, rfl, HS2.out, trivial⟩
     case measure => simp [intOf]; omega
    ·have g2 : (kd == 2) = false := xn h2
     rw [yy65, if_neg h1, if_neg h2] at HS
     clear h1 h2
     go_wp2
     go_roundw
     case rel => exact ⟨k + 1, m, by omega, by go_num, rfl, HS.out, trivial⟩
     case measure => simp [intOf]; omega
  ·have HE : Hid (m = T) := by show _ = _; rw [← HM.out, List.take_of_length_le (by omega), HT.out]
   go_wp2
   go_ret
   exact ⟨by rw [← HE.out]; rfl, rfl⟩
theorem yy232 {w : World} {ops : Array Oper} {rest : List Oper} {o : Oper} {a : Act} {Q : Exit → Act → World → Prop} (hgd : o.guard = none) (s x : Operand)
  (ho : o.op = .call { callee := .builtin .append, args := #[s, x], argTypes := #[30, 30] })
  (base : Nat) (v : Value) (vs : List Nat) (hs : a.eval s = v) (hown : w.ownsRow base 3 1 v vs.length (is64 (nz vs))) (g : Nat) (y : Nat) (hx : a.eval x = .slice (some ⟨g, 0, none⟩) 1 1) (hg : w.cell? ⟨g, 0, none⟩ = some (.int .i64 (y : Int)))
  (hlen : vs.length ≤ 1099511627776) (hbase : base ≤ w.heap.size)
  (h : ∀ v' w', w'.ownsRow base 3 1 v' (vs ++ [y]).length (is64 (nz (vs ++ [y]))) → w.grownBy w' v.ownBlock → wpList Tryd.prog ops Q rest (a.put o.dst v') w') : wpList Tryd.prog ops Q (o :: rest) a w := by
 obtain ⟨i0, hi0, hz0, hz1, hz2⟩ := info_parts yy775
 refine wpList_append_own _ hgd s x 30 ho base 3 i0 (.int .i64 0) 1 8 Tryd.underlying30 hi0 hz0 hz1 hz2 rfl (by omega) v vs.length (is64 (nz vs)) hs hown ⟨g, 0, none⟩ 1 1 [.int .i64 (y : Int)] hx rfl ?_ ?_ (by simp only [maxLen]; omega) (by omega) hbase ?_
 ·intro j u hj
  match j, hj with
  | 0, hj => simp at hj; subst hj; simp [Addr.add]; exact hg
  | (j + 1), hj => simp at hj
 ·intro u hu; simp at hu; subst hu; rfl
 ·intro v' w1 hown1 hgr _
  refine h v' w1 ?_ hgr
  rw [yy852, yy517, List.length_append]
  exact hown1
def PtsRel (w : World) (l : List Nat) (i : Nat) (v : Value) (wr : World) : Prop :=
 ∃ vs r, (∀ v ∈ vs, May v) ∧ l = E vs ++ r ∧ i = (E vs).length ∧ wr.ownsRow w.heap.size 3 1 v vs.length (is64 (nz vs)) ∧ Below w.heap.size w wr
theorem PtsRel.start (w : World) (l : List Nat) : PtsRel w l 0 (.slice none 0 0) w := ⟨[], l, by simp, by rw [E_nil]; rfl, by rw [E_nil]; rfl, by simpa [is64, nz] using World.ownsRow_nil _ _ _ _, Below.refl _ _⟩
set_option maxRecDepth 100000 in
theorem yy132 (l : List Nat) (hb : ∀ x ∈ l, x < 256) (hl : l.length ≤ 1099511627776) (w : World) :
  Calls Tryd.prog 47 #[.string (bstr l)] w fun e w' =>
   ((∃ vs, V l vs ∧ ∃ A c, e = .returned (.tuple #[.slice A (nz vs).length c, .bool true]) ∧ IntsAt w' A (nz vs)) ∨ ((¬ ∃ vs, V l vs) ∧ e = .returned (.tuple #[.slice none 0 0, .bool false]))) ∧ Below w.heap.size w w' := by
 have HP := xh (fun i hi w => yy170 l hb hl i hi w)
 have HB := xh hb; clear hb
 have hsz := bstr_size l
 go_enter Tryd.func47, Tryd.ntmps47
 go_wp2
 go_loopw [4, 5] (fun v i wr => ∃ k : Nat, k ≤ l.length ∧ i = .int .i64 k ∧ PtsRel w l k v wr) (fun _ i _ => l.length - (intOf i).toNat)
 case atStart => exact ⟨0, Nat.zero_le _, rfl, PtsRel.start w l⟩
 case round =>
  obtain ⟨k, hk, rfl, vs, r, hvs, hlr, hke, hown, hbel⟩ := hrel
  have HOWN := xh hown; clear hown
  have HBEL := xh hbel; clear hbel
  have HVS := xh hvs; clear hvs
  have HLR := xh hlr; clear hlr
  have HKE := xh hke; clear hke
  obtain ⟨A4, c4, rfl⟩ := own_slice HOWN.out
  by_cases hlt : k < l.length
  ·have HR : Hid (l.drop k = r) := by show l.drop k = r; rw [HLR.out, HKE.out, List.drop_left' rfl]
   have HRN : Hid (r ≠ []) := by
    show r ≠ []
    intro h
    have h1 := congrArg List.length HLR.out
    rw [h, List.append_nil, ← HKE.out] at h1
    omega
   have HP1 := xh (fun w => HP.out k hlt w)
   rw [HR.out] at HP1
   go_wp2_with fail
   refine (HP1.out _).mono ?_
   rintro e w1 ⟨hpe, rfl⟩
   rcases hpe with ⟨v, t, hst, rfl⟩ | ⟨hst, rfl⟩
   ·obtain ⟨hmay, hrt⟩ := yy180 hst
    have HST := xh hrt
    have HMAY := xh hmay
    have hn1 := yy367 v
    have hn2 := enc_le v
    have HKN : Hid (k + (enc v).length + t.length = l.length) := by
     show k + (enc v).length + t.length = l.length
     rw [HLR.out, HST.out, List.length_append, List.length_append, ← HKE.out, Nat.add_assoc]
    obtain ⟨n, HN⟩ : ∃ n, Hid (n = (enc v).length) := ⟨_, rfl⟩
    rw [← HN.out] at hn1 hn2 HKN
    rw [← HN.out]
    have hne : ((n : Int) == 0) = false := xn (by omega)
    have hkn := HKN.out
    have hvl : Hid (vs.length ≤ 1099511627776) := by
     show vs.length ≤ 1099511627776
     have h1 := yy205 vs
     rw [← HKE.out] at h1
     omega
    clear hst hmay hrt
    go_wp2_with (at_builtin
                 refine yy232 rfl (.tmp 20) (.tmp 22) rfl w.heap.size (.slice A4 vs.length c4) vs rfl (HOWN.out.alloc _) wr.heap.size v rfl (by simp) hvl.out (by have := HBEL.out.size; simp; omega) ?_
                 intro v1 w1 hown1 hgr
                 have HOWN1 := xh hown1
                 have HB1 : Hid (Below w.heap.size w w1) := (HBEL.out.alloc HBEL.out.size _).grown hgr (by have := HBEL.out.size; simp; omega) (fun j hj => (HOWN.out.lt j hj).1)
                 clear hown1 hgr)
    go_roundw
    case rel =>
     refine ⟨k + n, by omega, by go_num, vs ++ [v], t, ?_, by rw [E_snoc, List.append_assoc, ← HST.out, ← HLR.out], by rw [E_snoc, List.length_append, ← HN.out, ← HKE.out], HOWN1.out, HB1.out⟩
     intro x hx
     rcases List.mem_append.1 hx with hx | hx
     ·exact HVS.out x hx
     ·rw [List.mem_singleton.1 hx]; exact HMAY.out
    case measure => simp [intOf]; omega
   ·have HNO : Hid (¬ ∃ vs, V l vs) := by
     show ¬ ∃ vs, V l vs
     rw [HLR.out]
     exact yy81 HVS.out HRN.out hst
    clear hst
    go_wp2
    go_ret2
    exact ⟨.inr ⟨HNO.out, rfl⟩, HBEL.out⟩
  ·have HV : Hid (V l vs) := by
    refine ⟨HVS.out, ?_⟩
    have h1 := congrArg List.length HLR.out
    rw [List.length_append, ← HKE.out] at h1
    have h2 : r = [] := List.eq_nil_of_length_eq_zero (by omega)
    rw [HLR.out, h2, List.append_nil]
   go_wp2
   go_ret2
   exact ⟨.inl ⟨vs, HV.out, A4, c4, by rw [yy238]; rfl, IntsAt.of_own HOWN.out (yy238 _).symm⟩, HBEL.out⟩
theorem yy171 (l : List Nat) (hb : ∀ x ∈ l, x < 256) (hl : l.length ≤ 1099511627776) (w : World) :
  Calls Tryd.prog 29 #[.string (bstr l)] w fun e w' => e = .returned (.bool (validB l)) ∧ Below w.heap.size w w' := by
 have HP := xh (yy132 l hb hl w)
 obtain ⟨F, HF⟩ : ∃ F, Hid (validB l = F) := ⟨_, rfl⟩
 rw [HF.out]
 go_enter Tryd.func29, Tryd.ntmps29
 go_wp2_with fail
 refine HP.out.mono ?_
 rintro e w1 ⟨⟨vs, hv, A, c, rfl, _⟩ | ⟨hn, rfl⟩, hbel⟩
 ·have e1 : Hid (F = true) := by show F = true; rw [← HF.out]; exact yy181 hv
  clear hv
  go_wp2
  go_ret
  exact ⟨by rw [e1.out]; rfl, hbel⟩
 ·have e1 : Hid (F = false) := by show F = false; rw [← HF.out]; exact yy235 hn
  clear hn
  go_wp2
  go_ret
  exact ⟨by rw [e1.out]; rfl, hbel⟩
set_option maxHeartbeats 4000000 in
set_option maxRecDepth 100000 in
theorem yy347 (A : Option Addr) (c : Nat) (l : List CompV) (hl : l.length ≤ maxLen) (hf : Fine1 l) (w : World) (hc : yy7 w A l) :
  Calls Tryd.prog 67 #[.slice A l.length c] w fun e w' => e = .returned (.bool (nrmB l)) ∧ Below w.heap.size w w' := by
 unfold maxLen at hl
 have HC := xh hc; clear hc
 have HF := xh hf; clear hf
 obtain ⟨T, HT⟩ : ∃ T, Hid (nrmB l = T) := ⟨_, xh rfl⟩
 rw [HT.out]
 go_enter Tryd.func67, Tryd.ntmps67
 go_wp2
 go_loopw [3] (fun i wr => ∃ k : Nat, k ≤ l.length ∧ i = .int .i64 k ∧ (∀ i c, i < k → l[i]? = some c → NormAt l i c) ∧ Below w.heap.size w wr) (fun i _ => l.length - (intOf i).toNat)
 case atStart => exact ⟨0, Nat.zero_le _, rfl, fun i c h => by omega, Below.refl _ _⟩
 case round =>
  obtain ⟨k, hk, rfl, hn, hbel⟩ := hrel
  have HN := xh hn; clear hn
  have HBEL := xh hbel; clear hbel
  by_cases hlt : k < l.length
  ·obtain ⟨b, off, rfl, _⟩ := HC.out.form (by omega)
   obtain ⟨x0, x1, x2⟩ := (HC.out.below HBEL.out).at_ hlt
   have HGET : Hid (l[k]? = some l[k]) := List.getElem?_eq_getElem hlt
   have HY := xh (HF.out l[k] (List.getElem_mem hlt))
   generalize l[k] = y at x0 x1 x2 HGET HY
   have HNO : Hid (¬ NormAt l k y → T = false) := fun h => by rw [← HT.out]; exact yy571 fun g => h (g k y HGET.out)
   have HYES : Hid (NormAt l k y → ∀ i c, i < k + 1 → l[i]? = some c → NormAt l i c) := fun h i c hi hc => by
    by_cases e : i = k
    ·subst e
     rw [HGET.out] at hc
     injection hc with hc
     subst hc
     exact h
    ·exact HN.out i c (by omega) hc
   obtain ⟨kd, n, tx⟩ := y
   simp only at x0 x1 x2
   have hnew : Below wr.heap.size wr (wr.alloc (Obj.cells #[Value.int .i64 kd, Value.int .i64 n, Value.string (bstr tx)] 51)) := (Below.refl _ _).alloc (Nat.le_refl _) _
   have HB1 : Hid (Below w.heap.size w (wr.alloc (Obj.cells #[Value.int .i64 kd, Value.int .i64 n, Value.string (bstr tx)] 51))) := HBEL.out.trans (hnew.mono HBEL.out.size)
   clear hnew
   have hsz := bstr_size tx
   have hnew : Below wr.heap.size wr (wr.alloc (Obj.cells #[Value.int .i64 kd, Value.int .i64 n, Value.string (bstr tx)] 51)) := (Below.refl _ _).alloc (Nat.le_refl _) _
   have HB1 : Hid (Below w.heap.size w (wr.alloc (Obj.cells #[Value.int .i64 kd, Value.int .i64 n, Value.string (bstr tx)] 51))) := HBEL.out.trans (hnew.mono HBEL.out.size)
   clear hnew
   have hsz := bstr_size tx
   by_cases h13 : kd = 1 ∨ kd = 3
   ·have g2 : (kd == 2) = false := xn (by omega)
    by_cases hn1 : 1 ≤ n
    ·have hn1' : ¬ n < 1 := by omega
     by_cases htx : tx = []
     ·subst htx
      have hte := yy152
      by_cases hkz : k = 0
      ·have hk0 : ¬ 0 < k := by omega
       have HOK : Hid (NormAt l k ⟨kd, n, []⟩) := ⟨.inl ⟨h13, hn1, rfl⟩, fun p h _ => absurd h hk0⟩
       clear hkz
       rcases h13 with rfl | rfl
       ·go_wp2_with fail
        go_region
        go_wp2
        go_roundw
        case rel => exact ⟨k + 1, by omega, by go_num, HYES.out HOK.out, HB1.out.drew⟩
        case measure => simp [intOf]; omega
       ·go_wp2_with fail
        go_region
        go_wp2
        go_roundw
        case rel => exact ⟨k + 1, by omega, by go_num, HYES.out HOK.out, HB1.out.drew⟩
        case measure => simp [intOf]; omega
      ·obtain ⟨j, HJ⟩ : ∃ j, Hid (k = j + 1) := ⟨k - 1, by show k = k - 1 + 1; omega⟩
       have hjl : j < l.length := by have := HJ.out; omega
       have hk1 : (k : Int) - 1 = (j : Int) := by have := HJ.out; omega
       have hkp : 0 < k := by omega
       have HP : Hid (l[k - 1]? = some l[j]) := by show _ = _; rw [HJ.out]; exact List.getElem?_eq_getElem hjl
       obtain ⟨p0, _, _⟩ := (HC.out.below HB1.out).at_ hjl
       generalize l[j] = p at p0 HP
       obtain ⟨pk, pn, ptx⟩ := p
       simp only at p0
       by_cases hpk : pk = kd
       ·have HFA : Hid (T = false) := HNO.out fun h => h.2 _ hkp HP.out hpk
        have gq : (pk == kd) = true := beq_iff_eq.2 hpk
        subst hpk
        rcases h13 with rfl | rfl
        ·go_wp2_with fail
         go_region
         go_wp2_with fail
         go_ret
         exact ⟨by rw [HFA.out]; rfl, HB1.out.drew⟩
        ·go_wp2_with fail
         go_region
         go_wp2_with fail
         go_ret
         exact ⟨by rw [HFA.out]; rfl, HB1.out.drew⟩
       ·have HOK : Hid (NormAt l k ⟨kd, n, []⟩) := ⟨.inl ⟨h13, hn1, rfl⟩, fun p h hp => by
         rw [HP.out] at hp
         injection hp with hp
         subst hp
         exact hpk⟩
        have gq : (pk == kd) = false := xn hpk
        clear hpk
        rcases h13 with rfl | rfl
        ·go_wp2_with fail
         go_region
         go_wp2
         go_roundw
         case rel => exact ⟨k + 1, by omega, by go_num, HYES.out HOK.out, HB1.out.drew⟩
         case measure => simp [intOf]; omega
        ·go_wp2_with fail
         go_region
         go_wp2
         go_roundw
         case rel => exact ⟨k + 1, by omega, by go_num, HYES.out HOK.out, HB1.out.drew⟩
         case measure => simp [intOf]; omega
     ·have HFA : Hid (T = false) := HNO.out fun h => by
       rcases h.1 with h | h
       ·exact htx h.2.2
       ·rcases h13 with e | e <;> (have := h.1; simp only at this; omega)
      have hte := yy169 htx
      clear htx
      rcases h13 with rfl | rfl
      ·go_wp2_with fail
       go_ret
       exact ⟨by rw [HFA.out]; rfl, HB1.out⟩
      ·go_wp2_with fail
       go_ret
       exact ⟨by rw [HFA.out]; rfl, HB1.out⟩
    ·have HFA : Hid (T = false) := HNO.out fun h => by
      rcases h.1 with h | h
      ·exact hn1 h.2.1
      ·rcases h13 with e | e <;> (have := h.1; simp only at this; omega)
     have hn1' : n < 1 := by omega
     clear hn1
     rcases h13 with rfl | rfl
     ·go_wp2_with fail
      go_ret
      exact ⟨by rw [HFA.out]; rfl, HB1.out⟩
     ·go_wp2_with fail
      go_ret
      exact ⟨by rw [HFA.out]; rfl, HB1.out⟩
   ·have g1 : (kd == 1) = false := xn (by omega)
    have g3 : (kd == 3) = false := xn (by omega)
    by_cases h2 : kd = 2
    ·subst h2
     clear g1 g3 h13
     by_cases hn0 : n = 0
     ·subst hn0
      by_cases htx : tx = []
      ·have HFA : Hid (T = false) := HNO.out fun h => by
        rcases h.1 with h | h
        ·rcases h.1 with e | e <;> (simp only at e; omega)
        ·exact h.2.2.1 htx
       subst htx
       have hte := yy152
       go_wp2_with fail
       go_ret
       exact ⟨by rw [HFA.out]; rfl, HB1.out⟩
      ·have hte := yy169 htx
       have GV := xh (yy171 tx HY.out.1.2.2.1 HY.out.2 (wr.alloc (Obj.cells #[Value.int .i64 2, Value.int .i64 0, Value.string (bstr tx)] 51)))
       by_cases hv : ∃ vs, V tx vs
       ·obtain ⟨vs, hvs⟩ := hv
        rw [yy181 hvs] at GV
        have HVS := xh hvs; clear hvs
        by_cases hkz : k = 0
        ·have hk0 : ¬ 0 < k := by omega
         have HOK : Hid (NormAt l k ⟨2, 0, tx⟩) := ⟨.inr ⟨rfl, rfl, htx, ⟨vs, HVS.out⟩, fun p h _ => absurd h hk0⟩, fun p h _ => absurd h hk0⟩
         clear htx hkz
         go_wp2_with fail
         refine GV.out.mono ?_
         rintro e w2 ⟨rfl, hb2⟩
         have HB2 : Hid (Below w.heap.size w w2) := HB1.out.trans (hb2.mono HB1.out.size)
         have hc0 : w2.cell? ⟨wr.heap.size, 0, none⟩ = some (.int .i64 2) := by
          refine (hb2.cell (p := ⟨wr.heap.size, 0, none⟩) (by simp)).trans ?_
          rw [cell_of_row _ _ _ _ _ _ (heap_alloc_new wr _)]
          rfl
         clear hb2
         go_wp2_with fail
         go_region
         go_wp2
         go_roundw
         case rel => exact ⟨k + 1, by omega, by go_num, HYES.out HOK.out, HB2.out.drew⟩
         case measure => simp [intOf]; omega
        ·obtain ⟨j, HJ⟩ : ∃ j, Hid (k = j + 1) := ⟨k - 1, by show k = k - 1 + 1; omega⟩
         have hjl : j < l.length := by have := HJ.out; omega
         have hk1 : (k : Int) - 1 = (j : Int) := by have := HJ.out; omega
         have hkp : 0 < k := by omega
         have HP : Hid (l[k - 1]? = some l[j]) := by show _ = _; rw [HJ.out]; exact List.getElem?_eq_getElem hjl
         go_wp2_with fail
         refine GV.out.mono ?_
         rintro e w2 ⟨rfl, hb2⟩
         have HB2 : Hid (Below w.heap.size w w2) := HB1.out.trans (hb2.mono HB1.out.size)
         have hc0 : w2.cell? ⟨wr.heap.size, 0, none⟩ = some (.int .i64 2) := by
          refine (hb2.cell (p := ⟨wr.heap.size, 0, none⟩) (by simp)).trans ?_
          rw [cell_of_row _ _ _ _ _ _ (heap_alloc_new wr _)]
          rfl
         clear hb2
         obtain ⟨p0, _, _⟩ := (HC.out.below HB2.out).at_ hjl
         generalize l[j] = p at p0 HP
         obtain ⟨pk, pn, ptx⟩ := p
         simp only at p0
         by_cases hp3 : pk = 3
         ·subst hp3
          have HFA : Hid (T = false) := HNO.out fun h => by
           rcases h.1 with h | h
           ·rcases h.1 with e | e <;> (simp only at e; omega)
           ·exact h.2.2.2.2 _ hkp HP.out rfl
          clear htx
          go_wp2_with fail
          go_ret
          exact ⟨by rw [HFA.out]; rfl, HB2.out⟩
         ·have gp3 : (pk == 3) = false := xn hp3
          by_cases hp2 : pk = 2
          ·subst hp2
           have HFA : Hid (T = false) := HNO.out fun h => h.2 _ hkp HP.out rfl
           clear hp3 gp3 htx
           go_wp2_with fail
           go_region
           go_wp2_with fail
           go_ret
           exact ⟨by rw [HFA.out]; rfl, HB2.out.drew⟩
          ·have gp2 : (pk == 2) = false := xn hp2
           have HOK : Hid (NormAt l k ⟨2, 0, tx⟩) := ⟨.inr ⟨rfl, rfl, htx, ⟨vs, HVS.out⟩, fun p h hp => by
            rw [HP.out] at hp
            injection hp with hp
            subst hp
            exact hp3⟩, fun p h hp => by
            rw [HP.out] at hp
            injection hp with hp
            subst hp
            exact hp2⟩
           clear hp3 hp2 htx
           go_wp2_with fail
           go_region
           go_wp2
           go_roundw
           case rel => exact ⟨k + 1, by omega, by go_num, HYES.out HOK.out, HB2.out.drew⟩
           case measure => simp [intOf]; omega
       ·have HFA : Hid (T = false) := HNO.out fun h => by
         rcases h.1 with h | h
         ·rcases h.1 with e | e <;> (simp only at e; omega)
         ·exact hv h.2.2.2.1
        rw [yy235 hv] at GV
        clear htx
        go_wp2_with fail
        refine GV.out.mono ?_
        rintro e w2 ⟨rfl, hb2⟩
        have HB2 : Hid (Below w.heap.size w w2) := HB1.out.trans (hb2.mono HB1.out.size)
        clear hb2
        go_wp2_with fail
        go_ret
        exact ⟨by rw [HFA.out]; rfl, HB2.out⟩
     ·have HFA : Hid (T = false) := HNO.out fun h => by
       rcases h.1 with h | h
       ·rcases h.1 with e | e <;> (simp only at e; omega)
       ·exact hn0 h.2.1
      have gn : (n == 0) = false := xn hn0
      have gn' : (n != 0) = true := bne_iff_ne.2 hn0
      clear hn0
      go_wp2_with fail
      go_ret
      exact ⟨by rw [HFA.out]; rfl, HB1.out⟩
    ·have HFA : Hid (T = false) := HNO.out fun h => by
      rcases h.1 with h | h
      ·exact h13 h.1
      ·exact h2 h.1
     have g2 : (kd == 2) = false := xn h2
     clear h2 h13
     go_wp2_with fail
     go_ret
     exact ⟨by rw [HFA.out]; rfl, HB1.out⟩
  ·have HE : Hid (T = true) := by
    show T = true
    rw [← HT.out]
    exact yy168 fun i c hc => HN.out i c (by have := (List.getElem?_eq_some_iff.1 hc).1; omega) hc
   go_wp2
   go_ret
   exact ⟨by rw [HE.out]; rfl, HBEL.out⟩
set_option maxRecDepth 100000 in
theorem yy227 {l vs : List Nat} (h : V l vs) (hl : l.length ≤ 1099511627776) (n : Nat) (hn : n ≤ vs.length) (w : World) :
  Calls Tryd.prog 88 #[.string (bstr l), .int .i64 (n : Int)] w fun e w' => e = .returned (.int .i64 (((E (vs.take n)).length : Nat) : Int)) ∧ w = w' := by
 have HP := xh (fun i hi w => yy170 l (by rw [← h.bytes]; exact E_lt h.may) hl i hi w)
 have hsz := bstr_size l
 have HL : Hid (vs.length ≤ 1099511627776) := by show vs.length ≤ _; have := h.length_le; omega
 have hl2 := HL.out
 have H := xh h; clear h
 go_enter Tryd.func88, Tryd.ntmps88
 go_wp2
 go_loopw [1, 5] (fun m at_ wr => ∃ j i : Nat, j ≤ n ∧ i = (E (vs.take j)).length ∧ m = .int .i64 ((n - j : Nat) : Int) ∧ at_ = .int .i64 (i : Int) ∧ wr = w) (fun m _ _ => (intOf m).toNat)
 case atStart => exact ⟨0, 0, Nat.zero_le _, by rw [List.take_zero, E_nil]; rfl, rfl, rfl, rfl⟩
 case round =>
  obtain ⟨j, i, hj, hi, rfl, rfl, rfl⟩ := hrel
  have HI := xh hi; clear hi
  obtain ⟨m, HM⟩ : ∃ m, Hid (m = n - j) := ⟨_, rfl⟩
  rw [← HM.out]
  have hmn : m ≤ n := by rw [HM.out]; omega
  by_cases hlt : j < n
  ·have hjv : j < vs.length := by omega
   obtain ⟨v, HV⟩ : ∃ v, Hid (v = vs[j]) := ⟨vs[j], xh rfl⟩
   have HMAY : Hid (May v) := by show May v; rw [HV.out]; exact H.out.may _ (List.getElem_mem hjv)
   have HT : Hid (vs.take (j + 1) = vs.take j ++ [v]) := by show _ = _; rw [List.take_succ_eq_append_getElem hjv, HV.out]
   have HL2 : Hid (l = E (vs.take j) ++ (enc v ++ E (vs.drop (j + 1)))) := by
    show l = _
    rw [← List.append_assoc, ← E_snoc, ← HT.out, ← yy116, List.take_append_drop, H.out.bytes]
   have HDR : Hid (l.drop i = enc v ++ E (vs.drop (j + 1))) := by show _ = _; rw [HI.out, HL2.out, List.drop_left' rfl]
   have hp := yy367 v
   have hle := enc_le v
   obtain ⟨q, HQ⟩ : ∃ q, Hid (q = (enc v).length) := ⟨_, rfl⟩
   have HIL : Hid (i + q ≤ l.length) := by
    show i + q ≤ l.length
    have h1 := congrArg List.length HL2.out
    rw [List.length_append, List.length_append, ← HI.out, ← HQ.out] at h1
    omega
   have hil := HIL.out
   rw [← HQ.out] at hp hle
   have hi2 : i < l.length := by omega
   have hm1 : 0 < m := by rw [HM.out]; omega
   have HP1 := xh (fun w => HP.out i hi2 w)
   rw [HDR.out] at HP1
   have HST := xh (st_enc HMAY.out (E (vs.drop (j + 1))))
   have hmax : max (q : Int) 1 = (q : Int) := by omega
   go_wp2_with fail
   refine (HP1.out _).mono ?_
   rintro e w1 ⟨⟨v', t, hst, rfl⟩ | ⟨hst, _⟩, rfl⟩
   ·rw [HST.out] at hst
    injection hst with hst
    injection hst with h1 h2
    subst h1
    clear h2
    rw [← HQ.out]
    go_wp2
    go_roundw
    case rel => exact ⟨j + 1, i + q, by omega, by rw [HT.out, E_snoc, List.length_append, ← HI.out, ← HQ.out], by congr 1; have := HM.out; omega, by go_num, trivial⟩
    case measure => simp [intOf]; omega
   ·rw [HST.out] at hst
    cases hst
  ·have hm0 : m = 0 := by rw [HM.out]; omega
   have hjn : j = n := by omega
   subst hjn
   subst hm0
   go_wp2
   go_ret
   exact ⟨by rw [← HI.out]; rfl, rfl⟩
theorem yy431 {l vs : List Nat} (h : V l vs) (hl : l.length ≤ 1099511627776) (a b : Nat) (hab : a ≤ b) (hb : b ≤ vs.length) (w : World) :
  Calls Tryd.prog 71 #[.string (bstr l), .int .i64 (a : Int), .int .i64 (b : Int)] w fun e w' => e = .returned (.string (bstr (E ((vs.take b).drop a)))) ∧ w = w' := by
 have G1 := xh (fun w => yy227 h hl a (by omega) w)
 have G2 := xh (fun w => yy227 h hl b hb w)
 have h1 : (E (vs.take a)).length ≤ (E (vs.take b)).length := yy368 vs a b hab
 have h2 : (E (vs.take b)).length ≤ l.length := by
  have := yy368 vs b vs.length hb
  rw [List.take_length, h.bytes] at this
  exact this
 have hs := yy568 l _ _ h1 h2
 rw [← h.bytes, yy846 vs a b hab, h.bytes] at hs
 obtain ⟨p, HP⟩ : ∃ p, Hid ((E (vs.take a)).length = p) := ⟨_, rfl⟩
 obtain ⟨q, HQ⟩ : ∃ q, Hid ((E (vs.take b)).length = q) := ⟨_, rfl⟩
 rw [HP.out] at G1 hs h1
 rw [HQ.out] at G2 hs h2 h1
 clear h
 go_enter Tryd.func71, Tryd.ntmps71
 go_wp2_with fail
 refine (G1.out _).mono ?_
 rintro e w1 ⟨rfl, rfl⟩
 go_wp2_with fail
 refine (G2.out _).mono ?_
 rintro e w1 ⟨rfl, rfl⟩
 go_wp2
 go_ret
 exact ⟨rfl, rfl⟩
end Go.Proofs.YtjpjdkdbgjipnaaDoor
namespace Go.Proofs.YtjpjdkdbgjipnaaDoor
end Go.Proofs.YtjpjdkdbgjipnaaDoor
