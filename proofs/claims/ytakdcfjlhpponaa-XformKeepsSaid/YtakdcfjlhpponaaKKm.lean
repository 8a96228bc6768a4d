/- One edit behind another one, both with characters of their own: each that either put in stands there once, in its order; of the base's those that neither deleted. No condition beyond those that each lemma states. (Merged of 3 texts.) -/
import Derived.Test.YtakdcfjlhpponaaKEdit
import Derived.Test.YtakdcfjlhpponaaKRef
/- Edits whose texts have characters of their own: each that is kept stands there once, in its order; each that is put in, too; behind another edit as well. No condition beyond those that each lemma states. -/
namespace Go.Proofs.Ytakdcfjlhpponaa

/-- How many code points an edit puts in. -/
noncomputable def insN : List CompV → Nat
  | [] => 0
  | c :: l => (if c.kind = 2 then (cps c.text).length else 0) + insN l
theorem insN_nil : insN [] = 0 := rfl
theorem insN_cons (c : CompV) (l : List CompV) : insN (c :: l) = (if c.kind = 2 then (cps c.text).length else 0) + insN l := rfl
/-- The edit with characters of its own, from nx on. -/
noncomputable def lab : List CompV → Nat → List CompV
  | [], _ => []
  | c :: l, nx => if c.kind = 2 then ⟨c.kind, c.n, E (List.range' nx (cps c.text).length)⟩ :: lab l (nx + (cps c.text).length) else c :: lab l nx
theorem lab_nil (nx : Nat) : lab [] nx = [] := rfl
theorem lab_cons (c : CompV) (l : List CompV) (nx : Nat) : lab (c :: l) nx = if c.kind = 2 then ⟨c.kind, c.n, E (List.range' nx (cps c.text).length)⟩ :: lab l (nx + (cps c.text).length) else c :: lab l nx := rfl
/-- Its texts are its own characters, from nx on. -/
def Lb : Nat → List CompV → Prop
  | _, [] => True
  | nx, c :: l => if c.kind = 2 then cps c.text = List.range' nx (cps c.text).length ∧ Lb (nx + (cps c.text).length) l else Lb nx l
theorem Lb_two {nx : Nat} {c : CompV} {l : List CompV} (h : c.kind = 2) : Lb nx (c :: l) ↔ cps c.text = List.range' nx (cps c.text).length ∧ Lb (nx + (cps c.text).length) l := by rw [Lb, if_pos h]
theorem Lb_not {nx : Nat} {c : CompV} {l : List CompV} (h : c.kind ≠ 2) : Lb nx (c :: l) ↔ Lb nx l := by rw [Lb, if_neg h]
theorem may_range {nx n : Nat} (h0 : 0 < nx) (h1 : nx + n ≤ 55296) : ∀ v ∈ List.range' nx n, May v := fun v hv => by
  rw [List.mem_range'_1] at hv
  exact ⟨by omega, by omega, .inl (by omega)⟩
theorem lab_all : ∀ (l : List CompV) (nx : Nat) (k : Int), Ch k l → 0 < nx → nx + insN l ≤ 55296 → Ch k (lab l nx) ∧ Lb nx (lab l nx) ∧ insN (lab l nx) = insN l ∧ inS (lab l nx) = inS l ∧ outS (lab l nx) = outS l ∧ (lab l nx).length = l.length
  | [], _, _, _, _, _ => ⟨trivial, trivial, rfl, rfl, rfl, rfl⟩
  | c :: l, nx, k, h, h0, h1 => by
    rw [insN_cons] at h1
    by_cases hk : c.kind = 2
    · rw [if_pos hk] at h1
      have hm : ∀ v ∈ List.range' nx (cps c.text).length, May v := may_range h0 (by omega)
      obtain ⟨i1, i2, i3, i4, i5, i6⟩ := lab_all l (nx + (cps c.text).length) c.kind h.2.2.2 (by omega) (by omega)
      have hc : cps (E (List.range' nx (cps c.text).length)) = List.range' nx (cps c.text).length := cps_E hm
      have hl : (cps (E (List.range' nx (cps c.text).length))).length = (cps c.text).length := by rw [hc, List.length_range']
      rw [lab_cons, if_pos hk, insN_cons, insN_cons, inS_cons, inS_cons, outS_cons, outS_cons, List.length_cons, List.length_cons, i3, i4, i5, i6, Lb_two (show (CompV.mk c.kind c.n (E (List.range' nx (cps c.text).length))).kind = 2 from hk), if_pos (show c.kind = 2 from hk), in_two (show c.kind = 2 from hk), out_two (show c.kind = 2 from hk)]
      have hw := h.1
      rcases hw.cases with ⟨g, _⟩ | ⟨g, _⟩ | ⟨_, gn, gt, gv⟩
      · omega
      · omega
      · have hpos := cps_ne gv gt
        refine ⟨⟨.inr ⟨hk, gn, E_ne (by rw [List.length_range']; exact hpos), _, V.mk hm⟩, h.2.1, h.2.2.1, i1⟩, ⟨by rw [hl]; exact hc, by rw [hl]; exact i2⟩, by rw [if_pos (show (CompV.mk c.kind c.n (E (List.range' nx (cps c.text).length))).kind = 2 from hk), hl], by rw [in_two (show (CompV.mk c.kind c.n (E (List.range' nx (cps c.text).length))).kind = 2 from hk)], by rw [out_two (show (CompV.mk c.kind c.n (E (List.range' nx (cps c.text).length))).kind = 2 from hk), hl], rfl⟩
    · rw [if_neg hk, Nat.zero_add] at h1
      obtain ⟨i1, i2, i3, i4, i5, i6⟩ := lab_all l nx c.kind h.2.2.2 h0 h1
      rw [lab_cons, if_neg hk, insN_cons, insN_cons, inS_cons, inS_cons, outS_cons, outS_cons, List.length_cons, List.length_cons, i3, i4, i5, i6, Lb_not hk]
      exact ⟨⟨h.1, h.2.1, h.2.2.1, i1⟩, i2, rfl, rfl, rfl, rfl⟩
theorem insN_out : ∀ (l : List CompV), (∀ c ∈ l, Wh c) → insN l ≤ outS l
  | [], _ => Nat.zero_le _
  | c :: l, hw => by
    have ih := insN_out l fun x hx => hw x (List.mem_cons_of_mem _ hx)
    rw [insN_cons, outS_cons]
    by_cases hk : c.kind = 2
    · rw [if_pos hk, out_two hk]; omega
    · rw [if_neg hk]; omega
theorem lab_ok {l : List CompV} (h : Ok l) {nx : Nat} (h0 : 0 < nx) (h1 : nx ≤ 50000) : Ok (lab l nx) := by
  have hi := insN_out l h.wh
  have ho := h.out1
  obtain ⟨i1, _, _, i4, i5, i6⟩ := lab_all l nx 0 h.nrm.ch h0 (by omega)
  exact ok_mk (by rw [i6]; exact h.len) i1.nrm (by rw [i4]; exact h.base1) (by rw [i5]; exact h.out1)

/-- What is seen so far: the last one of the base's, the next one of the one's, and of the other one's. -/
structure Sn where
  last : Nat
  i : Nat
  k : Nat
def snStep (T1 T2 : Nat) (s : Sn) (v : Nat) : Sn := if T2 ≤ v then { s with k := s.k + 1 } else if T1 ≤ v then { s with i := s.i + 1 } else { s with last := v }
/-- Each is as it should be. -/
def SnOk (T1 T2 : Nat) : Sn → List Nat → Prop
  | _, [] => True
  | s, v :: y => (T2 ≤ v → v = s.k) ∧ (T1 ≤ v → v < T2 → v = s.i) ∧ (v < T1 → s.last < v) ∧ SnOk T1 T2 (snStep T1 T2 s v) y
theorem SnOk.append {T1 T2 : Nat} : ∀ (x : List Nat) (s : Sn) (y : List Nat), SnOk T1 T2 s (x ++ y) ↔ SnOk T1 T2 s x ∧ SnOk T1 T2 (x.foldl (snStep T1 T2) s) y
  | [], s, y => by simp [SnOk]
  | v :: x, s, y => by
    rw [List.cons_append, SnOk, SnOk, List.foldl_cons, SnOk.append x]
    exact ⟨fun h => ⟨⟨h.1, h.2.1, h.2.2.1, h.2.2.2.1⟩, h.2.2.2.2⟩, fun h => ⟨h.1.1, h.1.2.1, h.1.2.2.1, h.1.2.2.2, h.2⟩⟩
theorem SnOk.at_ {T1 T2 : Nat} {s : Sn} {y : List Nat} (h : SnOk T1 T2 s y) {j v : Nat} (hj : y[j]? = some v) :
    (T2 ≤ v → v = ((y.take j).foldl (snStep T1 T2) s).k) ∧ (T1 ≤ v → v < T2 → v = ((y.take j).foldl (snStep T1 T2) s).i) ∧ (v < T1 → ((y.take j).foldl (snStep T1 T2) s).last < v) := by
  obtain ⟨hlt, rfl⟩ := List.getElem?_eq_some_iff.1 hj
  have e : y = y.take j ++ y[j] :: y.drop (j + 1) := by rw [← List.drop_eq_getElem_cons hlt, List.take_append_drop]
  rw [e, SnOk.append, SnOk] at h
  have h2 := h.2
  exact ⟨h2.1, h2.2.1, h2.2.2.1⟩
/-- A stretch of the base. -/
theorem sn_base {T1 T2 : Nat} : ∀ (n a : Nat) (s : Sn), s.last < a → a + n ≤ T1 → T1 ≤ T2 →
    SnOk T1 T2 s (List.range' a n) ∧ ((List.range' a n).foldl (snStep T1 T2) s).i = s.i ∧ ((List.range' a n).foldl (snStep T1 T2) s).k = s.k ∧ ((List.range' a n).foldl (snStep T1 T2) s).last < a + n
  | 0, a, s, h, _, _ => ⟨trivial, rfl, rfl, by simpa using h⟩
  | n + 1, a, s, h, h1, h2 => by
    rw [List.range'_succ]
    have e : snStep T1 T2 s a = { s with last := a } := by rw [snStep, if_neg (by omega), if_neg (by omega)]
    obtain ⟨i1, i2, i3, i4⟩ := sn_base n (a + 1) { s with last := a } (Nat.lt_succ_self a) (by omega) h2
    rw [SnOk, List.foldl_cons, e]
    exact ⟨⟨fun h => by omega, fun h => by omega, fun _ => h, i1⟩, i2, i3, by omega⟩
theorem sn_one {T1 T2 : Nat} : ∀ (n : Nat) (s : Sn), T1 ≤ s.i → s.i + n ≤ T2 →
    SnOk T1 T2 s (List.range' s.i n) ∧ (List.range' s.i n).foldl (snStep T1 T2) s = { s with i := s.i + n }
  | 0, s, _, _ => ⟨trivial, rfl⟩
  | n + 1, s, h1, h2 => by
    rw [List.range'_succ]
    have e : snStep T1 T2 s s.i = { s with i := s.i + 1 } := by rw [snStep, if_neg (by omega), if_pos (by omega)]
    obtain ⟨i1, i2⟩ := sn_one n { s with i := s.i + 1 } (by show T1 ≤ s.i + 1; omega) (by show s.i + 1 + n ≤ T2; omega)
    rw [SnOk, List.foldl_cons, e]
    refine ⟨⟨fun h => by omega, fun _ _ => rfl, fun h => by omega, i1⟩, i2.trans ?_⟩
    show Sn.mk s.last (s.i + 1 + n) s.k = Sn.mk s.last (s.i + (n + 1)) s.k
    rw [show s.i + 1 + n = s.i + (n + 1) by omega]
theorem sn_two {T1 T2 : Nat} (hT : T1 ≤ T2) : ∀ (n : Nat) (s : Sn), T2 ≤ s.k →
    SnOk T1 T2 s (List.range' s.k n) ∧ (List.range' s.k n).foldl (snStep T1 T2) s = { s with k := s.k + n }
  | 0, s, _ => ⟨trivial, rfl⟩
  | n + 1, s, h1 => by
    rw [List.range'_succ]
    have e : snStep T1 T2 s s.k = { s with k := s.k + 1 } := by rw [snStep, if_pos (by omega)]
    obtain ⟨i1, i2⟩ := sn_two hT n { s with k := s.k + 1 } (by show T2 ≤ s.k + 1; omega)
    rw [SnOk, List.foldl_cons, e]
    refine ⟨⟨fun _ => rfl, fun h => by omega, fun h => by omega, i1⟩, i2.trans ?_⟩
    show Sn.mk s.last s.i (s.k + 1 + n) = Sn.mk s.last s.i (s.k + (n + 1))
    rw [show s.k + 1 + n = s.k + (n + 1) by omega]
theorem range_take' : ∀ (m a n : Nat), m ≤ n → (List.range' a n).take m = List.range' a m
  | 0, a, n, _ => by simp
  | m + 1, a, 0, h => by omega
  | m + 1, a, n + 1, h => by rw [List.range'_succ, List.range'_succ, List.take_succ_cons, range_take' m (a + 1) n (by omega)]
theorem range_drop' : ∀ (m a n : Nat), (List.range' a n).drop m = List.range' (a + m) (n - m)
  | 0, a, n => by simp
  | m + 1, a, 0 => by simp
  | m + 1, a, n + 1 => by rw [List.range'_succ, List.drop_succ_cons, range_drop' m (a + 1) n, show a + 1 + m = a + (m + 1) by omega, show n + 1 - (m + 1) = n - m by omega]
theorem range_take {a n m : Nat} (h : m ≤ n) : (List.range' a n).take m = List.range' a m := range_take' m a n h
theorem range_drop {a n m : Nat} : (List.range' a n).drop m = List.range' (a + m) (n - m) := range_drop' m a n
/-- An edit with characters of its own. -/
theorem keeps_one {T1 T2 : Nat} (hT : T1 ≤ T2) : ∀ (l : List CompV) (a n : Nat) (s : Sn), (∀ c ∈ l, Wh c) → Lb s.i l → inS l ≤ n → s.last < a → a + n ≤ T1 → T1 ≤ s.i → s.i + insN l ≤ T2 →
    SnOk T1 T2 s (ed l (List.range' a n)) ∧ ((ed l (List.range' a n)).foldl (snStep T1 T2) s).i = s.i + insN l ∧ ((ed l (List.range' a n)).foldl (snStep T1 T2) s).k = s.k
  | [], a, n, s, _, _, _, _, _, _, _ => by rw [ed_nil]; exact ⟨trivial, rfl, rfl⟩
  | c :: l, a, n, s, hw, hb, hn, hla, ha, hi, hi2 => by
    have hw' := fun x hx => hw x (List.mem_cons_of_mem _ hx)
    rw [inS_cons] at hn
    rw [insN_cons] at hi2 ⊢
    rcases (hw c (by simp)).cases with ⟨g, gn, _⟩ | ⟨g, gn, _⟩ | ⟨g, _⟩
    · rw [in_one g] at hn
      rw [if_neg (by omega), Nat.zero_add] at hi2 ⊢
      rw [Lb_not (by omega)] at hb
      obtain ⟨b1, b2, b3, b4⟩ := sn_base (T1 := T1) (T2 := T2) c.n.toNat a s hla (by omega) hT
      rw [ed_one g, range_take (by omega), range_drop, SnOk.append, List.foldl_append]
      have i := keeps_one hT l (a + c.n.toNat) (n - c.n.toNat) _ hw' (by rw [b2]; exact hb) (by omega) b4 (by omega) (by rw [b2]; exact hi) (by rw [b2]; exact hi2)
      exact ⟨⟨b1, i.1⟩, by rw [i.2.1, b2], by rw [i.2.2, b3]⟩
    · rw [in_three g] at hn
      rw [if_neg (by omega), Nat.zero_add] at hi2 ⊢
      rw [Lb_not (by omega)] at hb
      rw [ed_three g, range_drop]
      exact keeps_one hT l _ _ s hw' hb (by omega) (by omega) (by omega) hi hi2
    · rw [in_two g, Nat.zero_add] at hn
      rw [if_pos g] at hi2 ⊢
      rw [Lb_two g] at hb
      obtain ⟨b1, b2⟩ := sn_one (T1 := T1) (T2 := T2) (cps c.text).length s hi (by omega)
      rw [ed_two g, hb.1, SnOk.append, List.foldl_append, b2, List.length_range']
      have i := keeps_one hT l a n { s with i := s.i + (cps c.text).length } hw' hb.2 hn hla ha (by show T1 ≤ s.i + _; omega) (by show s.i + (cps c.text).length + insN l ≤ T2; omega)
      refine ⟨⟨b1, i.1⟩, ?_, i.2.2⟩
      rw [i.2.1]
      show s.i + (cps c.text).length + insN l = _
      omega
end Go.Proofs.Ytakdcfjlhpponaa

/- An edit whose texts are turned one by one into characters of their own. No condition. -/
namespace Go.Proofs.Ytakdcfjlhpponaa

theorem insN_append : ∀ (a b : List CompV), insN (a ++ b) = insN a + insN b
  | [], b => by rw [List.nil_append, insN_nil]; omega
  | c :: a, b => by rw [List.cons_append, insN_cons, insN_cons, insN_append a b]; omega
theorem lab_append : ∀ (a b : List CompV) (nx : Nat), lab (a ++ b) nx = lab a nx ++ lab b (nx + insN a)
  | [], b, nx => by rw [List.nil_append, lab_nil, insN_nil]; rfl
  | c :: a, b, nx => by
    rw [List.cons_append, lab_cons, lab_cons, insN_cons]
    split
    · rw [lab_append a b, List.cons_append, Nat.add_assoc]
    · rw [lab_append a b, List.cons_append, Nat.zero_add]
theorem lab_len : ∀ (l : List CompV) (nx : Nat), (lab l nx).length = l.length
  | [], nx => rfl
  | c :: l, nx => by
    rw [lab_cons]
    split <;> rw [List.length_cons, lab_len l, List.length_cons]
/-- The edit behind some turns. -/
noncomputable def half (l : List CompV) (nx k : Nat) : List CompV := lab (l.take k) nx ++ l.drop k
theorem half_zero (l : List CompV) (nx : Nat) : half l nx 0 = l := by rw [half, List.take_zero, lab_nil]; rfl
theorem half_all (l : List CompV) (nx : Nat) : half l nx l.length = lab l nx := by rw [half, List.take_length, List.drop_length, List.append_nil]
theorem half_len (l : List CompV) (nx k : Nat) : (half l nx k).length = l.length := by
  rw [half, List.length_append, lab_len, List.length_take, List.length_drop]; omega
theorem half_get {l : List CompV} {nx k : Nat} (h : k < l.length) : (half l nx k)[k]'(by rw [half_len]; exact h) = l[k] := by
  have e : (half l nx k)[k]? = some l[k] := by
    rw [half, List.getElem?_append_right (by rw [lab_len, List.length_take]; omega), lab_len, List.length_take, show k - min k l.length = 0 by omega, List.getElem?_drop, Nat.add_zero, List.getElem?_eq_getElem h]
  rw [List.getElem?_eq_getElem (by rw [half_len]; exact h)] at e
  injection e
theorem half_not {l : List CompV} {nx k : Nat} (h : k < l.length) (hk : l[k].kind ≠ 2) : half l nx (k + 1) = half l nx k ∧ insN (l.take (k + 1)) = insN (l.take k) := by
  have e : l.take (k + 1) = l.take k ++ [l[k]] := List.take_succ_eq_append_getElem h
  refine ⟨?_, ?_⟩
  · rw [half, half, e, lab_append, lab_cons, if_neg hk, lab_nil, List.drop_eq_getElem_cons h, List.append_assoc]
    rfl
  · rw [e, insN_append, insN_cons, if_neg hk, insN_nil]
    rfl
theorem half_two {l : List CompV} {nx k : Nat} (h : k < l.length) (hk : l[k].kind = 2) :
    half l nx (k + 1) = (half l nx k).set k ⟨l[k].kind, l[k].n, E (List.range' (nx + insN (l.take k)) (cps l[k].text).length)⟩ ∧ insN (l.take (k + 1)) = insN (l.take k) + (cps l[k].text).length := by
  have e : l.take (k + 1) = l.take k ++ [l[k]] := List.take_succ_eq_append_getElem h
  refine ⟨?_, ?_⟩
  · rw [half, half, e, lab_append, lab_cons, if_pos hk, lab_nil, List.drop_eq_getElem_cons h, List.set_append_right _ _ (by rw [lab_len, List.length_take]; omega), lab_len, List.length_take, show k - min k l.length = 0 by omega, List.set_cons_zero, List.append_assoc]
    rfl
  · rw [e, insN_append, insN_cons, if_pos hk, insN_nil, Nat.add_zero]
theorem flat_set : ∀ (l : List CompV) (k : Nat) (kd n : Int) (t0 t : List Nat), l[k]? = some ⟨kd, n, t0⟩ → (l.flatMap compCells).set (k * 3 + 2) (.string (bstr t)) = (l.set k ⟨kd, n, t⟩).flatMap compCells
  | [], k, kd, n, t0, t, h => by simp at h
  | c :: l, 0, kd, n, t0, t, h => by
    simp at h
    subst h
    simp [compCells]
  | c :: l, k + 1, kd, n, t0, t, h => by
    have ih := flat_set l k kd n t0 t (by simpa using h)
    rw [List.set_cons_succ, List.flatMap_cons, List.flatMap_cons, ← ih, show (k + 1) * 3 + 2 = (k * 3 + 2) + 3 by omega]
    simp [compCells]
theorem out_kept : ∀ (l : List CompV), (∀ c ∈ l, Wh c) → (outS l : Int) = keptS l + (insN l : Int)
  | [], _ => by rw [outS_nil, insN_nil]; rfl
  | c :: l, hw => by
    have ih := out_kept l fun x hx => hw x (List.mem_cons_of_mem _ hx)
    have e : keptS (c :: l) = (if c.kind = 1 then c.n else 0) + keptS l := by
      have : keptS (c :: l) = l.foldl (fun m c => if c.kind = 1 then m + c.n else m) (if c.kind = 1 then 0 + c.n else 0) := rfl
      rw [this, kept_fold]
      split <;> omega
    rw [outS_cons, insN_cons, e]
    rcases (hw c (by simp)).cases with ⟨hk, hn, _⟩ | ⟨hk, hn, _⟩ | ⟨hk, _, _, _⟩
    · rw [out_one hk, if_pos hk, if_neg (by omega)]; omega
    · rw [out_three hk, if_neg (by omega), if_neg (by omega)]; omega
    · rw [out_two hk, if_neg (by omega), if_pos hk]; omega
end Go.Proofs.Ytakdcfjlhpponaa

/- One edit behind another one, both with characters of their own: each that either put in stands there once, in its order; of the base's those that neither deleted. No condition beyond those that each lemma states. -/
namespace Go.Proofs.Ytakdcfjlhpponaa

/-- Which of the base's an edit keeps. -/
def msk : List CompV → List Bool
  | [] => []
  | c :: l => (if c.kind = 1 then List.replicate c.n.toNat true else if c.kind = 2 then [] else List.replicate c.n.toNat false) ++ msk l
theorem msk_nil : msk [] = [] := rfl
theorem msk_one {c : CompV} (h : c.kind = 1) (l : List CompV) : msk (c :: l) = List.replicate c.n.toNat true ++ msk l := by rw [msk, if_pos h]
theorem msk_two {c : CompV} (h : c.kind = 2) (l : List CompV) : msk (c :: l) = msk l := by rw [msk, if_neg (by omega), if_pos h]; rfl
theorem msk_three {c : CompV} (h : c.kind = 3) (l : List CompV) : msk (c :: l) = List.replicate c.n.toNat false ++ msk l := by rw [msk, if_neg (by omega), if_neg (by omega)]
theorem msk_length : ∀ (l : List CompV), (∀ c ∈ l, Wh c) → (msk l).length = inS l
  | [], _ => by rw [inS_nil]; rfl
  | c :: l, hw => by
    have ih := msk_length l fun x hx => hw x (List.mem_cons_of_mem _ hx)
    rw [inS_cons]
    rcases (hw c (by simp)).cases with ⟨g, _⟩ | ⟨g, _⟩ | ⟨g, _⟩
    · rw [msk_one g, in_one g, List.length_append, ih, List.length_replicate]
    · rw [msk_three g, in_three g, List.length_append, ih, List.length_replicate]
    · rw [msk_two g, in_two g, ih]; omega
/-- How many neither deletes. -/
def kb (x y : List Bool) : Nat := (List.zipWith (fun a b => a && b) x y).count true
theorem kb_append {x y x' y' : List Bool} (h : x.length = y.length) : kb (x ++ x') (y ++ y') = kb x y + kb x' y' := by
  rw [kb, List.zipWith_append h, List.count_append]; rfl
theorem kb_rep (n : Nat) (p q : Bool) : kb (List.replicate n p) (List.replicate n q) = if (p && q) = true then n else 0 := by
  rw [kb, List.zipWith_replicate]
  simp only [Nat.min_self]
  rw [List.count_replicate]
  by_cases h : (p && q) = true
  · rw [if_pos h, if_pos (by simp [h])]
  · rw [if_neg h, if_neg (by simpa using h)]
theorem filter_range {T a n : Nat} (h : a + n ≤ T) : ((List.range' a n).filter (fun v => decide (v < T))).length = n := by
  rw [List.filter_eq_self.2]
  · exact List.length_range'
  · intro v hv
    rw [List.mem_range'_1] at hv
    simp; omega
theorem filter_none {T a n : Nat} (h : T ≤ a) : ((List.range' a n).filter (fun v => decide (v < T))).length = 0 := by
  rw [List.filter_eq_nil_iff.2]
  · rfl
  · intro v hv
    rw [List.mem_range'_1] at hv
    simp; omega
theorem msk_piece {c : CompV} (h : Wh c) (l : List CompV) {n : Nat} (h2 : c.kind ≠ 2) (h0 : 0 < n) (hn : n ≤ sz c) : msk (c :: l) = List.replicate n (decide (c.kind = 1)) ++ msk (chop c l n) := by
  have hz := sz_not h2
  by_cases e : n = sz c
  · rw [chop, if_pos e]
    rcases h.kind13 h2 with g | g
    · rw [msk_one g, decide_eq_true g, e, hz]
    · rw [msk_three g, decide_eq_false (by omega), e, hz]
  · rw [chop, if_neg e]
    have ec : cut c n = ⟨c.kind, c.n - n, []⟩ := if_neg h2
    have er : ∀ b : Bool, List.replicate c.n.toNat b = List.replicate n b ++ List.replicate (c.n - n).toNat b := fun b => by
      rw [show c.n.toNat = n + (c.n - n).toNat by omega]
      exact (List.replicate_append_replicate).symm
    rcases h.kind13 h2 with g | g
    · rw [msk_one g, decide_eq_true g, ec, msk_one (show (CompV.mk c.kind (c.n - n) []).kind = 1 from g), er, List.append_assoc]
    · rw [msk_three g, decide_eq_false (by omega), ec, msk_three (show (CompV.mk c.kind (c.n - n) []).kind = 3 from g), er, List.append_assoc]
theorem Lb_chop {nx : Nat} {c : CompV} {l : List CompV} (h2 : c.kind ≠ 2) (h : Lb nx (c :: l)) (n : Nat) : Lb nx (chop c l n) ∧ insN (chop c l n) = insN (c :: l) := by
  rw [Lb_not h2] at h
  rw [insN_cons, if_neg h2, Nat.zero_add]
  unfold chop
  split
  · exact ⟨h, rfl⟩
  · rw [Lb_not (by rw [cut_kind]; exact h2), insN_cons, if_neg (by rw [cut_kind]; exact h2), Nat.zero_add]
    exact ⟨h, rfl⟩
/-- Both with characters of their own. -/
structure Keeps2 (T1 T2 : Nat) (s : Sn) (u : List Nat) (i k kept : Nat) : Prop where
  ok : SnOk T1 T2 s u
  i : (u.foldl (snStep T1 T2) s).i = i
  k : (u.foldl (snStep T1 T2) s).k = k
  kept : (u.filter (fun v => decide (v < T1))).length = kept
theorem keeps_two {T1 T2 : Nat} (hT : T1 ≤ T2) {f : Bool} {x y o : List CompV} (h : Ov f x y o) : ∀ (a n : Nat) (s : Sn), (∀ c ∈ x, Wh c) → (∀ c ∈ y, Wh c) → inS x = n → inS y = n → Lb s.i x → Lb s.k y →
    s.last < a → a + n ≤ T1 → T1 ≤ s.i → s.i + insN x ≤ T2 → T2 ≤ s.k → Keeps2 T1 T2 s (ed o (ed y (List.range' a n))) (s.i + insN x) (s.k + insN y) (kb (msk x) (msk y)) := by
  induction h with
  | nil => intro a n s _ _ _ _ _ _ _ _ _ _ _; rw [ed_nil]; exact ⟨trivial, rfl, rfl, rfl⟩
  | puts c a' b o hk hf _ ih =>
    intro a n s hx hy hnx hny hbx hby hla han hi hi2 hk2
    rw [inS_cons, in_two hk, Nat.zero_add] at hnx
    rw [Lb_two hk] at hbx
    rw [insN_cons, if_pos hk] at hi2 ⊢
    obtain ⟨b1, b2⟩ := sn_one (T1 := T1) (T2 := T2) (cps c.text).length s hi (by omega)
    have q := ih a n { s with i := s.i + (cps c.text).length } (fun x hx' => hx x (List.mem_cons_of_mem _ hx')) hy hnx hny hbx.2 hby hla han (by show T1 ≤ s.i + _; omega) (by show s.i + (cps c.text).length + insN a' ≤ T2; omega) hk2
    rw [ed_two hk, hbx.1, msk_two hk, List.length_range']
    refine ⟨by rw [SnOk.append, b2]; exact ⟨b1, q.ok⟩, ?_, ?_, ?_⟩
    · rw [List.foldl_append, b2, q.i]
      show s.i + (cps c.text).length + insN a' = _
      omega
    · rw [List.foldl_append, b2, q.k]
    · rw [List.filter_append, List.length_append, filter_none hi, q.kept, Nat.zero_add]
  | pass a' d b o hf hk _ ih =>
    intro a n s hx hy hnx hny hbx hby hla han hi hi2 hk2
    rw [inS_cons, in_two hk, Nat.zero_add] at hny
    rw [Lb_two hk] at hby
    obtain ⟨b1, b2⟩ := sn_two (T1 := T1) (T2 := T2) hT (cps d.text).length s hk2
    have q := ih a n { s with k := s.k + (cps d.text).length } hx (fun x hx' => hy x (List.mem_cons_of_mem _ hx')) hnx hny hbx hby.2 hla han hi hi2 (by show T2 ≤ s.k + _; omega)
    have hz : (cps d.text).length = sz d := (sz_two hk).symm
    have hdrop : ed (⟨1, (sz d : Int), []⟩ :: o) (ed (d :: b) (List.range' a n)) = cps d.text ++ ed o (ed b (List.range' a n)) := by
      rw [ed_two hk, ed_one rfl]
      simp only [Int.toNat_natCast]
      rw [← hz, List.take_left' rfl, List.drop_left' rfl]
    rw [hdrop, hby.1, msk_two hk, insN_cons, if_pos hk]
    refine ⟨by rw [SnOk.append, b2]; exact ⟨b1, q.ok⟩, ?_, ?_, ?_⟩
    · rw [List.foldl_append, b2, q.i]
    · rw [List.foldl_append, b2, q.k]
      show s.k + (cps d.text).length + insN b = _
      omega
    · rw [List.filter_append, List.length_append, filter_none (by omega), q.kept, Nat.zero_add]
  | both c a' d b o n' h1 h2 hmin _ ih =>
    intro a n s hx hy hnx hny hbx hby hla han hi hi2 hk2
    have kk := chopped (a := a') (b := b) h1 h2 hmin hx hy
    have hia := kk.ia; have hib := kk.ib; have h0 := kk.pos
    have wc := hx c (by simp)
    have wd := hy d (by simp)
    have lx := Lb_chop h1 hbx n'
    have ly := Lb_chop h2 hby n'
    have mx := msk_piece wc a' h1 h0 (by omega)
    have my := msk_piece wd b h2 h0 (by omega)
    have l1 : (List.replicate n' (decide (c.kind = 1))).length = (List.replicate n' (decide (d.kind = 1))).length := by rw [List.length_replicate, List.length_replicate]
    rw [mx, my, kb_append l1, kb_rep, ← lx.2, ← ly.2]
    rw [← lx.2] at hi2
    rw [kk.eb]
    have kp := kk.kp; have kq := kk.kq; have np := kk.np; have nq := kk.nq
    have hl : ((List.range' a n).take n').length = n' := by rw [List.length_take, List.length_range']; omega
    have hn' : n' ≤ n := by omega
    obtain ⟨b1, b2, b3, b4⟩ := sn_base (T1 := T1) (T2 := T2) n' a s hla (by omega) hT
    have q0 := fun s hs1 hs2 hs3 hs4 hs5 => ih (a + n') (n - n') s kk.wa kk.wb (by omega) (by omega) hs1 hs2 hs3 (by omega) hs4 hs5
    rcases wc.kind13 h1 with gc | gc <;> rcases wd.kind13 h2 with gd | gd
    · have q := q0 _ (by rw [b2]; exact lx.1) (by rw [b3]; exact ly.1) b4 (by rw [b2]; exact hi) (by rw [b2]; exact hi2) (by rw [b3]; exact hk2)
      rw [if_pos gd, List.singleton_append, ed_one (kq.trans gd), ed_one (kp.trans gc), np, nq, List.take_left' hl, List.drop_left' hl, range_take hn', range_drop, if_pos (by rw [decide_eq_true gc, decide_eq_true gd]; rfl)]
      refine ⟨by rw [SnOk.append]; exact ⟨b1, q.ok⟩, by rw [List.foldl_append, q.i, b2], by rw [List.foldl_append, q.k, b3], ?_⟩
      rw [List.filter_append, List.length_append, filter_range (by omega), q.kept]
    · have q := q0 s lx.1 ly.1 (by omega) hi hi2 hk2
      rw [if_neg (by omega), List.nil_append, ed_three (kq.trans gd), nq, range_drop, if_neg (by rw [decide_eq_false (show ¬ d.kind = 1 by omega)]; simp), Nat.zero_add]
      exact q
    · have q := q0 s lx.1 ly.1 (by omega) hi hi2 hk2
      rw [if_pos gd, List.singleton_append, ed_one (kq.trans gd), ed_three (kp.trans gc), np, nq, List.drop_left' hl, range_drop, if_neg (by rw [decide_eq_false (show ¬ c.kind = 1 by omega)]; simp), Nat.zero_add]
      exact q
    · have q := q0 s lx.1 ly.1 (by omega) hi hi2 hk2
      rw [if_neg (by omega), List.nil_append, ed_three (kq.trans gd), nq, range_drop, if_neg (by rw [decide_eq_false (show ¬ c.kind = 1 by omega)]; simp), Nat.zero_add]
      exact q
end Go.Proofs.Ytakdcfjlhpponaa
