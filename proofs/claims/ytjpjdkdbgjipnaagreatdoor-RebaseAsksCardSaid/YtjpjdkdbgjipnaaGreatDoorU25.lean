/- A sorted stretch and one element merged. Conditions: both stretches lie within the row; each of the first one stands, where they are equal, ahead of each of the second one. (Merged of 7 texts.) -/
import Derived.Sort.LotA
import Derived.Test.YtjpjdkdbgjipnaaGreatDoorU1
import Derived.Shelf.SlSortCmp.KitK
import Derived.Deep.LoopGhost
import Derived.Sort.WalkB2
import Derived.Sort.WalkB12
import Derived.Lib.Hide
namespace Go.Proofs.YtjpjdkdbgjipnaaGreatDoor
open Go.Sort
section
variable {α : Type} [Inhabited α]
def yy129 (d : Array α) (a b i : Nat) (e : Array α) : Prop :=
 e.size = d.size ∧ ∀ t, e[t]! = if a ≤ t ∧ t < a + i then d[t - a + b]! else if b ≤ t ∧ t < b + i then d[t - b + a]! else d[t]!
theorem yy371 (d : Array α) (a b : Nat) : yy129 d a b 0 d := ⟨rfl, fun t => by rw [if_neg (by omega), if_neg (by omega)]⟩
theorem yy129.step {d e : Array α} {a b i : Nat} (h : yy129 d a b i e) (hab : a + i < b) (hb : b + i < d.size) : yy129 d a b (i + 1) (swp e (a + i) (b + i)) := by
 refine ⟨by rw [swp_size]; exact h.1, fun t => ?_⟩
 rw [swp_get _ (by rw [h.1]; omega) (by rw [h.1]; omega), h.2 (a + i), h.2 (b + i), h.2 t]
 rw [if_neg (show ¬ (a ≤ a + i ∧ a + i < a + i) by omega), if_neg (show ¬ (b ≤ a + i ∧ a + i < b + i) by omega), if_neg (show ¬ (a ≤ b + i ∧ b + i < a + i) by omega), if_neg (show ¬ (b ≤ b + i ∧ b + i < b + i) by omega)]
 by_cases h1 : t = b + i
 ·subst h1
  rw [if_pos rfl, if_neg (by omega), if_pos (by omega)]
  exact congrArg (fun z => d[z]!) (by omega)
 ·rw [if_neg h1]
  by_cases h2 : t = a + i
  ·subst h2
   rw [if_pos rfl, if_pos (by omega)]
   exact congrArg (fun z => d[z]!) (by omega)
  ·rw [if_neg h2]
   by_cases h3 : a ≤ t ∧ t < a + i
   ·rw [if_pos h3, if_pos (by omega)]
   ·rw [if_neg h3, if_neg (show ¬ (a ≤ t ∧ t < a + (i + 1)) by omega)]
    by_cases h4 : b ≤ t ∧ t < b + i
    ·rw [if_pos h4, if_pos (by omega)]
    ·rw [if_neg h4, if_neg (by omega)]
def rotF (d : Array α) (a m b t : Nat) : α := if a ≤ t ∧ t < a + (b - m) then d[t + (m - a)]! else if a + (b - m) ≤ t ∧ t < b then d[t - (b - m)]! else d[t]!
def RotRes (d : Array α) (a m b : Nat) (e : Array α) : Prop := e.size = d.size ∧ ∀ t, e[t]! = rotF d a m b t
theorem yy539 (d : Array α) (a b : Nat) : RotRes d a b b d := ⟨rfl, fun t => by
 unfold rotF
 rw [if_neg (by omega)]
 split
 ·exact congrArg (fun z => d[z]!) (by omega)
 ·rfl⟩
theorem yy540 (d : Array α) (a b : Nat) : RotRes d a a b d := ⟨rfl, fun t => by
 unfold rotF
 split
 ·exact congrArg (fun z => d[z]!) (by omega)
 ·rw [if_neg (by omega)]⟩
theorem yy697 {d e : Array α} {m i : Nat} (hi : i ≤ m) (h : yy129 d (m - i) m i e) (t : Nat) : e[t]! = rotF d (m - i) m (m + i) t := by
 rw [h.2]
 unfold rotF
 by_cases h1 : m - i ≤ t ∧ t < m - i + i
 ·rw [if_pos h1, if_pos (show m - i ≤ t ∧ t < m - i + (m + i - m) by omega)]
  exact congrArg (fun z => d[z]!) (by omega)
 ·rw [if_neg h1, if_neg (show ¬ (m - i ≤ t ∧ t < m - i + (m + i - m)) by omega)]
  by_cases h2 : m ≤ t ∧ t < m + i
  ·rw [if_pos h2, if_pos (by omega)]
   exact congrArg (fun z => d[z]!) (by omega)
  ·rw [if_neg h2, if_neg (by omega)]
theorem yy698 {d e : Array α} {m i j : Nat} (hi : i ≤ m) (hj : j < i) (h : yy129 d (m - i) m j e) (t : Nat) : rotF e (m - (i - j)) m (m + j) t = rotF d (m - i) m (m + j) t := by
 unfold rotF
 rw [h.2, h.2, h.2]
 by_cases h1 : t < m - i
 ·rw [if_neg (by omega), if_neg (by omega), if_neg (by omega), if_neg (by omega), if_neg (by omega), if_neg (by omega)]
 by_cases h2 : m + j ≤ t
 ·rw [if_neg (by omega), if_neg (by omega), if_neg (by omega), if_neg (by omega), if_neg (by omega), if_neg (by omega)]
 by_cases h3 : t < m - i + j
 ·rw [if_neg (by omega), if_neg (by omega), if_pos (show m - i ≤ t ∧ t < m - i + j by omega), if_pos (by omega)]
  exact congrArg (fun z => d[z]!) (by omega)
 rw [if_neg (show ¬ (m - i ≤ t ∧ t < m - i + (m + j - m)) by omega), if_pos (show m - i + (m + j - m) ≤ t ∧ t < m + j by omega)]
 by_cases h4 : t < m - (i - j) + j
 ·rw [if_pos (show m - (i - j) ≤ t ∧ t < m - (i - j) + (m + j - m) by omega), if_neg (show ¬ (m - i ≤ t + (m - (m - (i - j))) ∧ t + (m - (m - (i - j))) < m - i + j) by omega), if_pos (show m ≤ t + (m - (m - (i - j))) ∧ t + (m - (m - (i - j))) < m + j by omega)]
  exact congrArg (fun z => d[z]!) (by omega)
 ·rw [if_neg (show ¬ (m - (i - j) ≤ t ∧ t < m - (i - j) + (m + j - m)) by omega), if_pos (show m - (i - j) + (m + j - m) ≤ t ∧ t < m + j by omega), if_neg (show ¬ (m - i ≤ t - (m + j - m) ∧ t - (m + j - m) < m - i + j) by omega), if_neg (show ¬ (m ≤ t - (m + j - m) ∧ t - (m + j - m) < m + j) by omega)]
theorem yy699 {d e : Array α} {m i j : Nat} (hi : i ≤ m) (hj : i < j) (h : yy129 d (m - i) (m + j - i) i e) (t : Nat) : rotF e (m - i) m (m + (j - i)) t = rotF d (m - i) m (m + j) t := by
 unfold rotF
 rw [h.2, h.2, h.2]
 by_cases h1 : t < m - i
 ·rw [if_neg (by omega), if_neg (by omega), if_neg (by omega), if_neg (by omega), if_neg (by omega), if_neg (by omega)]
 by_cases h2 : m + j ≤ t
 ·rw [if_neg (by omega), if_neg (by omega), if_neg (by omega), if_neg (by omega), if_neg (by omega), if_neg (by omega)]
 by_cases h3 : m + j - i ≤ t
 ·rw [if_neg (by omega), if_neg (by omega), if_neg (by omega), if_pos (show m + j - i ≤ t ∧ t < m + j - i + i by omega), if_neg (by omega), if_pos (by omega)]
  exact congrArg (fun z => d[z]!) (by omega)
 rw [if_pos (show m - i ≤ t ∧ t < m - i + (m + j - m) by omega)]
 by_cases h4 : t < m - i + (j - i)
 ·rw [if_pos (show m - i ≤ t ∧ t < m - i + (m + (j - i) - m) by omega), if_neg (show ¬ (m - i ≤ t + (m - (m - i)) ∧ t + (m - (m - i)) < m - i + i) by omega), if_neg (show ¬ (m + j - i ≤ t + (m - (m - i)) ∧ t + (m - (m - i)) < m + j - i + i) by omega)]
 ·rw [if_neg (show ¬ (m - i ≤ t ∧ t < m - i + (m + (j - i) - m)) by omega), if_pos (show m - i + (m + (j - i) - m) ≤ t ∧ t < m + (j - i) by omega), if_pos (show m - i ≤ t - (m + (j - i) - m) ∧ t - (m + (j - i) - m) < m - i + i by omega)]
  exact congrArg (fun z => d[z]!) (by omega)
theorem rot_up {d e : Array α} {a k : Nat} (hk : a ≤ k) (hz : k + 1 < d.size) (h : RotRes d a (a + 1) (k + 1) e) : RotRes d a (a + 1) (k + 2) (swp e k (k + 1)) := by
 refine ⟨by rw [swp_size]; exact h.1, fun t => ?_⟩
 rw [swp_get _ (by rw [h.1]; omega) (by rw [h.1]; omega), h.2 k, h.2 (k + 1), h.2 t]
 unfold rotF
 by_cases h1 : t = k + 1
 ·subst h1
  rw [if_pos rfl, if_neg (by omega), if_pos (by omega), if_neg (by omega), if_pos (by omega)]
  exact congrArg (fun z => d[z]!) (by omega)
 rw [if_neg h1]
 by_cases h2 : t = k
 ·subst h2
  rw [if_pos rfl, if_neg (by omega), if_neg (by omega), if_pos (by omega)]
  exact congrArg (fun z => d[z]!) (by omega)
 rw [if_neg h2]
 by_cases h3 : a ≤ t ∧ t < k
 ·rw [if_pos (by omega), if_pos (by omega)]
 ·rw [if_neg (by omega), if_neg (by omega), if_neg (by omega), if_neg (by omega)]
theorem yy700 {d e : Array α} {m k : Nat} (hk : k < m) (hz : m < d.size) (h : RotRes d (k + 1) m (m + 1) e) : RotRes d k m (m + 1) (swp e (k + 1) k) := by
 refine ⟨by rw [swp_size]; exact h.1, fun t => ?_⟩
 rw [swp_get _ (by rw [h.1]; omega) (by rw [h.1]; omega), h.2 k, h.2 (k + 1), h.2 t]
 unfold rotF
 by_cases h1 : t = k
 ·subst h1
  rw [if_pos rfl, if_pos (by omega), if_pos (by omega)]
  exact congrArg (fun z => d[z]!) (by omega)
 rw [if_neg h1]
 by_cases h2 : t = k + 1
 ·subst h2
  rw [if_pos rfl, if_neg (by omega), if_neg (by omega), if_neg (by omega), if_pos (by omega)]
  exact congrArg (fun z => d[z]!) (by omega)
 rw [if_neg h2]
 by_cases h3 : k + 1 < t ∧ t < m + 1
 ·rw [if_neg (by omega), if_pos (by omega), if_neg (by omega), if_pos (by omega)]
 ·rw [if_neg (by omega), if_neg (by omega), if_neg (by omega), if_neg (by omega)]
theorem yy320 {lt : α → α → Bool} {d e : Array α} {a m b s f : Nat} (h : RotRes d s m f e) (has : a ≤ s) (hsm : s ≤ m) (hmf : m ≤ f) (hfb : f ≤ b) (C : α → α → Prop)
  (hl : SortedIn lt a m d) (hr : SortedIn lt m b d) (hC : ∀ x y, a ≤ x → x < m → m ≤ y → y < b → C d[x]! d[y]!)
  (h1 : ∀ x y, a ≤ x → x < s → f ≤ y → y < b → lt d[y]! d[x]! = false) (h2 : ∀ x y, s ≤ x → x < m → m ≤ y → y < f → lt d[x]! d[y]! = false) :
  (SortedIn lt a s e ∧ SortedIn lt s (s + (f - m)) e ∧ ∀ x y, a ≤ x → x < s → s ≤ y → y < s + (f - m) → C e[x]! e[y]!) ∧
  (SortedIn lt (s + (f - m)) f e ∧ SortedIn lt f b e ∧ ∀ x y, s + (f - m) ≤ x → x < f → f ≤ y → y < b → C e[x]! e[y]!) ∧
  ∀ x y, a ≤ x → x < s + (f - m) → s + (f - m) ≤ y → y < b → lt e[y]! e[x]! = false := by
 have g1 : ∀ t, t < s → e[t]! = d[t]! := fun t ht => by rw [h.2, rotF, if_neg (by omega), if_neg (by omega)]
 have g2 : ∀ t, s ≤ t → t < s + (f - m) → e[t]! = d[t + (m - s)]! := fun t ht ht2 => by rw [h.2, rotF, if_pos ⟨ht, ht2⟩]
 have g3 : ∀ t, s + (f - m) ≤ t → t < f → e[t]! = d[t - (f - m)]! := fun t ht ht2 => by rw [h.2, rotF, if_neg (by omega), if_pos ⟨ht, ht2⟩]
 have g4 : ∀ t, f ≤ t → e[t]! = d[t]! := fun t ht => by rw [h.2, rotF, if_neg (by omega), if_neg (by omega)]
 refine ⟨⟨?_, ?_, ?_⟩, ⟨?_, ?_, ?_⟩, ?_⟩
 ·intro i j hi hij hj
  rw [g1 i (by omega), g1 j (by omega)]
  exact hl i j hi hij (by omega)
 ·intro i j hi hij hj
  rw [g2 i hi (by omega), g2 j (by omega) hj]
  exact hr _ _ (by omega) (by omega) (by omega)
 ·intro x y hx hxs hy hyf
  rw [g1 x hxs, g2 y hy hyf]
  exact hC _ _ hx (by omega) (by omega) (by omega)
 ·intro i j hi hij hj
  rw [g3 i hi (by omega), g3 j (by omega) hj]
  exact hl _ _ (by omega) (by omega) (by omega)
 ·intro i j hi hij hj
  rw [g4 i hi, g4 j (by omega)]
  exact hr _ _ (by omega) (by omega) (by omega)
 ·intro x y hx hxs hy hyf
  rw [g3 x hx hxs, g4 y hy]
  exact hC _ _ (by omega) (by omega) (by omega) hyf
 ·intro x y hx hxm hy hyb
  by_cases c1 : x < s
  ·rw [g1 x c1]
   by_cases c2 : y < f
   ·rw [g3 y hy c2]
    exact hl _ _ hx (by omega) (by omega)
   ·rw [g4 y (by omega)]
    exact h1 _ _ hx c1 (by omega) hyb
  ·rw [g2 x (by omega) hxm]
   by_cases c2 : y < f
   ·rw [g3 y hy c2]
    exact h2 _ _ (by omega) (by omega) (by omega) (by omega)
   ·rw [g4 y (by omega)]
    exact hr _ _ (by omega) (by omega) hyb
theorem yy21 {lt : α → α → Bool} {a b : Nat} {d e : Array α} (h : SortedIn lt a b d) (he : ∀ t, a ≤ t → t < b → e[t]! = d[t]!) : SortedIn lt a b e := fun i j hi hij hj => by
 rw [he i hi (by omega), he j (by omega) hj]
 exact h i j hi hij hj
theorem yy42 {lt : α → α → Bool} {e e1 e2 : Array α} {a mid b : Nat} (ham : a ≤ mid) (hmb : mid ≤ b) (hb : b ≤ e.size) (hx : ∀ x y, a ≤ x → x < mid → mid ≤ y → y < b → lt e[y]! e[x]! = false)
  (p1 : PermIn a mid e e1) (s1 : SortedIn lt a mid e1) (p2 : PermIn mid b e1 e2) (s2 : SortedIn lt mid b e2) : PermIn a b e e2 ∧ SortedIn lt a b e2 := by
 refine ⟨permIn_trans _ _ _ a b (permIn_mono e e1 a mid a b (Nat.le_refl _) hmb hb p1) (permIn_mono e1 e2 mid b a b ham (Nat.le_refl _) (by rw [p1.1]; exact hb) p2), ?_⟩
 have k1 : ∀ x y, a ≤ x → x < mid → mid ≤ y → y < b → lt e1[y]! e1[x]! = false := fun x y hx1 hx2 hy1 hy2 => by
  rw [p1.2.1 y (Or.inr hy1)]
  exact permIn_all e e1 a mid (fun v => lt e[y]! v = false) (by omega) p1 (fun i hi hi2 => hx i y hi hi2 hy1 hy2) x hx1 hx2
 have k2 : ∀ x y, a ≤ x → x < mid → mid ≤ y → y < b → lt e2[y]! e2[x]! = false := fun x y hx1 hx2 hy1 hy2 => by
  rw [p2.2.1 x (Or.inl hx2)]
  exact permIn_all e1 e2 mid b (fun v => lt v e1[x]! = false) (by rw [p1.1]; exact hb) p2 (fun i hi hi2 => k1 x i hx1 hx2 hi hi2) y hy1 hy2
 intro i j hi hij hj
 by_cases c1 : j < mid
 ·rw [p2.2.1 i (Or.inl (by omega)), p2.2.1 j (Or.inl c1)]
  exact s1 i j hi hij c1
 ·by_cases c2 : i < mid
  ·exact k2 i j hi c2 (by omega) hj
  ·exact s2 i j (by omega) hij hj
variable (key : α → Int)
def lx (x y : α × Nat) : Bool := decide (key x.1 < key y.1 ∨ (key x.1 = key y.1 ∧ x.2 < y.2))
omit [Inhabited α] in
theorem lx_swo : SWO (lx key) where
 irrefl x := by simp [lx]
 trans x y z h1 h2 := by
  have h1 := of_decide_eq_true h1
  have h2 := of_decide_eq_true h2
  exact decide_eq_true (by omega)
 ntrans x y z h1 h2 := by
  have h1 := of_decide_eq_false h1
  have h2 := of_decide_eq_false h2
  exact decide_eq_false (by omega)
def cf (x y : α × Nat) : Int := if key x.1 < key y.1 then -1 else if key y.1 < key x.1 then 1 else 0
omit [Inhabited α] in
theorem cf_neg (x y : α × Nat) : cf key x y < 0 ↔ key x.1 < key y.1 := by
 unfold cf
 split
 ·omega
 ·split <;> omega
omit [Inhabited α] in
theorem cf_lt {x y : α × Nat} (h : cf key y x < 0) : lx key x y = false := by
 have := (cf_neg key y x).1 h
 exact decide_eq_false (by omega)
omit [Inhabited α] in
theorem cf_ge {x y : α × Nat} (h : ¬ cf key y x < 0) (hn : x.2 < y.2) : lx key y x = false := by
 have : ¬ key y.1 < key x.1 := fun e => h ((cf_neg key y x).2 e)
 exact decide_eq_false (by omega)
omit [Inhabited α] in
theorem cf_lx {x y : α × Nat} (hn : x.2 < y.2) : decide (cf key y x < 0) = lx key y x := by
 unfold lx
 by_cases h : key y.1 < key x.1
 ·rw [decide_eq_true ((cf_neg key y x).2 h), decide_eq_true (Or.inl h)]
 ·rw [decide_eq_false (fun e => h ((cf_neg key y x).1 e)), decide_eq_false (by omega)]
theorem yy113 (lt : α → α → Bool) (a b : Nat) : ∀ (j : Nat) (d : Array α), j < b → b ≤ d.size → PermIn a b d (insInner lt a j d)
 | 0, d, _, _ => permIn_refl d a b
 | j + 1, d, hj, hb => by
  unfold insInner
  split
  ·rename_i hc
   have hc1 : j + 1 > a := by
    have := (Bool.and_eq_true _ _ ▸ hc).1
    simpa using this
   exact permIn_trans _ _ _ a b (swp_permIn d a b (j + 1) j (by omega) hj (by omega) (by omega) hb) (yy113 lt a b j _ (by omega) (by rw [swp_size]; exact hb))
  ·exact permIn_refl d a b
theorem yy321 (lt : α → α → Bool) (a b : Nat) : ∀ (n i : Nat) (d : Array α), b - i = n → b ≤ d.size → (insOuter lt a b i d).size = d.size := by
 intro n
 induction n with
 | zero => intro i d hn _; rw [insOuter, if_neg (by omega)]
 | succ n ih =>
  intro i d hn hb
  have P := yy113 lt a b i d (by omega) hb
  rw [insOuter, if_pos (by omega), ih (i + 1) _ (by omega) (by rw [P.1]; exact hb), P.1]
theorem yy541 (lt : α → α → Bool) (d : Array α) (a b : Nat) (hb : b ≤ d.size) : (Sort.insertionSort lt d a b).size = d.size := by
 unfold Sort.insertionSort
 exact yy321 lt a b _ (a + 1) d rfl hb
theorem yy253 (a : Nat) : ∀ (j : Nat) (d : Array (α × Nat)), j < d.size → (∀ p, a ≤ p → p < j → d[p]!.2 < d[j]!.2) → insInner (fun x y => decide (cf key x y < 0)) a j d = insInner (lx key) a j d
 | 0, d, _, _ => rfl
 | j + 1, d, hj, h => by
  unfold insInner
  by_cases hja : a < j + 1
  ·have e : decide (cf key d[j + 1]! d[j]! < 0) = lx key d[j + 1]! d[j]! := cf_lx key (h j (by omega) (by omega))
   rw [e]
   split
   ·refine yy253 a j _ (by rw [swp_size]; omega) fun p hp hpj => ?_
    have g := swp_get d hj (show j < d.size by omega)
    rw [g, g, if_neg (by omega), if_neg (by omega), if_pos rfl]
    exact h p hp (by omega)
   ·rfl
  ·have e : decide (j + 1 > a) = false := decide_eq_false hja
   rw [e]
   rfl
theorem yy463 (a b : Nat) : ∀ (n i : Nat) (d : Array (α × Nat)), b - i = n → a ≤ i → b ≤ d.size → (∀ p q, a ≤ p → p < q → i ≤ q → q < b → d[p]!.2 < d[q]!.2) →
  insOuter (fun x y => decide (cf key x y < 0)) a b i d = insOuter (lx key) a b i d := by
 intro n
 induction n with
 | zero => intro i d hn _ _ _; rw [insOuter, insOuter.eq_def (lx key), if_neg (show ¬ i < b by omega), if_neg (show ¬ i < b by omega)]
 | succ n ih =>
  intro i d hn hai hb h
  have hlt : i < b := by omega
  rw [insOuter, insOuter.eq_def (lx key), if_pos hlt, if_pos hlt]
  rw [yy253 key a i d (by omega) (fun p hp hpi => h p i hp hpi (Nat.le_refl _) hlt)]
  have P : PermIn a (i + 1) d (insInner (lx key) a i d) := yy113 (lx key) a (i + 1) i d (by omega) (by omega)
  refine ih (i + 1) _ (by omega) (by omega) (by rw [P.1]; exact hb) fun p q hp hpq hq hqb => ?_
  rw [P.2.1 q (Or.inr hq)]
  by_cases c : p < i + 1
  ·exact permIn_all d _ a (i + 1) (fun v => v.2 < d[q]!.2) (by omega) P (fun x hx hx2 => h x q hx (by omega) (by omega) hqb) p hp c
  ·rw [P.2.1 p (Or.inr (by omega))]
   exact h p q hp hpq (by omega) hqb
theorem yy542 (d : Array (α × Nat)) (a b : Nat) (hab : a ≤ b) (hb : b ≤ d.size) (h : ∀ p q, a ≤ p → p < q → q < b → d[p]!.2 < d[q]!.2) :
  PermIn a b d (Sort.insertionSort (fun x y => decide (cf key x y < 0)) d a b) ∧ SortedIn (lx key) a b (Sort.insertionSort (fun x y => decide (cf key x y < 0)) d a b) := by
 have e : Sort.insertionSort (fun x y => decide (cf key x y < 0)) d a b = Sort.insertionSort (lx key) d a b := by
  unfold Sort.insertionSort
  exact yy463 key a b _ (a + 1) d rfl (by omega) hb fun p q hp hpq hq hqb => h p q hp hpq hqb
 rw [e]
 exact insertionSort_holds (lx_swo key) d a b hab hb
def Blk (s j n : Nat) (e : Array (α × Nat)) : Prop := SortedIn (lx key) (j * s) (min ((j + 1) * s) n) e ∧ ∀ p, j * s ≤ p → p < (j + 1) * s → p < n → j * s ≤ e[p]!.2 ∧ e[p]!.2 < (j + 1) * s
variable {key}
theorem Blk.congr {s j n : Nat} {e e' : Array (α × Nat)} (h : Blk key s j n e) (he : ∀ t, j * s ≤ t → t < (j + 1) * s → t < n → e'[t]! = e[t]!) : Blk key s j n e' :=
 ⟨yy21 h.1 fun t h1 h2 => he t h1 (by omega) (by omega), fun p h1 h2 h3 => by rw [he p h1 h2 h3]; exact h.2 p h1 h2 h3⟩
theorem yy543 {s j n : Nat} {e : Array (α × Nat)} (h : n ≤ j * s) : Blk key s j n e := ⟨fun x y h1 h2 h3 => by omega, fun p h1 h2 h3 => by omega⟩
theorem yy114 (s k : Nat) : k * (2 * s) = (2 * k) * s ∧ (k + 1) * (2 * s) = (2 * k + 1) * s + s ∧ (2 * k + 1) * s = (2 * k) * s + s := by
 refine ⟨by rw [Nat.mul_comm 2 s, ← Nat.mul_assoc, Nat.mul_right_comm, Nat.mul_comm k 2], ?_, by rw [Nat.add_mul, Nat.one_mul]⟩
 rw [Nat.add_mul, Nat.add_mul, Nat.one_mul, Nat.one_mul, Nat.mul_comm 2 s, ← Nat.mul_assoc, Nat.mul_right_comm, Nat.mul_comm k 2, Nat.mul_comm s 2]
 omega
def Mix (key : α → Int) (s k n : Nat) (e : Array (α × Nat)) : Prop := (∀ j, j < k → Blk key (2 * s) j n e) ∧ ∀ j, 2 * k ≤ j → Blk key s j n e
theorem yy613 {s n : Nat} {e : Array (α × Nat)} (h : ∀ j, Blk key s j n e) : Mix key s 0 n e := ⟨fun j hj => by omega, fun j _ => h j⟩
theorem yy232 {s j k : Nat} (h : j ≤ k) : j * s ≤ k * s := Nat.mul_le_mul_right s h
theorem Mix.pair {s k n : Nat} {e : Array (α × Nat)} (h : Mix key s k n e) (hn : (2 * k + 1) * s < n) :
  SortedIn (lx key) ((2 * k) * s) ((2 * k + 1) * s) e ∧ SortedIn (lx key) ((2 * k + 1) * s) (min ((2 * k + 1) * s + s) n) e ∧
   ∀ x y, (2 * k) * s ≤ x → x < (2 * k + 1) * s → (2 * k + 1) * s ≤ y → y < min ((2 * k + 1) * s + s) n → e[x]!.2 < e[y]!.2 := by
 have b1 := h.2 (2 * k) (Nat.le_refl _)
 have b2 := h.2 (2 * k + 1) (by omega)
 have e2 : (2 * k + 1 + 1) * s = (2 * k + 1) * s + s := by rw [Nat.add_mul (2 * k + 1), Nat.one_mul]
 unfold Blk at b1 b2
 rw [e2] at b2
 refine ⟨fun i j hi hij hj => b1.1 i j hi hij (by omega), b2.1, fun x y hx hxs hy hyn => ?_⟩
 have c1 := b1.2 x hx hxs (by omega)
 have c2 := b2.2 y hy (by omega) (by omega)
 omega
theorem Mix.step {s k n : Nat} {e e' : Array (α × Nat)} (h : Mix key s k n e) (hz : n ≤ e.size) (hn : (2 * k + 1) * s < n) (hp : PermIn ((2 * k) * s) (min ((2 * k + 1) * s + s) n) e e') (hs : SortedIn (lx key) ((2 * k) * s) (min ((2 * k + 1) * s + s) n) e') : Mix key s (k + 1) n e' := by
 obtain ⟨m1, m2, m3⟩ := yy114 s k
 constructor
 ·intro j hj
  by_cases hjk : j < k
  ·refine (h.1 j hjk).congr fun t h1 h2 h3 => hp.2.1 t (Or.inl ?_)
   have := yy232 (s := 2 * s) (show j + 1 ≤ k by omega)
   omega
  ·have : j = k := by omega
   subst this
   refine ⟨by rw [m1, m2]; exact hs, fun p h1 h2 h3 => ?_⟩
   rw [m1] at h1 ⊢
   rw [m2] at h2 ⊢
   refine permIn_all e e' _ _ (fun v => 2 * j * s ≤ v.2 ∧ v.2 < (2 * j + 1) * s + s) (by omega) hp (fun i hi hi2 => ?_) p h1 (by omega)
   by_cases c : i < (2 * j + 1) * s
   ·have := (h.2 (2 * j) (Nat.le_refl _)).2 i hi c (by omega)
    omega
   ·have e2 : (2 * j + 1 + 1) * s = (2 * j + 1) * s + s := by rw [Nat.add_mul (2 * j + 1), Nat.one_mul]
    have := (h.2 (2 * j + 1) (by omega)).2 i (by omega) (by rw [e2]; omega) (by omega)
    rw [e2] at this
    omega
 ·intro j hj
  refine (h.2 j (by omega)).congr fun t h1 h2 h3 => hp.2.1 t (Or.inr ?_)
  have := yy232 (s := s) (show 2 * k + 1 + 1 ≤ j by omega)
  have e2 : (2 * k + 1 + 1) * s = (2 * k + 1) * s + s := by rw [Nat.add_mul (2 * k + 1), Nat.one_mul]
  omega
theorem Mix.done {s k n : Nat} {e : Array (α × Nat)} (h : Mix key s k n e) (hn : n ≤ (2 * k + 1) * s) : ∀ j, Blk key (2 * s) j n e := by
 obtain ⟨m1, m2, m3⟩ := yy114 s k
 intro j
 by_cases hjk : j < k
 ·exact h.1 j hjk
 by_cases hj : j = k
 ·subst hj
  have b := h.2 (2 * j) (Nat.le_refl _)
  refine ⟨fun x y h1 h2 h3 => b.1 x y (by rw [← m1]; exact h1) h2 (by omega), fun p h1 h2 h3 => ?_⟩
  have := b.2 p (by rw [← m1]; exact h1) (by omega) h3
  rw [m1, m2]
  omega
 ·refine yy543 ?_
  have := yy232 (s := 2 * s) (show k + 1 ≤ j by omega)
  omega
theorem yy753 {s n : Nat} {e : Array (α × Nat)} (h : Blk key s 0 n e) (hs : n ≤ s) : SortedIn (lx key) 0 n e := by
 have := h.1
 rw [Nat.zero_mul, Nat.zero_add, Nat.one_mul, Nat.min_eq_right hs] at this
 exact this
def Pre (key : α → Int) (s k n : Nat) (d e : Array (α × Nat)) : Prop := PermIn 0 n d e ∧ (∀ j, j < k → Blk key s j n e) ∧ ∀ p, k * s ≤ p → e[p]! = d[p]!
theorem yy614 (s n : Nat) (d : Array (α × Nat)) : Pre key s 0 n d d := ⟨permIn_refl d 0 n, fun j hj => by omega, fun _ _ => rfl⟩
def Idx (n : Nat) (d : Array (α × Nat)) : Prop := ∀ p, p < n → d[p]!.2 = p
theorem Pre.step {s k n b : Nat} {d e e' : Array (α × Nat)} (hI : Idx n d) (hz : d.size = n) (h : Pre key s k n d e) (hb : b = min ((k + 1) * s) n) (hk : k * s ≤ n) (he : e' = Sort.insertionSort (fun x y => decide (cf key x y < 0)) e (k * s) b) : Pre key s (k + 1) n d e' := by
 have e1 : (k + 1) * s = k * s + s := by rw [Nat.add_mul, Nat.one_mul]
 have hez : e.size = n := by rw [h.1.1]; exact hz
 obtain ⟨p1, s1⟩ := yy542 key e (k * s) b (by omega) (by omega) fun p q hp hpq hq => by
  rw [h.2.2 p hp, h.2.2 q (by omega), hI p (by omega), hI q (by omega)]
  exact hpq
 rw [← he] at p1 s1
 refine ⟨permIn_trans _ _ _ 0 n h.1 (permIn_mono e e' (k * s) b 0 n (by omega) (by omega) (by omega) p1), fun j hj => ?_, fun p hp => ?_⟩
 ·by_cases hjk : j < k
  ·refine (h.2.1 j hjk).congr fun t h1 h2 h3 => p1.2.1 t (Or.inl ?_)
   have := yy232 (s := s) (show j + 1 ≤ k by omega)
   omega
  ·have : j = k := by omega
   subst this
   refine ⟨by rw [← hb]; exact s1, fun p h1 h2 h3 => ?_⟩
   refine permIn_all e e' _ _ (fun v => j * s ≤ v.2 ∧ v.2 < (j + 1) * s) (by omega) p1 (fun i hi hi2 => ?_) p h1 (by omega)
   rw [h.2.2 i hi, hI i (by omega)]
   omega
 ·rw [p1.2.1 p (Or.inr (by omega))]
  exact h.2.2 p (by omega)
theorem Pre.done {s k n : Nat} {d e : Array (α × Nat)} (h : Pre key s k n d e) (hn : n ≤ k * s) : ∀ j, Blk key s j n e := fun j => by
 by_cases hj : j < k
 ·exact h.2.1 j hj
 ·refine yy543 (Nat.le_trans hn (yy232 (by omega)))
theorem yy701 {l : List α} {d e : Array (α × Nat)} (hd : d = l.zipIdx.toArray) (hp : PermIn 0 l.length d e) (hs : SortedIn (lx key) 0 l.length e) :
  ∃ m : List α, m = e.toList.map (·.1) ∧ m.length = l.length ∧ m.Perm l ∧ m.Pairwise (fun x y => key x ≤ key y) ∧ ∀ i : Int, m.filter (fun x => decide (key x = i)) = l.filter (fun x => decide (key x = i)) := by
 have hz : d.size = l.length := by rw [hd]; simp
 have hez : e.size = l.length := by rw [hp.1, hz]
 have hperm : e.toList.Perm l.zipIdx := by
  have h1 := hp.2.2
  have x1 : e.extract 0 l.length = e := by rw [← hez]; exact Array.extract_size
  have x2 : d.extract 0 l.length = d := by rw [← hz]; exact Array.extract_size
  rw [x1, x2, hd] at h1
  simpa using h1
 have hmap : l.zipIdx.map (·.1) = l := by simp
 have hpw : e.toList.Pairwise (fun x y => lx key y x = false) := by
  rw [List.pairwise_iff_getElem]
  intro i j hi hj hij
  have hi' : i < e.size := by simpa using hi
  have hj' : j < e.size := by simpa using hj
  have := hs i j (Nat.zero_le _) hij (by omega)
  rw [getElem!_pos e i hi', getElem!_pos e j hj'] at this
  simpa using this
 refine ⟨e.toList.map (·.1), rfl, by simpa using hez, ?_, ?_, fun i => ?_⟩
 ·have := hperm.map (·.1)
  rwa [hmap] at this
 ·rw [List.pairwise_map]
  exact hpw.imp fun {x y} h => by
   have := of_decide_eq_false h
   omega
 ·rw [List.filter_map]
  conv => rhs; rw [← hmap]
  rw [List.filter_map]
  refine congrArg _ ?_
  have hz0 : l.zipIdx.Pairwise (fun x y : α × Nat => x.2 ≤ y.2) := by
   rw [List.pairwise_iff_getElem]
   intro a b ha hb hab
   simp only [List.getElem_zipIdx]
   omega
  refine List.Perm.eq_of_pairwise (le := fun x y : α × Nat => x.2 ≤ y.2) ?_ ?_ (hz0.filter _) (hperm.filter _)
  ·intro a b ha hb h1 h2
   have ha' := hperm.mem_iff.1 (List.mem_filter.1 ha).1
   have hb' := (List.mem_filter.1 hb).1
   obtain ⟨a1, a2⟩ := a
   obtain ⟨b1, b2⟩ := b
   have e2 : a2 = b2 := Nat.le_antisymm h1 h2
   subst e2
   have x1 := List.mem_zipIdx_iff_getElem?.1 ha'
   have x2 := List.mem_zipIdx_iff_getElem?.1 hb'
   have x3 : some a1 = some b1 := x1.symm.trans x2
   injection x3 with x3
   rw [x3]
  ·rw [List.pairwise_filter]
   refine hpw.imp fun {x y} h hx hy => ?_
   have h := of_decide_eq_false h
   have hx : key x.1 = i := of_decide_eq_true hx
   have hy : key y.1 = i := of_decide_eq_true hy
   omega
end
attribute [irreducible] rotF
end Go.Proofs.YtjpjdkdbgjipnaaGreatDoor
namespace Go.Proofs.YtjpjdkdbgjipnaaGreatDoor
open Go.RowKit
structure LaysS (P : Program) (k : Nat) : Prop where
 mixed : P.follows .mixedOrders = true
 fSwap : P.funcs[105]? = some Tryz.f105
 fRot : P.funcs[102]? = some Tryz.f102
 fMerge : P.funcs[96]? = some Tryz.f96
 fStable : P.funcs[79]? = some Tryz.f79
 t3 : P.underlying 3 = some (.int .i64)
 a3 : ∀ w, (isAgg 3).run P w = .ok false w
 z3 : ∀ w, (Go.sizeOf 3).run P w = .ok 1 w
 v3 : ∀ w, (zeroValue 3).run P w = .ok (.int .i64 0) w
 t4 : P.underlying 4 = some .bool
 a4 : ∀ w, (isAgg 4).run P w = .ok false w
 z4 : ∀ w, (Go.sizeOf 4).run P w = .ok 1 w
 v4 : ∀ w, (zeroValue 4).run P w = .ok (.bool false) w
 t32 : P.underlying 22 = some (.slice 26)
 a32 : ∀ w, (isAgg 22).run P w = .ok false w
 z32 : ∀ w, (Go.sizeOf 22).run P w = .ok 1 w
 v32 : ∀ w, (zeroValue 22).run P w = .ok (.slice none 0 0) w
 t85 : P.underlying 111 = some (.func #[26, 26] #[3] false)
 a85 : ∀ w, (isAgg 111).run P w = .ok false w
 z85 : ∀ w, (Go.sizeOf 111).run P w = .ok 1 w
 v85 : ∀ w, (zeroValue 111).run P w = .ok .nilFunc w
 t92 : P.underlying 137 = some (.int .u64)
 a92 : ∀ w, (isAgg 137).run P w = .ok false w
 z92 : ∀ w, (Go.sizeOf 137).run P w = .ok 1 w
 v92 : ∀ w, (zeroValue 137).run P w = .ok (.int .u64 0) w
 aE : ∀ w, (isAgg 26).run P w = .ok true w
 zE : ∀ w, (Go.sizeOf 26).run P w = .ok k w
theorem laysS : LaysS Tryz.prog 6 where
 mixed := by kernel_rfl
 fSwap := Tryz.func105
 fRot := Tryz.func102
 fMerge := Tryz.func96
 fStable := Tryz.func79
 t3 := Tryz.underlying3
 a3 := Tryz.isAgg3
 z3 := Tryz.sizeOf3
 v3 := Tryz.zeroValue3
 t4 := Tryz.underlying4
 a4 := Tryz.isAgg4
 z4 := Tryz.sizeOf4
 v4 := Tryz.zeroValue4
 t32 := Tryz.underlying22
 a32 := Tryz.isAgg22
 z32 := Tryz.sizeOf22
 v32 := Tryz.zeroValue22
 t85 := Tryz.underlying111
 a85 := Tryz.isAgg111
 z85 := Tryz.sizeOf111
 v85 := Tryz.zeroValue111
 t92 := Tryz.underlying137
 a92 := Tryz.isAgg137
 z92 := Tryz.sizeOf137
 v92 := Tryz.zeroValue137
 aE := Tryz.isAgg26
 zE := Tryz.sizeOf26
end Go.Proofs.YtjpjdkdbgjipnaaGreatDoor
namespace Go.Proofs.YtjpjdkdbgjipnaaGreatDoor
open Go.RowKit Go.Lib Go.Sort
variable {P : Program} {α : Type} [Inhabited α] {enc : α → List Value} {k : Nat} {w0 : World} {blk off : Nat} {d0 : Array α}
set_option maxHeartbeats 4000000 in
set_option maxRecDepth 1000000 in
theorem yy464 (L : LaysS P k) (R : RowK enc k w0 blk off d0) (g : Nat) (cb : Array Value) (cap a b n : Nat) (d : Array α) (w : World) (S : SWK enc k w0 blk off d w) (hs : d0.size = d.size) (hab : a + n ≤ b) (hb : b + n ≤ d.size) (hsz : d.size < 1099511627776)
  (lo hi : Nat) (hlo : lo ≤ a) (hhi : b + n ≤ hi) (hhz : hi ≤ d.size) :
  Calls P 105 #[.slice (some ⟨blk, off, none⟩) d.size cap, .int .i64 a, .int .i64 b, .int .i64 n, .func (.func g) #[] cb] w fun e w' => e = .returned (.tuple #[]) ∧ ∃ d', SWK enc k w0 blk off d' w' ∧ yy129 d a b n d' ∧ PermIn lo hi d d' := by
 have mixed := L.mixed; have t3 := L.t3; have a3 := L.a3; have z3 := L.z3; have v3 := L.v3; have t4 := L.t4; have a4 := L.a4; have z4 := L.z4; have v4 := L.v4; have t32 := L.t32; have a32 := L.a32; have z32 := L.z32; have v32 := L.v32; have t85 := L.t85; have a85 := L.a85; have z85 := L.z85; have v85 := L.v85; have aE := L.aE; have zE := L.zE
 have FG := L.fSwap
 have S0 : Aside (SWK enc k w0 blk off d w) := S
 have RR : Aside (RowK enc k w0 blk off d0) := R
 clear S R
 go_enter FG, Tryz.ntmps105
 go_wp2
 go_loopg [10] n (fun kx s10 wr => ∃ (i : Nat) (dk : Array α), s10 = .int .i64 i ∧ i ≤ n ∧ n - i ≤ kx ∧ Aside (SWK enc k w0 blk off dk wr) ∧ Aside (yy129 d a b i dk) ∧ Aside (PermIn lo hi d dk))
 case atStart => exact ⟨0, d, rfl, Nat.zero_le _, Nat.le_refl _, S0, yy371 d a b, permIn_refl d lo hi⟩
 case round =>
  clear S0
  obtain ⟨i, dk, rfl, hin, hkx, S1, HR, HP⟩ := hrel
  by_cases hlt : i < n
  ·have hltz : (i : Int) < (n : Int) := by omega
   have hds : dk.size = d.size := HR.out.1
   obtain ⟨x, hx⟩ : ∃ x, a + i = x := ⟨_, rfl⟩
   obtain ⟨y, hy⟩ : ∃ y, b + i = y := ⟨_, rfl⟩
   have ex : (a : Int) + (i : Int) = (x : Int) := by omega
   have ey : (b : Int) + (i : Int) = (y : Int) := by omega
   have ea44 : ((x : Int)).toNat = x := by omega
   have pa44 : (0 : Int) ≤ (x : Int) := by omega
   have ba44 : (x : Int) < (d.size : Int) := by omega
   have ra44 : IntKind.i64.wrap ((x : Int)) = (x : Int) := by rw [IntKind.wrap_i64]; omega
   have ec44 : ((y : Int)).toNat = y := by omega
   have pc44 : (0 : Int) ≤ (y : Int) := by omega
   have bc44 : (y : Int) < (d.size : Int) := by omega
   have rc44 : IntKind.i64.wrap ((y : Int)) = (y : Int) := by rw [IntKind.wrap_i64]; omega
   have S2 : Aside (SWK enc k w0 blk off (swp dk x y) ((wr.drew.setCells blk (off + x * k) (enc dk[y]!)).setCells blk (off + y * k) (enc dk[x]!))) := S1.out.swapped RR.out x y (by omega) (by omega)
   have l44a := S1.out.ld1 RR.out (by omega) P x (by omega)
   have l44b := S1.out.ld1 RR.out (by omega) P y (by omega)
   have s44a := S1.out.st1 RR.out (by omega) P x (by omega) dk[y]!
   have s44b := S1.out.st2 RR.out (by omega) P x y (by omega) (by omega) dk[y]! dk[x]!
   have n44a : (enc dk[x]!).length = k := RR.out.hk _
   have n44b : (enc dk[y]!).length = k := RR.out.hk _
   have HR2 : Aside (yy129 d a b (i + 1) (swp dk x y)) := by
    have := HR.out.step (by omega) (by omega)
    rwa [hx, hy] at this
   have HP2 : Aside (PermIn lo hi d (swp dk x y)) := permIn_trans _ _ _ lo hi HP.out (swp_permIn dk lo hi x y (by omega) (by omega) (by omega) (by omega) (by omega))
   have HX : Aside (a + i = x ∧ b + i = y) := ⟨hx, hy⟩
   clear hx hy HR HP
   generalize enc dk[x]! = cI44 at S2 l44a s44b n44a
   generalize enc dk[y]! = cJ44 at S2 l44b s44a s44b n44b
   clear S1
   go_wp2_with fail
   go_big_region_o
   clear l44a l44b s44a s44b
   generalize (wr.drew.setCells blk (off + x * k) cJ44).setCells blk (off + y * k) cI44 = w2 at S2 ⊢
   go_wp2
   go_roundg (n - (i + 1))
   case measure => omega
   case rel => exact ⟨i + 1, swp dk x y, by first | rfl | simp, by omega, Nat.le_refl _, S2, HR2, HP2⟩
  ·have hltz : ¬ (i : Int) < (n : Int) := by omega
   obtain rfl : i = n := by omega
   go_wp2
   go_end0
   exact ⟨rfl, dk, S1.out, HR.out, HP.out⟩
variable {P : Program} {α : Type} [Inhabited α] {enc : α → List Value} {k : Nat} {w0 : World} {blk off : Nat} {d0 : Array α}
set_option maxHeartbeats 4000000 in
set_option maxRecDepth 1000000 in
theorem yy544 (L : LaysS P k) (R : RowK enc k w0 blk off d0) (g : Nat) (cb : Array Value) (cap a m b : Nat) (d : Array α) (w : World) (S : SWK enc k w0 blk off d w) (hs : d0.size = d.size) (ham : a < m) (hmb : m < b) (hb : b ≤ d.size) (hsz : d.size < 1099511627776) :
  Calls P 102 #[.slice (some ⟨blk, off, none⟩) d.size cap, .int .i64 a, .int .i64 m, .int .i64 b, .func (.func g) #[] cb] w fun e w' => e = .returned (.tuple #[]) ∧ ∃ d', SWK enc k w0 blk off d' w' ∧ RotRes d a m b d' ∧ PermIn a b d d' := by
 have mixed := L.mixed; have t3 := L.t3; have a3 := L.a3; have z3 := L.z3; have v3 := L.v3; have t4 := L.t4; have a4 := L.a4; have z4 := L.z4; have v4 := L.v4; have t32 := L.t32; have a32 := L.a32; have z32 := L.z32; have v32 := L.v32; have t85 := L.t85; have a85 := L.a85; have z85 := L.z85; have v85 := L.v85
 have FG := L.fRot
 have e77 : ∀ args w, (callFunc 105 args).run P w = .ok (.enter 105 args) w := enters_of L.fSwap (by kernel_rfl) rfl
 have GS := xh (fun (x y n : Nat) (dk : Array α) (wr : World) (hS : SWK enc k w0 blk off dk wr) (hd : dk.size = d.size) (h1 : x + n ≤ y) (h2 : y + n ≤ b) (h3 : a ≤ x) => by
  have := yy464 L R g cb cap x y n dk wr hS (by omega) h1 (by omega) (by omega) a b h3 h2 (by omega)
  rwa [hd] at this)
 have S0 : Aside (SWK enc k w0 blk off d w) := S
 clear S R
 go_enter FG, Tryz.ntmps102
 obtain ⟨i0, hi0⟩ : ∃ x, m - a = x := ⟨_, rfl⟩
 obtain ⟨j0, hj0⟩ : ∃ x, b - m = x := ⟨_, rfl⟩
 have ei0 : (m : Int) - (a : Int) = (i0 : Int) := by omega
 have ej0 : (b : Int) - (m : Int) = (j0 : Int) := by omega
 go_wp2
 go_loopg [10, 11] (i0 + j0) (fun kx s10 s11 wr => ∃ (i j : Nat) (dk : Array α), s10 = .int .i64 i ∧ s11 = .int .i64 j ∧ 0 < i ∧ 0 < j ∧ a + i ≤ m ∧ m + j ≤ b ∧ i + j ≤ kx ∧ dk.size = d.size ∧ Aside (SWK enc k w0 blk off dk wr) ∧ Aside (∀ t, rotF dk (m - i) m (m + j) t = rotF d a m b t) ∧ Aside (PermIn a b d dk))
 case atStart => exact ⟨i0, j0, d, rfl, rfl, by omega, by omega, by omega, by omega, Nat.le_refl _, rfl, S0, (fun t => by rw [show m - i0 = a by omega, show m + j0 = b by omega]), permIn_refl d a b⟩
 case round =>
  clear S0 ei0 ej0
  obtain ⟨i, j, dk, rfl, rfl, hi, hj, hia, hjb, hkx, hds, S1, HF, HP⟩ := hrel
  obtain ⟨x, hx⟩ : ∃ x, m - i = x := ⟨_, rfl⟩
  have ex : (m : Int) - (i : Int) = (x : Int) := by omega
  by_cases hij : i = j
  ·subst hij
   have G1 := GS.out x m i dk wr S1.out hds (by omega) (by omega) (by omega)
   have HXX : Aside (m - i = x) := hx
   clear hx
   go_wp2_with (go_at_fn 105; refine G1.mono ?_; rintro e w1 ⟨rfl, dk', S2, HR2, HP2⟩)
   go_end0
   exact ⟨rfl, dk', S2, ⟨by rw [HR2.1]; exact hds, fun t => by
    have h1 := yy697 (d := dk) (e := dk') (m := m) (i := i) (by omega) (by rw [HXX.out]; exact HR2) t
    rw [h1]; exact HF.out t⟩, permIn_trans _ _ _ a b HP.out HP2⟩
  ·have hz1 : ¬ (i : Int) = (j : Int) := by omega
   by_cases hlt : j < i
   ·have hz2 : (j : Int) < (i : Int) := by omega
    have G1 := GS.out x m j dk wr S1.out hds (by omega) (by omega) (by omega)
    have HXX : Aside (m - i = x) := hx
    obtain ⟨i', hi'⟩ : ∃ y, i - j = y := ⟨_, rfl⟩
    have ei' : (i : Int) - (j : Int) = (i' : Int) := by omega
    have HII : Aside (i - j = i') := hi'
    clear hx hi'
    go_wp2_with (go_at_fn 105; refine G1.mono ?_; rintro e w1 ⟨rfl, dk', S2, HR2, HP2⟩)
    go_roundg (i' + j)
    case measure => have := HII.out; omega
    case rel => exact ⟨i', j, dk', rfl, rfl, by have := HII.out; omega, hj, by have := HII.out; omega, hjb, Nat.le_refl _, by rw [HR2.1]; exact hds, S2, (fun t => by
     have h1 := yy698 (d := dk) (e := dk') (m := m) (i := i) (j := j) (by omega) hlt (by rw [HXX.out]; exact HR2) t
     rw [HII.out] at h1
     rw [h1]; exact HF.out t), permIn_trans _ _ _ a b HP.out HP2⟩
   ·have hz2 : ¬ (j : Int) < (i : Int) := by omega
    obtain ⟨s, hs1⟩ : ∃ y, m + j = y := ⟨_, rfl⟩
    obtain ⟨y, hy⟩ : ∃ y, s - i = y := ⟨_, rfl⟩
    have es : (m : Int) + (j : Int) = (s : Int) := by omega
    have ey : (s : Int) - (i : Int) = (y : Int) := by omega
    have G1 := GS.out x y i dk wr S1.out hds (by omega) (by omega) (by omega)
    obtain ⟨j', hj'⟩ : ∃ y, j - i = y := ⟨_, rfl⟩
    have ej' : (j : Int) - (i : Int) = (j' : Int) := by omega
    have HXX : Aside (m - i = x ∧ m + j - i = y ∧ j - i = j') := ⟨hx, by rw [hs1]; exact hy, hj'⟩
    clear hx hj' hy hs1
    go_wp2_with (go_at_fn 105; refine G1.mono ?_; rintro e w1 ⟨rfl, dk', S2, HR2, HP2⟩)
    go_roundg (i + j')
    case measure => have := HXX.out; omega
    case rel => exact ⟨i, j', dk', rfl, rfl, hi, by have := HXX.out; omega, hia, by have := HXX.out; omega, Nat.le_refl _, by rw [HR2.1]; exact hds, S2, (fun t => by
     have h1 := yy699 (d := dk) (e := dk') (m := m) (i := i) (j := j) (by omega) (by omega) (by rw [HXX.out.1, HXX.out.2.1]; exact HR2) t
     rw [HXX.out.2.2] at h1
     rw [h1]; exact HF.out t), permIn_trans _ _ _ a b HP.out HP2⟩
end Go.Proofs.YtjpjdkdbgjipnaaGreatDoor
namespace Go.Proofs.YtjpjdkdbgjipnaaGreatDoor
open Go.Sort
variable {α : Type} [Inhabited α] {lt : α → α → Bool} {d e : Array α}
theorem yy615 {a i b : Nat} (h : RotRes d a (a + 1) i e) (hi : a + 1 ≤ i) (hib : i ≤ b) (hs : SortedIn lt (a + 1) b d) (A : ∀ t, a + 1 ≤ t → t < i → lt d[a]! d[t]! = false) (B : ∀ t, i ≤ t → t < b → lt d[t]! d[a]! = false) : SortedIn lt a b e := by
 have g1 : ∀ t, a ≤ t → t + 1 < i → e[t]! = d[t + 1]! := fun t h1 h2 => by rw [h.2, rotF, if_pos (by omega)]; exact congrArg (fun z => d[z]!) (by omega)
 have g2 : e[i - 1]! = d[a]! := by rw [h.2, rotF, if_neg (by omega), if_pos (by omega)]; exact congrArg (fun z => d[z]!) (by omega)
 have g3 : ∀ t, i ≤ t → e[t]! = d[t]! := fun t h1 => by rw [h.2, rotF, if_neg (by omega), if_neg (by omega)]
 intro x y hx hxy hy
 by_cases c1 : x + 1 < i
 ·rw [g1 x hx c1]
  by_cases c2 : y + 1 < i
  ·rw [g1 y (by omega) c2]; exact hs _ _ (by omega) (by omega) (by omega)
  ·by_cases c3 : y = i - 1
   ·subst c3; rw [g2]; exact A _ (by omega) c1
   ·rw [g3 y (by omega)]; exact hs _ _ (by omega) (by omega) hy
 ·by_cases c3 : x = i - 1
  ·subst c3; rw [g2, g3 y (by omega)]; exact B _ (by omega) hy
  ·rw [g3 x (by omega), g3 y (by omega)]; exact hs _ _ (by omega) hxy hy
theorem yy465 {a i m : Nat} (h : RotRes d i m (m + 1) e) (hai : a ≤ i) (him : i ≤ m) (hs : SortedIn lt a m d) (A : ∀ t, a ≤ t → t < i → lt d[m]! d[t]! = false) (B : ∀ t, i ≤ t → t < m → lt d[t]! d[m]! = false) : SortedIn lt a (m + 1) e := by
 have g1 : ∀ t, t < i → e[t]! = d[t]! := fun t h1 => by rw [h.2, rotF, if_neg (by omega), if_neg (by omega)]
 have g2 : e[i]! = d[m]! := by rw [h.2, rotF, if_pos (by omega)]; exact congrArg (fun z => d[z]!) (by omega)
 have g3 : ∀ t, i < t → t ≤ m → e[t]! = d[t - 1]! := fun t h1 h2 => by rw [h.2, rotF, if_neg (by omega), if_pos (by omega)]; exact congrArg (fun z => d[z]!) (by omega)
 intro x y hx hxy hy
 by_cases c1 : y < i
 ·rw [g1 x (by omega), g1 y c1]; exact hs _ _ hx hxy (by omega)
 by_cases c2 : y = i
 ·subst c2; rw [g2, g1 x hxy]; exact A _ hx hxy
 rw [g3 y (by omega) (by omega)]
 by_cases c3 : x < i
 ·rw [g1 x c3]; exact hs _ _ hx (by omega) (by omega)
 by_cases c4 : x = i
 ·subst c4; rw [g2]; exact B _ (by omega) (by omega)
 rw [g3 x (by omega) (by omega)]; exact hs _ _ (by omega) (by omega) (by omega)
section
variable (hS : SWO lt)
include hS
theorem yy545 {m b h : Nat} {v : α} (hs : SortedIn lt m b d) (hm : m ≤ h) (hb : h < b) (hv : lt v d[h]! = false) : ∀ t, m ≤ t → t < h + 1 → lt v d[t]! = false := fun t h1 h2 => by
 by_cases c : t = h
 ·subst c; exact hv
 ·exact hS.ntrans _ _ _ hv (hs t h h1 (by omega) hb)
theorem yy204 {m b h : Nat} {v : α} (hs : SortedIn lt m b d) (hm : m ≤ h) (hv : lt d[h]! v = false) : ∀ t, h ≤ t → t < b → lt d[t]! v = false := fun t h1 h2 => by
 by_cases c : t = h
 ·subst c; exact hv
 ·exact hS.ntrans _ _ _ (hs h t hm (by omega) h2) hv
theorem yy546 {a m b c q : Nat} (hl : SortedIn lt a m d) (hr : SortedIn lt m b d) (hc : c < m) (hq : m ≤ q) (hv : lt d[q]! d[c]! = false) : ∀ x y, a ≤ x → x < c + 1 → q ≤ y → y < b → lt d[y]! d[x]! = false := fun x y h1 h2 h3 h4 => by
 have e1 : lt d[y]! d[c]! = false := yy204 hS hr hq hv y h3 h4
 by_cases c1 : x = c
 ·subst c1; exact e1
 ·exact hS.ntrans _ _ _ e1 (hl x c h1 (by omega) hc)
theorem yy419 {a m b c q : Nat} (hl : SortedIn lt a m d) (hr : SortedIn lt m b d) (ha : a ≤ c) (hq : q < b) (hv : lt d[c]! d[q]! = false) : ∀ x y, c ≤ x → x < m → m ≤ y → y < q + 1 → lt d[x]! d[y]! = false := fun x y h1 h2 h3 h4 => by
 have e1 : lt d[x]! d[q]! = false := yy204 hS hl ha hv x h1 h2
 by_cases c1 : y = q
 ·subst c1; exact e1
 ·exact hS.ntrans _ _ _ e1 (hr y q h3 (by omega) hq)
end
end Go.Proofs.YtjpjdkdbgjipnaaGreatDoor
namespace Go.Proofs.YtjpjdkdbgjipnaaGreatDoor
open Go.RowKit Go.Lib Go.Sort
structure Ord {α : Type} (lt : α → α → Bool) (C : α → α → Prop) (cn : α → α → Int) : Prop where
 swo : SWO lt
 yes : ∀ x y, C x y → cn y x < 0 → lt x y = false
 no : ∀ x y, C x y → ¬ cn y x < 0 → lt y x = false
def yy158 {α : Type} [Inhabited α] (P : Program) (enc : α → List Value) (k : Nat) (w0 : World) (blk off : Nat) (lt : α → α → Bool) (g : Nat) (cb : Array Value) (cap a m b : Nat) (d : Array α) (w : World) : Prop :=
 Calls P 96 #[.slice (some ⟨blk, off, none⟩) d.size cap, .int .i64 a, .int .i64 m, .int .i64 b, .func (.func g) #[] cb] w fun e w' => e = .returned (.tuple #[]) ∧ ∃ d', SWK enc k w0 blk off d' w' ∧ PermIn a b d d' ∧ SortedIn lt a b d'
def yy655 {α : Type} [Inhabited α] (P : Program) (enc : α → List Value) (k : Nat) (w0 : World) (blk off : Nat) (d0 : Array α) (lt : α → α → Bool) (C : α → α → Prop) (g : Nat) (cb : Array Value) (cap N : Nat) : Prop :=
 ∀ (a m b : Nat) (d : Array α) (w : World), b - a ≤ N → a < m → m < b → b ≤ d.size → d0.size = d.size → SWK enc k w0 blk off d w → SortedIn lt a m d → SortedIn lt m b d → (∀ x y, a ≤ x → x < m → m ≤ y → y < b → C d[x]! d[y]!) → yy158 P enc k w0 blk off lt g cb cap a m b d w
variable {P : Program} {α : Type} [Inhabited α] {enc : α → List Value} {k : Nat} {w0 : World} {blk off : Nat} {d0 : Array α}
set_option maxHeartbeats 8000000 in
set_option maxRecDepth 1000000 in
theorem yy322 (L : LaysS P k) (R : RowK enc k w0 blk off d0) {lt : α → α → Bool} {C : α → α → Prop} {cn : α → α → Int} (O : Ord lt C cn) (g : Nat) (cb : Array Value) (cap : Nat)
  (eg : ∀ args w, (callFunc g args).run P w = .ok (.enter g args) w) (hcmp : CmpLays P g cb enc k cn blk off d0.size w0) (hsz : d0.size < 1099511627776)
  (a m b : Nat) (d : Array α) (w : World) (h2 : b = m + 1) (h1 : m ≠ a + 1) (ham : a < m) (hmb : m < b) (hb : b ≤ d.size) (hd : d0.size = d.size) (S : SWK enc k w0 blk off d w) (hl : SortedIn lt a m d) (hr : SortedIn lt m b d) (hC : ∀ x y, a ≤ x → x < m → m ≤ y → y < b → C d[x]! d[y]!) :
  yy158 P enc k w0 blk off lt g cb cap a m b d w := by
 unfold yy158
 have mixed := L.mixed; have t3 := L.t3; have a3 := L.a3; have z3 := L.z3; have v3 := L.v3; have t4 := L.t4; have a4 := L.a4; have z4 := L.z4; have v4 := L.v4; have t32 := L.t32; have a32 := L.a32; have z32 := L.z32; have v32 := L.v32; have t85 := L.t85; have a85 := L.a85; have z85 := L.z85; have v85 := L.v85; have t92 := L.t92; have a92 := L.a92; have z92 := L.z92; have v92 := L.v92; have aE := L.aE; have zE := L.zE
 have FG := L.fMerge
 have S0 : Hid (SWK enc k w0 blk off d w) := S
 have RR : Hid (RowK enc k w0 blk off d0) := R
 have HC : Hid (CmpLays P g cb enc k cn blk off d0.size w0) := hcmp
 have HL : Hid (SortedIn lt a m d) := hl
 have HR : Hid (SortedIn lt m b d) := hr
 have HX : Hid (∀ x y, a ≤ x → x < m → m ≤ y → y < b → C d[x]! d[y]!) := hC
 have HO : Hid (Ord lt C cn) := O
 have hszd : d.size < 1099511627776 := by omega
 clear S R hcmp hl hr hC O
 clear hsz
 go_enter FG, Tryz.ntmps96
 have h1z : ((m : Int) - (a : Int) == 1) = false := xn (by omega)
 have em1 : (b : Int) - (m : Int) = 1 := by omega
 clear h1
 have H2 : Hid (b = m + 1) := h2
 clear h2
 go_wp2
 go_loopg [14, 15] (m - a) (fun kx s14 s15 wr => ∃ i j : Nat, s14 = .int .i64 i ∧ s15 = .int .i64 j ∧ a ≤ i ∧ i ≤ j ∧ j ≤ m ∧ j - i ≤ kx ∧ Hid (SWK enc k w0 blk off d wr) ∧ Hid (∀ t, a ≤ t → t < i → lt d[m]! d[t]! = false) ∧ Hid (∀ t, j ≤ t → t < m → lt d[t]! d[m]! = false))
 case atStart => exact ⟨a, m, rfl, rfl, Nat.le_refl _, by omega, Nat.le_refl _, Nat.le_refl _, S0, (fun t h1 h2 => by omega), (fun t h1 h2 => by omega)⟩
 case round =>
  clear S0 em1 h1z
  obtain ⟨i, j, rfl, rfl, hi, hij, hjb, hkx, S1, HA, HB⟩ := hrel
  by_cases hlt : i < j
  ·have hltz : (i : Int) < (j : Int) := by omega
   obtain ⟨sm, hsm⟩ : ∃ x, i + j = x := ⟨_, rfl⟩
   obtain ⟨h, hh⟩ : ∃ x, sm / 2 = x := ⟨_, rfl⟩
   have esm : (i : Int) + (j : Int) = (sm : Int) := by omega
   have wsm : IntKind.u64.wrap (sm : Int) = (sm : Int) := by rw [IntKind.wrap_u64]; omega
   have dsm : (sm : Int) / 2 = (h : Int) := by omega
   have d2sm : (sm : Int) >>> 1 = (h : Int) := by rw [Int.shiftRight_eq_div_pow]; omega
   have wsh : IntKind.i64.wrap (h : Int) = (h : Int) := by rw [IntKind.wrap_i64]; omega
   have wuh : IntKind.u64.wrap (h : Int) = (h : Int) := by rw [IntKind.wrap_u64]; omega
   have Hh : Hid ((i + j) / 2 = h) := by show _ = _; rw [hsm]; exact hh
   have b1h : i ≤ h := by omega
   have b2h : h < j ∨ i = j := by omega
   clear hsm hh
   have hbd : h < d.size := by omega
   have had : m < d.size := by omega
   have eha : ((h : Int)).toNat = h := by omega
   have ehp : (0 : Int) ≤ (h : Int) := by omega
   have ehb : (h : Int) < (d.size : Int) := by omega
   have ehw : IntKind.i64.wrap ((h : Int)) = (h : Int) := by rw [IntKind.wrap_i64]; omega
   have ema : ((m : Int)).toNat = m := by omega
   have emp : (0 : Int) ≤ (m : Int) := by omega
   have emb : (m : Int) < (d.size : Int) := by omega
   have emw : IntKind.i64.wrap ((m : Int)) = (m : Int) := by rw [IntKind.wrap_i64]; omega
   obtain ⟨xi, hxi⟩ : ∃ x, d[m]! = x := ⟨_, rfl⟩
   obtain ⟨xj, hxj⟩ : ∃ x, d[h]! = x := ⟨_, rfl⟩
   have li : ∀ n' os', Sem.run P (loadCellsFrom ⟨blk, off + m * k, none⟩ 0 k #[]) (grow (wr.drewN n') os') = .ok (enc xi).toArray (grow (wr.drewN n') os') := fun n' os' => by rw [← hxi]; exact S1.out.ld RR.out (by omega) P m (by omega) n' os'
   have lj : ∀ n' os', Sem.run P (loadCellsFrom ⟨blk, off + h * k, none⟩ 0 k #[]) (grow (wr.drewN n') os') = .ok (enc xj).toArray (grow (wr.drewN n') os') := fun n' os' => by rw [← hxj]; exact S1.out.ld RR.out (by omega) P h (by omega) n' os'
   have hcg : ∀ n' os', Calls P g (#[.agg (enc xi).toArray, .agg (enc xj).toArray] ++ cb) (grow (wr.drewN n') os') fun e w' => e = .returned (.int .i64 (cn xi xj)) ∧ ∃ q os'', w' = grow ((grow (wr.drewN n') os').drewN q) os'' := fun n' os' => S1.out.cmp HC.out (by omega) xi xj n' os'
   have SG : Hid (∀ n' os', SWK enc k w0 blk off d (grow (wr.drewN n') os')) := fun n' os' => S1.out.grown n' os'
   have HXI : Hid (d[m]! = xi ∧ d[h]! = xj) := ⟨hxi, hxj⟩
   clear hxi hxj S1
   by_cases hv : cn xi xj < 0
   ·have HV : Hid (cn xi xj < 0) := hv
    have hvd : decide (cn xi xj < 0) = true := decide_eq_true hv
    have hvn : (!decide (cn xi xj < 0)) = false := by rw [hvd]; rfl
    go_wp2_with fail
    go_quiet_grown (first | (go_at_fn g; refine Calls.grown_of (hcg _ _)))
    go_wp2
    go_roundg (h - i)
    case measure => omega
    case rel => exact ⟨i, h, rfl, rfl, hi, by omega, by omega, Nat.le_refl _, SG.out _ _, HA.out, yy204 HO.out.swo HL.out (by omega) (HO.out.yes _ _ (HX.out h m (by omega) (by omega) (Nat.le_refl _) (by omega)) (by rw [HXI.out.1, HXI.out.2]; have := HV.out; omega))⟩
   ·have HV : Hid (¬ cn xi xj < 0) := hv
    have hvd : decide (cn xi xj < 0) = false := decide_eq_false hv
    have hvn : (!decide (cn xi xj < 0)) = true := by rw [hvd]; rfl
    go_wp2_with fail
    go_quiet_grown (first | (go_at_fn g; refine Calls.grown_of (hcg _ _)))
    go_wp2
    go_roundg (j - (h + 1))
    case measure => omega
    case rel => exact ⟨h + 1, j, by first | rfl | simp, rfl, by omega, by omega, hjb, Nat.le_refl _, SG.out _ _, yy545 HO.out.swo HL.out (by omega) (by omega) (HO.out.no _ _ (HX.out h m (by omega) (by omega) (Nat.le_refl _) (by omega)) (by rw [HXI.out.1, HXI.out.2]; have := HV.out; omega)), HB.out⟩
  ·have hltz : ¬ (i : Int) < (j : Int) := by omega
   obtain rfl : i = j := by omega
   obtain ⟨wq, hwq⟩ : ∃ x, x = wr := ⟨_, rfl⟩
   subst hwq
   go_wp2
   go_loopg [17] (m - i) (fun kx s17 wr => ∃ (q : Nat) (dk : Array α), s17 = .int .i64 q ∧ i ≤ q ∧ q ≤ m ∧ q - i ≤ kx ∧ dk.size = d.size ∧ Hid (SWK enc k w0 blk off dk wr) ∧ Hid (RotRes d q m (m + 1) dk) ∧ Hid (PermIn a (m + 1) d dk))
   case atStart => exact ⟨m, d, rfl, by omega, Nat.le_refl _, Nat.le_refl _, rfl, S1, yy540 d m (m + 1), permIn_refl d a (m + 1)⟩
   case round =>
    clear S1
    obtain ⟨q, dk, rfl, hq, hqi, hkx, hds, S1, HRR, HP⟩ := hrel
    by_cases hlt : i < q
    ·have hltz : (i : Int) < (q : Int) := by omega
     obtain ⟨y, hy⟩ : ∃ y, q - 1 = y := ⟨_, rfl⟩
     have ey : (q : Int) - 1 = (y : Int) := by omega
     have eqa : ((q : Int)).toNat = q := by omega
     have eqp : (0 : Int) ≤ (q : Int) := by omega
     have eqb : (q : Int) < (d.size : Int) := by omega
     have eqw : IntKind.i64.wrap ((q : Int)) = (q : Int) := by rw [IntKind.wrap_i64]; omega
     have eya : ((y : Int)).toNat = y := by omega
     have eyp : (0 : Int) ≤ (y : Int) := by omega
     have eyb : (y : Int) < (d.size : Int) := by omega
     have eyw : IntKind.i64.wrap ((y : Int)) = (y : Int) := by rw [IntKind.wrap_i64]; omega
     have S2 : Hid (SWK enc k w0 blk off (swp dk q y) ((wr.drew.setCells blk (off + q * k) (enc dk[y]!)).setCells blk (off + y * k) (enc dk[q]!))) := S1.out.swapped RR.out q y (by omega) (by omega)
     have l44a := S1.out.ld1 RR.out (by omega) P q (by omega)
     have l44b := S1.out.ld1 RR.out (by omega) P y (by omega)
     have s44a := S1.out.st1 RR.out (by omega) P q (by omega) dk[y]!
     have s44b := S1.out.st2 RR.out (by omega) P q y (by omega) (by omega) dk[y]! dk[q]!
     have n44a : (enc dk[q]!).length = k := RR.out.hk _
     have n44b : (enc dk[y]!).length = k := RR.out.hk _
     have hyq : y + 1 = q := by omega
     have HR2 : Hid (RotRes d y m (m + 1) (swp dk q y)) := by
      have := yy700 (d := d) (e := dk) (m := m) (k := y) (by omega) (by omega) (by rw [hyq]; exact HRR.out)
      rwa [hyq] at this
     have HP2 : Hid (PermIn a (m + 1) d (swp dk q y)) := permIn_trans _ _ _ a (m + 1) HP.out (swp_permIn dk a (m + 1) q y (by omega) (by omega) (by omega) (by omega) (by omega))
     have HQ1 : Hid (y + 1 = q) := hyq
     clear hy hyq HRR HP
     generalize enc dk[q]! = cI44 at S2 l44a s44b n44a
     generalize enc dk[y]! = cJ44 at S2 l44b s44a s44b n44b
     clear S1
     go_wp2_with fail
     go_big_region_o
     clear l44a l44b s44a s44b
     generalize (wr.drew.setCells blk (off + q * k) cJ44).setCells blk (off + y * k) cI44 = w2 at S2 ⊢
     go_wp2
     go_roundg (y - i)
     case measure => have := HQ1.out; omega
     case rel => exact ⟨y, swp dk q y, by first | rfl | simp, by have := HQ1.out; omega, by have := HQ1.out; omega, Nat.le_refl _, by rw [swp_size]; exact hds, S2, HR2, HP2⟩
    ·have hltz : ¬ (i : Int) < (q : Int) := by omega
     obtain rfl : i = q := by omega
     go_wp2
     (try simp only [Exit.inBlock, Exit.then])
     refine bodyPost_ret (results_none rfl _ _ _) rfl ?_
     have h2 := H2.out
     subst h2
     exact ⟨rfl, dk, S1.out, HP.out, yy465 HRR.out hi (by omega) HL.out HA.out HB.out⟩
end Go.Proofs.YtjpjdkdbgjipnaaGreatDoor
