/- What is so of the edit of a place: what memory holds of it, its sums; that it is checked. Conditions: a text of at most 300 bytes; a base of at most 1000 where sums are told. (Merged of 7 texts.) -/
import Derived.Test.YtigmgnoiinljpaaKBase
import Derived.Test.YtigmgnoiinljpaaKCells
import Derived.Test.YtigmgnoiinljpaaKOp
import Derived.Test.YtigmgnoiinljpaaKRef
import Derived.Test.YtigmgnoiinljpaaKEdit
import Derived.Test.YtigmgnoiinljpaaKPt
/- The contract of alike.Round. Condition: its second number is positive and no more than 2^62. -/
namespace Go.Proofs.Ytigmgnoiinljpaa
open Go.RowKit Go.Deep

/-- alike.Round. -/
def rnd (k : Int) (n : Nat) : Nat := (k % (n : Int)).toNat
theorem rnd_lt (k : Int) {n : Nat} (h : 0 < n) : rnd k n < n := by
  have h1 := Int.emod_nonneg k (show (n : Int) ≠ 0 by omega)
  have h2 := Int.emod_lt_of_pos k (show (0 : Int) < n by omega)
  unfold rnd
  omega
theorem rnd_cast (k : Int) {n : Nat} (h : 0 < n) : ((rnd k n : Nat) : Int) = k % (n : Int) := by
  have h1 := Int.emod_nonneg k (show (n : Int) ≠ 0 by omega)
  unfold rnd
  omega
theorem tmod_bounds (k : Int) (n : Nat) (h : 0 < n) : -(n : Int) < k.tmod n ∧ k.tmod n < n := by
  have h1 := Int.tmod_lt_of_pos k (show (0 : Int) < n by omega)
  have h2 := Int.lt_tmod_of_pos k (show (0 : Int) < n by omega)
  exact ⟨h2, h1⟩
theorem emod_tmod (k : Int) (n : Nat) (h : 0 < n) : k % (n : Int) = if k.tmod n < 0 then k.tmod n + n else k.tmod n := by
  obtain ⟨h1, h2⟩ := tmod_bounds k n h
  have e : k % (n : Int) = k.tmod n % (n : Int) := by
    conv => lhs; rw [← Int.mul_tdiv_add_tmod k n]
    rw [Int.add_comm, Int.add_mul_emod_self_left]
  rw [e]
  split
  · rw [← Int.add_emod_right, Int.emod_eq_of_lt (by omega) (by omega)]
  · rw [Int.emod_eq_of_lt (by omega) (by omega)]
theorem alikeRound_any (k : Int) (n : Nat) (h0 : 0 < n) (h1 : n ≤ 4611686018427387904) (w : World) :
    Calls Try.prog 20 #[.int .i64 k, .int .i64 (n : Int)] w fun e w' => e = .returned (.int .i64 ((rnd k n : Nat) : Int)) ∧ w = w' := by
  obtain ⟨hb1, hb2⟩ := tmod_bounds k n h0
  have HE := Lib.hid (emod_tmod k n h0)
  have HC := Lib.hid (rnd_cast k h0)
  by_cases hlt : k.tmod n < 0
  all_goals
    go_enter Try.func20, Try.ntmps20
    go_wp2
    go_ret
    first
      | exact ⟨by rw [HC.out, HE.out, if_pos hlt]; rfl, rfl⟩
      | exact ⟨by rw [HC.out, HE.out, if_neg (by omega)]; rfl, rfl⟩

end Go.Proofs.Ytigmgnoiinljpaa

/- The contract of alike.Sum, which the statements lean on. Condition: its numbers are not negative. -/
namespace Go.Proofs.Ytigmgnoiinljpaa
open Go.RowKit Go.Deep

/-! ### Sums that are held at a limit -/
def capSum : Nat → List Nat → Nat
  | n, [] => n
  | n, x :: xs => if 1099511627776 < n + x then 1099511627776 else capSum (n + x) xs
theorem capSum_drop (n : Nat) (xs : List Nat) (k : Nat) (h : k < xs.length) : capSum n (xs.drop k) = if 1099511627776 < n + xs[k] then 1099511627776 else capSum (n + xs[k]) (xs.drop (k + 1)) := by
  rw [List.drop_eq_getElem_cons h]
  rfl
theorem ints_two (w : World) (t : TypeId) (a c : Nat) : ∀ j x : Nat, [a, c][j]? = some x → (w.alloc (.cells #[.int .i64 (a : Int), .int .i64 (c : Int)] t)).cell? ⟨w.heap.size, 0 + j, none⟩ = some (.int .i64 (x : Int)) := by
  intro j x hx
  rw [Nat.zero_add, cell_of_row _ _ _ _ t (0, 0) (heap_alloc_new w _)]
  match j, hx with
  | 0, hx => cases hx; rfl
  | 1, hx => cases hx; rfl
/-- The integers that lie at a place. -/
def NatsAt (w : World) (b off : Nat) (xs : List Nat) : Prop := ∀ j x : Nat, xs[j]? = some x → w.cell? ⟨b, off + j, none⟩ = some (.int .i64 (x : Int))
theorem NatsAt.drew {w : World} {b off : Nat} {xs : List Nat} (h : NatsAt w b off xs) : NatsAt w.drew b off xs := h

set_option maxRecDepth 100000 in
theorem alikeSum_row (n : Nat) (hn : n ≤ 9223372036854775807) (b off cap : Nat) (xs : List Nat) (hl : xs.length ≤ maxLen) (hx : ∀ x ∈ xs, x ≤ 9223372036854775807) (w : World) (hc : NatsAt w b off xs) :
    Calls Try.prog 24 #[.int .i64 (n : Int), .slice (some ⟨b, off, none⟩) xs.length cap] w fun e w' => e = .returned (.int .i64 ((capSum n xs : Nat) : Int)) ∧ w = w' := by
  unfold maxLen at hl
  have HC := Lib.hid hc; clear hc
  have HX := Lib.hid hx; clear hx
  have HN := Lib.hid hn; clear hn
  go_enter Try.func24, Try.ntmps24
  go_wp2
  go_loop [0, 5] (fun t i => ∃ k m : Nat, k ≤ xs.length ∧ i = .int .i64 k ∧ t = .int .i64 (m : Int) ∧ m ≤ 9223372036854775807 ∧ capSum m (xs.drop k) = capSum n xs) (fun _ i => xs.length - (intOf i).toNat)
  case atStart => exact ⟨0, n, Nat.zero_le _, rfl, rfl, HN.out, rfl⟩
  case round =>
    obtain ⟨k, m, hk, rfl, rfl, hm, he⟩ := hrel
    have HE := Lib.hid he; clear he
    by_cases hlt : k < xs.length
    · have hcell := HC.out k _ (List.getElem?_eq_getElem hlt)
      have hxk := HX.out _ (List.getElem_mem hlt)
      have hd := capSum_drop m xs k hlt
      rw [HE.out] at hd
      have HD := Lib.hid hd; clear hd
      obtain ⟨x, HXX⟩ : ∃ x, Hid (xs[k] = x) := ⟨xs[k], Lib.hid rfl⟩
      rw [HXX.out] at hcell hxk HD
      by_cases hb : 1099511627776 < m + x
      · have HR : Hid (capSum n xs = 1099511627776) := by show capSum n xs = 1099511627776; rw [HD.out, if_pos hb]
        by_cases h1 : 1099511627776 < m
        · go_wp2
          go_ret
          exact ⟨by rw [HR.out]; rfl, rfl⟩
        · have h1' : m ≤ 1099511627776 := by omega
          go_wp2
          go_ret
          exact ⟨by rw [HR.out]; rfl, rfl⟩
      · have h1' : m ≤ 1099511627776 := by omega
        have HR : Hid (capSum (m + x) (xs.drop (k + 1)) = capSum n xs) := by show capSum (m + x) (xs.drop (k + 1)) = capSum n xs; rw [HD.out, if_neg hb]
        go_wp2
        go_round
        case rel => exact ⟨k + 1, m + x, by omega, by go_num, by go_num, by omega, HR.out⟩
        case measure => simp [intOf]; omega
    · have HR : Hid (m = capSum n xs) := by
        show m = capSum n xs
        rw [← HE.out, List.drop_eq_nil_of_le (by omega)]
        rfl
      go_wp2
      go_ret
      exact ⟨by rw [← HR.out]; rfl, rfl⟩
end Go.Proofs.Ytigmgnoiinljpaa

/- Weights that are held at a limit. Conditions: as each states. -/
namespace Go.Proofs.Ytigmgnoiinljpaa
open Go.RowKit Go.Deep

/-- Weights of many, each made of some numbers; beyond the limit it is not counted on. -/
def wts (limit : Nat) : Nat → List (List Nat) → Nat
  | n, [] => n
  | n, x :: L => if n ≤ limit then wts limit (capSum n x) L else n
theorem wts_nil (limit n : Nat) : wts limit n [] = n := rfl
theorem wts_drop (limit n : Nat) (L : List (List Nat)) (k : Nat) (h : k < L.length) : wts limit n (L.drop k) = if n ≤ limit then wts limit (capSum n L[k]) (L.drop (k + 1)) else n := by
  rw [List.drop_eq_getElem_cons h]
  rfl
theorem capSum_held (xs : List Nat) : ∀ n, n ≤ 1099511627776 → capSum n xs ≤ 1099511627776 := by
  induction xs with
  | nil => intro n hn; exact hn
  | cons x xs ih =>
    intro n hn
    rw [capSum]
    split
    · exact Nat.le_refl _
    · exact ih _ (by omega)
theorem capSum_sum (xs : List Nat) : ∀ n, capSum n xs < 1099511627776 → capSum n xs = n + xs.sum := by
  induction xs with
  | nil => intro n _; rfl
  | cons x xs ih =>
    intro n h
    rw [capSum] at h ⊢
    split at h
    · omega
    · rename_i h1
      rw [if_neg h1, ih _ h, List.sum_cons]
      omega
theorem wts_spec (limit : Nat) (hl : limit < 1099511627776) (L : List (List Nat)) : ∀ n, wts limit n L ≤ limit → wts limit n L = n + (L.map List.sum).sum := by
  induction L with
  | nil => intro n _; rfl
  | cons x L ih =>
    intro n h
    have e : wts limit n (x :: L) = if n ≤ limit then wts limit (capSum n x) L else n := rfl
    rw [e] at h ⊢
    split at h
    · rename_i hn
      rw [if_pos hn]
      have h1 := ih _ h
      have h2 := capSum_sum x n (by omega)
      rw [h1, h2, List.map_cons, List.sum_cons]
      omega
    · omega
theorem wts_held (limit : Nat) (L : List (List Nat)) : ∀ n, n ≤ 1099511627776 → wts limit n L ≤ 1099511627776 := by
  induction L with
  | nil => intro n hn; exact hn
  | cons x L ih =>
    intro n hn
    show (if n ≤ limit then wts limit (capSum n x) L else n) ≤ 1099511627776
    split
    · exact ih _ (capSum_held x n hn)
    · exact hn
attribute [irreducible] wts

theorem nats_lit (w : World) (t : TypeId) (cs : Array Value) (xs : List Nat) (h : ∀ j x : Nat, xs[j]? = some x → cs[j]? = some (.int .i64 (x : Int))) (g : Nat) (hg : g = w.heap.size) : NatsAt (w.alloc (.cells cs t)) g 0 xs := by
  subst hg
  intro j x hx
  rw [Nat.zero_add, cell_of_row _ _ _ _ t (0, 0) (heap_alloc_new w _)]
  exact h j x hx

end Go.Proofs.Ytigmgnoiinljpaa

/- The contract of alike.Comps: called with any edit it answers its weight, held at a limit; what was there stays as it was. Condition: no slice and no text is longer than memory. -/
namespace Go.Proofs.Ytigmgnoiinljpaa
open Go.RowKit Go.Deep

def compTerms (c : CompV) : List Nat := [c.text.length, 2]
def compsWeight (limit : Nat) (l : List CompV) : Nat := wts limit 0 (l.map compTerms)

set_option maxRecDepth 100000 in
theorem alikeComps_row (limit : Nat) (b off cap : Nat) (l : List CompV) (hl : l.length ≤ maxLen) (hg : ∀ y ∈ l, y.Good) (w : World) (hc : CompsAt w (some ⟨b, off, none⟩) l) :
    Calls Try.prog 14 #[.slice (some ⟨b, off, none⟩) l.length cap, .int .i64 (limit : Int)] w fun e w' => e = .returned (.int .i64 ((compsWeight limit l : Nat) : Int)) ∧ Below w.heap.size w w' := by
  unfold maxLen at hl
  have HC := Lib.hid hc; clear hc
  have HG := Lib.hid hg; clear hg
  obtain ⟨T, HT⟩ : ∃ T, Hid (compsWeight limit l = T) := ⟨_, rfl⟩
  rw [HT.out]
  go_enter Try.func14, Try.ntmps14
  go_wp2
  go_loopw [5, 6] (fun t i wr => ∃ k m : Nat, k ≤ l.length ∧ i = .int .i64 k ∧ t = .int .i64 (m : Int) ∧ m ≤ 1099511627776 ∧ wts limit m ((l.map compTerms).drop k) = T ∧ Below w.heap.size w wr) (fun _ i _ => l.length - (intOf i).toNat)
  case atStart => exact ⟨0, 0, Nat.zero_le _, rfl, rfl, by omega, HT.out, Below.refl _ _⟩
  case round =>
    obtain ⟨k, m, hk, rfl, rfl, hm, he, hbel⟩ := hrel
    have HE := Lib.hid he; clear he
    have HB := Lib.hid hbel; clear hbel
    by_cases hlt : k < l.length
    · have HW := Lib.hid (HE.out ▸ wts_drop limit m (l.map compTerms) k (by simpa using hlt) : T = _)
      have HX : Hid ((l.map compTerms)[k]'(by simpa using hlt) = [l[k].text.length, 2]) := by show _ = _; rw [List.getElem_map]; rfl
      by_cases hml : m ≤ limit
      · have hcell := ((HC.out.below HB.out).at_ hlt).2.2
        have hxl := (HG.out _ (List.getElem_mem hlt)).2.2.2
        unfold maxLen at hxl
        have hsz := bstr_size l[k].text
        obtain ⟨S, HS0⟩ : ∃ S, Hid (bstr l[k].text = S) := ⟨bstr l[k].text, Lib.hid rfl⟩
        obtain ⟨a, HA⟩ : ∃ a, Hid (l[k].text.length = a) := ⟨l[k].text.length, Lib.hid rfl⟩
        rw [HS0.out] at hcell hsz
        rw [HA.out] at hsz hxl HX
        have HR : Hid (wts limit (capSum m [a, 2]) ((l.map compTerms).drop (k + 1)) = T) := by show _ = _; rw [HW.out, if_pos hml, HX.out]
        obtain ⟨r, HRR⟩ : ∃ r, Hid (capSum m [a, 2] = r) := ⟨_, rfl⟩
        have hr : r ≤ 1099511627776 := by rw [← HRR.out]; exact capSum_held _ m hm
        rw [HRR.out] at HR
        have HS := Lib.hid (fun g hg' => alikeSum_row m (by omega) g 0 2 [a, 2] (by simp [maxLen]) (by simp; omega) _ (nats_lit wr 3 #[.int .i64 (a : Int), .int .i64 2] [a, 2] (fun j x hx => by
          match j, hx with
          | 0, hx => cases hx; rfl
          | 1, hx => cases hx; rfl) g hg'))
        rw [HRR.out] at HS
        clear HW HRR
        go_wp2_with (go_at_call 24; refine (HS.out _ rfl).mono ?_; rintro e w' ⟨rfl, rfl⟩)
        go_roundw
        case rel => exact ⟨k + 1, r, by omega, by go_num, rfl, hr, HR.out, HB.out.alloc HB.out.size _⟩
        case measure => simp [intOf]; omega
      · have HR : Hid (m = T) := by show _ = _; rw [HW.out, if_neg hml]
        have hml' : limit < m := by omega
        go_wp2
        go_ret
        exact ⟨by rw [← HR.out]; rfl, HB.out⟩
    · have HR : Hid (m = T) := by
        show m = T
        rw [← HE.out, List.drop_eq_nil_of_le (by simp; omega), wts_nil]
      go_wp2
      go_ret
      exact ⟨by rw [← HR.out]; rfl, HB.out⟩
theorem alikeComps_nil (limit : Nat) (A : Option Addr) (cap : Nat) (w : World) :
    Calls Try.prog 14 #[.slice A 0 cap, .int .i64 (limit : Int)] w fun e w' => e = .returned (.int .i64 ((compsWeight limit [] : Nat) : Int)) ∧ Below w.heap.size w w' := by
  have HR : Hid (0 = compsWeight limit []) := by show 0 = compsWeight limit []; rw [compsWeight, List.map_nil, wts_nil]
  go_enter Try.func14, Try.ntmps14
  go_wp2
  refine wp_loop_rounds 1 ?_
  rw [rounds_succ]
  go_wp2
  go_ret
  exact ⟨by rw [← HR.out]; rfl, Below.refl _ _⟩
theorem alikeComps_at {A : Option Addr} {l : List CompV} (limit : Nat) (cap : Nat) (hl : l.length ≤ maxLen) (hg : ∀ y ∈ l, y.Good) (w : World) (h : CompsAt w A l) :
    Calls Try.prog 14 #[.slice A l.length cap, .int .i64 (limit : Int)] w fun e w' => e = .returned (.int .i64 ((compsWeight limit l : Nat) : Int)) ∧ Below w.heap.size w w' := by
  cases l with
  | nil => exact alikeComps_nil limit A cap w
  | cons c l =>
    obtain ⟨b, off, rfl, _⟩ := h.form (by simp)
    exact alikeComps_row limit b off cap _ hl hg w h
end Go.Proofs.Ytigmgnoiinljpaa

/- What the statements' own awakes lean on: guards, rows just laid, small edits. No condition. -/
namespace Go.Proofs.Ytigmgnoiinljpaa
open Go.RowKit Go.Deep

/-- What the guards of the statements say of an edit. -/
theorem weight_spec (lim : Nat) (hlim : lim < 1099511627776) (l : List CompV) (h : compsWeight lim l ≤ lim) : 2 * l.length + tlen l ≤ lim := by
  have e := wts_spec lim hlim (l.map compTerms) 0 h
  have e2 : ∀ l : List CompV, ((l.map compTerms).map List.sum).sum = 2 * l.length + tlen l := by
    intro l
    induction l with
    | nil => rfl
    | cons c l ih =>
      have h1 : tlen (c :: l) = c.text.length + tlen l := by simp [tlen]
      rw [List.map_cons, List.map_cons, List.sum_cons, ih, h1, List.length_cons]
      simp only [compTerms, List.sum_cons, List.sum_nil]
      omega
  rw [e2] at e
  have : compsWeight lim l = 0 + (2 * l.length + tlen l) := e
  omega
theorem fine_of {l : List CompV} (hg : ∀ y ∈ l, y.Good) (ht : tlen l ≤ 1099511627776) : Fine1 l := fun y hy => ⟨hg y hy, Nat.le_trans (tlen_mem hy) ht⟩

theorem good_of (k n : Int) (t : List Nat) (hk : 0 ≤ k ∧ k ≤ 9) (hn : 0 ≤ n ∧ n ≤ 1099511627776) (ht : (∀ x ∈ t, x < 256) ∧ t.length ≤ 1099511627776) : (CompV.mk k n t).Good :=
  ⟨by unfold Fit64; show _ ≤ k ∧ k ≤ _; omega, by unfold Fit64; show _ ≤ n ∧ n ≤ _; omega, ht.1, by have := ht.2; unfold maxLen; show t.length ≤ _; omega⟩
theorem V_one (x : Nat) (h : 0 < x ∧ x < 128) : V [x] [x] := by
  refine ⟨?_, ?_⟩
  · intro v hv; simp at hv; subst hv; unfold May; omega
  · rw [E_cons, E_nil]
    have e : enc x = [x] := by
      unfold enc
      rw [if_pos h.2]
    rw [e]; rfl
theorem nrm_nil : Nrm [] := fun i c h => by simp at h
/-- The parts of a normal edit, one by one. -/
theorem nrm_cons {c : CompV} {l : List CompV} (hc : Whole c) (hl : Nrm l) (hd : ∀ d, l[0]? = some d → d.kind ≠ c.kind ∧ ¬ (c.kind = 3 ∧ d.kind = 2)) : Nrm (c :: l) := by
  intro i d h
  cases i with
  | zero =>
    simp at h
    subst h
    refine ⟨?_, fun p h0 => by omega⟩
    rcases hc with h | ⟨h1, h2, h3, h4⟩
    · exact .inl h
    · exact .inr ⟨h1, h2, h3, h4, fun p h0 => by omega⟩
  | succ i =>
    have h' : l[i]? = some d := by simpa using h
    have hn := hl i d h'
    have hpre : ∀ p, (c :: l)[i + 1 - 1]? = some p → (i = 0 ∧ p = c) ∨ (0 < i ∧ l[i - 1]? = some p) := fun p hp => by
      rw [Nat.add_sub_cancel] at hp
      cases i with
      | zero => simp at hp; exact .inl ⟨rfl, hp.symm⟩
      | succ j => exact .inr ⟨by omega, by simpa using hp⟩
    refine ⟨?_, fun p _ hp => ?_⟩
    · rcases hn.1 with h1 | ⟨h1, h2, h3, h4, h5⟩
      · exact .inl h1
      · refine .inr ⟨h1, h2, h3, h4, fun p _ hp => ?_⟩
        rcases hpre p hp with ⟨rfl, rfl⟩ | ⟨h0, hp'⟩
        · exact fun e => (hd d h').2 ⟨e, h1⟩
        · exact h5 p h0 hp'
    · rcases hpre p hp with ⟨rfl, rfl⟩ | ⟨h0, hp'⟩
      · exact fun e => (hd d h').1 e.symm
      · exact hn.2 p h0 hp'
/-- A row of one part. -/
theorem row_one (w : World) (g : Nat) (hg : g = w.heap.size) (k n : Int) (t : List Nat) : CompsAt (w.alloc (.cells #[.int .i64 k, .int .i64 n, .string (bstr t)] 49)) (some ⟨g, 0, none⟩) [⟨k, n, t⟩] :=
  CellsAt.lit (fun j v hj => by
    match j, hj with
    | 0, hj => cases hj; rfl
    | 1, hj => cases hj; rfl
    | 2, hj => cases hj; rfl) hg
theorem row_two (w : World) (g : Nat) (hg : g = w.heap.size) (k n : Int) (t : List Nat) (k' n' : Int) (t' : List Nat) :
    CompsAt (w.alloc (.cells #[.int .i64 k, .int .i64 n, .string (bstr t), .int .i64 k', .int .i64 n', .string (bstr t')] 49)) (some ⟨g, 0, none⟩) [⟨k, n, t⟩, ⟨k', n', t'⟩] :=
  CellsAt.lit (fun j v hj => by
    match j, hj with
    | 0, hj => cases hj; rfl
    | 1, hj => cases hj; rfl
    | 2, hj => cases hj; rfl
    | 3, hj => cases hj; rfl
    | 4, hj => cases hj; rfl
    | 5, hj => cases hj; rfl) hg

theorem hld_small {a b : Int} (h1 : 0 ≤ a) (h2 : 0 ≤ b) (h3 : a + b ≤ 1099511627776) : hld a b = a + b := by unfold hld; omega
theorem hld01 : hld 0 1 = 1 := hld_small (by omega) (by omega) (by omega)
theorem hld11 : hld 1 1 = 2 := hld_small (by omega) (by omega) (by omega)
theorem hld21 : hld 2 1 = 3 := hld_small (by omega) (by omega) (by omega)
theorem aw_norm : rNormal [⟨3, 1, []⟩, ⟨2, 0, [97]⟩] = [⟨2, 0, [97]⟩, ⟨3, 1, []⟩] := by simp [rNormal, nRun, nStep, nStart, NS.flush, keepOf, textOf, goneOf, hld01]
theorem aw_of : rNormal (ofParts 3 1 2 [120]) = [⟨1, 1, []⟩, ⟨2, 0, [120]⟩, ⟨3, 1, []⟩, ⟨1, 1, []⟩] := by simp [rNormal, ofParts, nRun, nStep, nStart, NS.flush, keepOf, textOf, goneOf, hld01]
theorem aw_one : loose [97] = 1 := (V_one 97 (by omega)).loose
theorem aw_one' : loose [120] = 1 := (V_one 120 (by omega)).loose
theorem aw_base : rBase [⟨1, 1, []⟩, ⟨2, 0, [120]⟩, ⟨3, 1, []⟩, ⟨1, 1, []⟩] = 3 := by simp [rBase, baseStep, hld01, hld11, hld21]
theorem aw_out : rOut [⟨1, 1, []⟩, ⟨2, 0, [120]⟩, ⟨3, 1, []⟩, ⟨1, 1, []⟩] = 3 := by simp [rOut, outStep, hld01, hld11, hld21, aw_one']
theorem aw_check : rCheck [⟨2, 0, [97]⟩, ⟨3, 1, []⟩] = 0 := by
  have h1 : Nrm [⟨2, 0, [97]⟩, ⟨3, 1, []⟩] := nrm_cons (.inr ⟨rfl, rfl, by simp, _, V_one 97 (by omega)⟩) (nrm_cons (.inl ⟨.inr rfl, by show (1 : Int) ≤ 1; omega, rfl⟩) nrm_nil (fun d h => by simp at h)) (fun d h => by simp at h; subst h; simp)
  have h2 : rBase [⟨2, 0, [97]⟩, ⟨3, 1, []⟩] = 1 := by simp [rBase, baseStep, hld01]
  have h3 : rOut [⟨2, 0, [97]⟩, ⟨3, 1, []⟩] = 1 := by simp [rOut, outStep, hld01, aw_one]
  rw [rCheck, nrmB_yes h1, h2, h3]
  simp
theorem aw_bad : rCheck [⟨9, 0, []⟩] = 1 := by
  have h1 : ¬ Nrm [⟨9, 0, []⟩] := fun h => by
    rcases (h 0 _ rfl).1 with ⟨h, _⟩ | ⟨h, _⟩
    · rcases h with h | h <;> simp at h
    · simp at h
  rw [rCheck, nrmB_no h1]
  simp
end Go.Proofs.Ytigmgnoiinljpaa

/- Calls of the laws of edits that most need, each told by a function. Conditions: what memory may hold. -/
namespace Go.Proofs.Ytigmgnoiinljpaa
open Go.RowKit Go.Deep

theorem kCheck {l : List CompV} {q : Nat} (h : rCheck l = q) (hl : Held1 l) (A : Option Addr) (c : Nat) (w : World) (hA : CompsC w A c l) :
    Calls Try.prog 25 #[.slice A l.length c] w fun e w' => e = .returned (.int .i64 (q : Int)) ∧ Below w.heap.size w w' := by
  have := opCheck_any A c l hl.max hl.fine w hA.1
  rw [h] at this
  exact this
theorem kBase {l : List CompV} {n : Int} (h : rBase l = n) (hl : Held1 l) (A : Option Addr) (c : Nat) (w : World) (hA : CompsC w A c l) :
    Calls Try.prog 22 #[.slice A l.length c] w fun e w' => e = .returned (.int .i64 n) ∧ Below w.heap.size w w' := by
  have := opBase_any A c l hl.max w hA.1
  rw [h] at this
  exact this
theorem alikeComps_c {A : Option Addr} {l : List CompV} (limit : Nat) (cap : Nat) (hl : l.length ≤ maxLen) (hg : ∀ y ∈ l, y.Good) (w : World) (h : CompsC w A cap l) :
    Calls Try.prog 14 #[.slice A l.length cap, .int .i64 (limit : Int)] w fun e w' => e = .returned (.int .i64 (compsWeight limit l : Int)) ∧ Below w.heap.size w w' := alikeComps_at limit cap hl hg w h.1
end Go.Proofs.Ytigmgnoiinljpaa

/- What is so of the edit of a place: what memory holds of it, its sums; that it is checked. Conditions: a text of at most 300 bytes; a base of at most 1000 where sums are told. -/
namespace Go.Proofs.Ytigmgnoiinljpaa
open Go.RowKit Go.Deep

/-- What is so of an edit of a place. -/
structure OfFacts (base fr to : Int) (t : List Nat) (k : Nat) : Prop where
  good : ∀ y ∈ rNormal (ofParts base fr to t), y.Good
  len : (rNormal (ofParts base fr to t)).length ≤ 15
  fine : Fine1 (rNormal (ofParts base fr to t))
theorem of_texts (base fr to : Int) (t : List Nat) : tlen (ofParts base fr to t) = t.length := by
  show ([] ++ (t ++ ([] ++ ([] ++ []))) : List Nat).length = _
  simp
theorem of_good {base fr to : Int} {t : List Nat} (hbase : base ≤ 9223372036854775807) (h : ¬ OfNo base fr to t) (hb : ∀ x ∈ t, x < 256) (hl : t.length ≤ 300) : ∀ y ∈ ofParts base fr to t, y.Good := by
  have h1 : 0 ≤ fr := Classical.byContradiction fun e => h (.inl (by omega))
  have h2 : fr ≤ to := Classical.byContradiction fun e => h (.inr (.inl (by omega)))
  have h3 : to ≤ base := Classical.byContradiction fun e => h (.inr (.inr (.inl (by omega))))
  intro y hy
  have h64 : ∀ n : Int, 0 ≤ n → n ≤ base → Fit64 n := fun n h0 h1 => by unfold Fit64; omega
  rcases List.mem_cons.1 hy with rfl | hy
  · exact ⟨by unfold Fit64; simp, h64 _ (by show 0 ≤ fr; omega) (by show fr ≤ base; omega), by unfold Bytes; simp⟩
  rcases List.mem_cons.1 hy with rfl | hy
  · exact ⟨by unfold Fit64; simp, by unfold Fit64; simp, hb, (by show t.length ≤ _; unfold maxLen; omega)⟩
  rcases List.mem_cons.1 hy with rfl | hy
  · exact ⟨by unfold Fit64; simp, h64 _ (by show 0 ≤ to - fr; omega) (by show to - fr ≤ base; omega), by unfold Bytes; simp⟩
  rcases List.mem_cons.1 hy with rfl | hy
  · exact ⟨by unfold Fit64; simp, h64 _ (by show 0 ≤ base - to; omega) (by show base - to ≤ base; omega), by unfold Bytes; simp⟩
  · cases hy
theorem of_facts {base fr to : Int} {t : List Nat} (hbase : base ≤ 9223372036854775807) (h : ¬ OfNo base fr to t) (hb : ∀ x ∈ t, x < 256) (hl : t.length ≤ 300) : OfFacts base fr to t 0 := by
  have hg := norm_good _ (of_good hbase h hb hl) (by rw [of_texts]; omega)
  have hn := norm_len (ofParts base fr to t)
  have ht := tlen_norm (ofParts base fr to t)
  rw [of_texts] at ht
  exact ⟨hg, hn, fine_of hg (by omega)⟩
theorem of_sums {base fr to : Int} {t vs : List Nat} (hv : V t vs) (h1 : 0 ≤ fr) (h2 : fr ≤ to) (h3 : to ≤ base) (h4 : base ≤ 1000) (hl : t.length ≤ 300) :
    rBase (rNormal (ofParts base fr to t)) = base ∧ rOut (rNormal (ofParts base fr to t)) = base - (to - fr) + (vs.length : Int) ∧ rCheck (rNormal (ofParts base fr to t)) = 0 := by
  have hN : sumN (ofParts base fr to t) = base := by
    show max fr 0 + (max 0 0 + (max (to - fr) 0 + (max (base - to) 0 + 0))) = base
    omega
  have hB : sumB (ofParts base fr to t) = base := by
    show bOf ⟨1, fr, []⟩ + (bOf ⟨2, 0, t⟩ + (bOf ⟨3, to - fr, []⟩ + (bOf ⟨1, base - to, []⟩ + 0))) = base
    rw [bOf, if_pos (.inl rfl), bOf, if_neg (by simp), bOf, if_pos (.inr rfl), bOf, if_pos (.inl rfl)]
    simp only
    omega
  have hU : sumU (ofParts base fr to t) = base - (to - fr) + (vs.length : Int) := by
    show uOf ⟨1, fr, []⟩ + (uOf ⟨2, 0, t⟩ + (uOf ⟨3, to - fr, []⟩ + (uOf ⟨1, base - to, []⟩ + 0))) = _
    rw [uOf, if_pos rfl, uOf, if_neg (by simp), if_pos rfl, uOf, if_neg (by simp), if_neg (by simp), uOf, if_pos rfl, hv.loose]
    simp only
    omega
  have hle := hv.length_le
  have hA : AllV (ofParts base fr to t) := by
    intro y hy
    rcases List.mem_cons.1 hy with rfl | hy
    · exact ⟨[], V.nil⟩
    rcases List.mem_cons.1 hy with rfl | hy
    · exact ⟨vs, hv⟩
    rcases List.mem_cons.1 hy with rfl | hy
    · exact ⟨[], V.nil⟩
    rcases List.mem_cons.1 hy with rfl | hy
    · exact ⟨[], V.nil⟩
    · cases hy
  have e1 := norm_base (ofParts base fr to t) (by rw [hN]; omega)
  have e2 := norm_out (ofParts base fr to t) hA (by rw [hN, of_texts]; omega)
  rw [base_min (ofParts base fr to t), hB] at e1
  rw [out_min (ofParts base fr to t), hU] at e2
  have hn := norm_len (ofParts base fr to t)
  have hn2 : (ofParts base fr to t).length = 4 := rfl
  refine ⟨by omega, by omega, norm_check _ hA (by omega) (by omega) (by omega)⟩
end Go.Proofs.Ytigmgnoiinljpaa
