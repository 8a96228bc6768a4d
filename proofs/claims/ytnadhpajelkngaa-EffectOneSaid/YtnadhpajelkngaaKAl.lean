/- The contract of alike.Acts: called with any acts it answers their weight, held at a limit; what was there stays as it was. Condition: no slice and no text is longer than memory. (Merged of 6 texts.) -/
import Derived.Test.YtnadhpajelkngaaKBase
import Derived.Test.YtnadhpajelkngaaKCells
import Derived.Test.YtnadhpajelkngaaKOp
import Derived.Test.YtnadhpajelkngaaKRef
/- The contract of alike.Round. Condition: its second number is positive and no more than 2^62. -/
namespace Go.Proofs.Ytnadhpajelkngaa
open Go.RowKit Go.Deep

/-- alike.Round. -/
def rnd (k : Int) (n : Nat) : Nat := (k % (n : Int)).toNat
theorem rnd_lt (k : Int) {n : Nat} (h : 0 < n) : rnd k n < n := by
  have h1 := Int.emod_nonneg k (show (n : Int) ≠ 0 by omega)
  have h2 := Int.emod_lt_of_pos k (show (0 : Int) < n by omega)
  unfold rnd
  omega
theorem rnd_cast (k : Int) {n : Nat} (h : 0 < n) : ((rnd k n : Nat) : Int) = k % (n : Int) := by
  have h1 := Int.emod_nonneg k (show (n : Int) ≠ 0 by omega)
  unfold rnd
  omega
theorem tmod_bounds (k : Int) (n : Nat) (h : 0 < n) : -(n : Int) < k.tmod n ∧ k.tmod n < n := by
  have h1 := Int.tmod_lt_of_pos k (show (0 : Int) < n by omega)
  have h2 := Int.lt_tmod_of_pos k (show (0 : Int) < n by omega)
  exact ⟨h2, h1⟩
theorem emod_tmod (k : Int) (n : Nat) (h : 0 < n) : k % (n : Int) = if k.tmod n < 0 then k.tmod n + n else k.tmod n := by
  obtain ⟨h1, h2⟩ := tmod_bounds k n h
  have e : k % (n : Int) = k.tmod n % (n : Int) := by
    conv => lhs; rw [← Int.mul_tdiv_add_tmod k n]
    rw [Int.add_comm, Int.add_mul_emod_self_left]
  rw [e]
  split
  · rw [← Int.add_emod_right, Int.emod_eq_of_lt (by omega) (by omega)]
  · rw [Int.emod_eq_of_lt (by omega) (by omega)]
end Go.Proofs.Ytnadhpajelkngaa

/- The contract of alike.Sum, which the statements lean on. Condition: its numbers are not negative. -/
namespace Go.Proofs.Ytnadhpajelkngaa
open Go.RowKit Go.Deep

/-! ### Sums that are held at a limit -/
def capSum : Nat → List Nat → Nat
  | n, [] => n
  | n, x :: xs => if 1099511627776 < n + x then 1099511627776 else capSum (n + x) xs
theorem capSum_drop (n : Nat) (xs : List Nat) (k : Nat) (h : k < xs.length) : capSum n (xs.drop k) = if 1099511627776 < n + xs[k] then 1099511627776 else capSum (n + xs[k]) (xs.drop (k + 1)) := by
  rw [List.drop_eq_getElem_cons h]
  rfl
theorem ints_two (w : World) (t : TypeId) (a c : Nat) : ∀ j x : Nat, [a, c][j]? = some x → (w.alloc (.cells #[.int .i64 (a : Int), .int .i64 (c : Int)] t)).cell? ⟨w.heap.size, 0 + j, none⟩ = some (.int .i64 (x : Int)) := by
  intro j x hx
  rw [Nat.zero_add, cell_of_row _ _ _ _ t (0, 0) (heap_alloc_new w _)]
  match j, hx with
  | 0, hx => cases hx; rfl
  | 1, hx => cases hx; rfl
/-- The integers that lie at a place. -/
def NatsAt (w : World) (b off : Nat) (xs : List Nat) : Prop := ∀ j x : Nat, xs[j]? = some x → w.cell? ⟨b, off + j, none⟩ = some (.int .i64 (x : Int))
theorem NatsAt.drew {w : World} {b off : Nat} {xs : List Nat} (h : NatsAt w b off xs) : NatsAt w.drew b off xs := h

set_option maxRecDepth 100000 in
theorem alikeSum_row (n : Nat) (hn : n ≤ 9223372036854775807) (b off cap : Nat) (xs : List Nat) (hl : xs.length ≤ maxLen) (hx : ∀ x ∈ xs, x ≤ 9223372036854775807) (w : World) (hc : NatsAt w b off xs) :
    Calls Try.prog 21 #[.int .i64 (n : Int), .slice (some ⟨b, off, none⟩) xs.length cap] w fun e w' => e = .returned (.int .i64 ((capSum n xs : Nat) : Int)) ∧ w = w' := by
  unfold maxLen at hl
  have HC := Lib.hid hc; clear hc
  have HX := Lib.hid hx; clear hx
  have HN := Lib.hid hn; clear hn
  go_enter Try.func21, Try.ntmps21
  go_wp2
  go_loop [0, 5] (fun t i => ∃ k m : Nat, k ≤ xs.length ∧ i = .int .i64 k ∧ t = .int .i64 (m : Int) ∧ m ≤ 9223372036854775807 ∧ capSum m (xs.drop k) = capSum n xs) (fun _ i => xs.length - (intOf i).toNat)
  case atStart => exact ⟨0, n, Nat.zero_le _, rfl, rfl, HN.out, rfl⟩
  case round =>
    obtain ⟨k, m, hk, rfl, rfl, hm, he⟩ := hrel
    have HE := Lib.hid he; clear he
    by_cases hlt : k < xs.length
    · have hcell := HC.out k _ (List.getElem?_eq_getElem hlt)
      have hxk := HX.out _ (List.getElem_mem hlt)
      have hd := capSum_drop m xs k hlt
      rw [HE.out] at hd
      have HD := Lib.hid hd; clear hd
      obtain ⟨x, HXX⟩ : ∃ x, Hid (xs[k] = x) := ⟨xs[k], Lib.hid rfl⟩
      rw [HXX.out] at hcell hxk HD
      by_cases hb : 1099511627776 < m + x
      · have HR : Hid (capSum n xs = 1099511627776) := by show capSum n xs = 1099511627776; rw [HD.out, if_pos hb]
        by_cases h1 : 1099511627776 < m
        · go_wp2
          go_ret
          exact ⟨by rw [HR.out]; rfl, rfl⟩
        · have h1' : m ≤ 1099511627776 := by omega
          go_wp2
          go_ret
          exact ⟨by rw [HR.out]; rfl, rfl⟩
      · have h1' : m ≤ 1099511627776 := by omega
        have HR : Hid (capSum (m + x) (xs.drop (k + 1)) = capSum n xs) := by show capSum (m + x) (xs.drop (k + 1)) = capSum n xs; rw [HD.out, if_neg hb]
        go_wp2
        go_round
        case rel => exact ⟨k + 1, m + x, by omega, by go_num, by go_num, by omega, HR.out⟩
        case measure => simp [intOf]; omega
    · have HR : Hid (m = capSum n xs) := by
        show m = capSum n xs
        rw [← HE.out, List.drop_eq_nil_of_le (by omega)]
        rfl
      go_wp2
      go_ret
      exact ⟨by rw [← HR.out]; rfl, rfl⟩
end Go.Proofs.Ytnadhpajelkngaa

/- Weights that are held at a limit. Conditions: as each states. -/
namespace Go.Proofs.Ytnadhpajelkngaa
open Go.RowKit Go.Deep

/-- Weights of many, each made of some numbers; beyond the limit it is not counted on. -/
def wts (limit : Nat) : Nat → List (List Nat) → Nat
  | n, [] => n
  | n, x :: L => if n ≤ limit then wts limit (capSum n x) L else n
theorem wts_nil (limit n : Nat) : wts limit n [] = n := rfl
theorem wts_drop (limit n : Nat) (L : List (List Nat)) (k : Nat) (h : k < L.length) : wts limit n (L.drop k) = if n ≤ limit then wts limit (capSum n L[k]) (L.drop (k + 1)) else n := by
  rw [List.drop_eq_getElem_cons h]
  rfl
theorem capSum_held (xs : List Nat) : ∀ n, n ≤ 1099511627776 → capSum n xs ≤ 1099511627776 := by
  induction xs with
  | nil => intro n hn; exact hn
  | cons x xs ih =>
    intro n hn
    rw [capSum]
    split
    · exact Nat.le_refl _
    · exact ih _ (by omega)
theorem capSum_sum (xs : List Nat) : ∀ n, capSum n xs < 1099511627776 → capSum n xs = n + xs.sum := by
  induction xs with
  | nil => intro n _; rfl
  | cons x xs ih =>
    intro n h
    rw [capSum] at h ⊢
    split at h
    · omega
    · rename_i h1
      rw [if_neg h1, ih _ h, List.sum_cons]
      omega
theorem wts_spec (limit : Nat) (hl : limit < 1099511627776) (L : List (List Nat)) : ∀ n, wts limit n L ≤ limit → wts limit n L = n + (L.map List.sum).sum := by
  induction L with
  | nil => intro n _; rfl
  | cons x L ih =>
    intro n h
    have e : wts limit n (x :: L) = if n ≤ limit then wts limit (capSum n x) L else n := rfl
    rw [e] at h ⊢
    split at h
    · rename_i hn
      rw [if_pos hn]
      have h1 := ih _ h
      have h2 := capSum_sum x n (by omega)
      rw [h1, h2, List.map_cons, List.sum_cons]
      omega
    · omega
theorem wts_held (limit : Nat) (L : List (List Nat)) : ∀ n, n ≤ 1099511627776 → wts limit n L ≤ 1099511627776 := by
  induction L with
  | nil => intro n hn; exact hn
  | cons x L ih =>
    intro n hn
    show (if n ≤ limit then wts limit (capSum n x) L else n) ≤ 1099511627776
    split
    · exact ih _ (capSum_held x n hn)
    · exact hn
attribute [irreducible] wts

theorem nats_lit (w : World) (t : TypeId) (cs : Array Value) (xs : List Nat) (h : ∀ j x : Nat, xs[j]? = some x → cs[j]? = some (.int .i64 (x : Int))) (g : Nat) (hg : g = w.heap.size) : NatsAt (w.alloc (.cells cs t)) g 0 xs := by
  subst hg
  intro j x hx
  rw [Nat.zero_add, cell_of_row _ _ _ _ t (0, 0) (heap_alloc_new w _)]
  exact h j x hx

end Go.Proofs.Ytnadhpajelkngaa

/- The contract of alike.Comps: called with any edit it answers its weight, held at a limit; what was there stays as it was. Condition: no slice and no text is longer than memory. -/
namespace Go.Proofs.Ytnadhpajelkngaa
open Go.RowKit Go.Deep

def compTerms (c : CompV) : List Nat := [c.text.length, 2]
def compsWeight (limit : Nat) (l : List CompV) : Nat := wts limit 0 (l.map compTerms)

set_option maxRecDepth 100000 in
theorem alikeComps_row (limit : Nat) (b off cap : Nat) (l : List CompV) (hl : l.length ≤ maxLen) (hg : ∀ y ∈ l, y.Good) (w : World) (hc : CompsAt w (some ⟨b, off, none⟩) l) :
    Calls Try.prog 6 #[.slice (some ⟨b, off, none⟩) l.length cap, .int .i64 (limit : Int)] w fun e w' => e = .returned (.int .i64 ((compsWeight limit l : Nat) : Int)) ∧ Below w.heap.size w w' := by
  unfold maxLen at hl
  have HC := Lib.hid hc; clear hc
  have HG := Lib.hid hg; clear hg
  obtain ⟨T, HT⟩ : ∃ T, Hid (compsWeight limit l = T) := ⟨_, rfl⟩
  rw [HT.out]
  go_enter Try.func6, Try.ntmps6
  go_wp2
  go_loopw [5, 6] (fun t i wr => ∃ k m : Nat, k ≤ l.length ∧ i = .int .i64 k ∧ t = .int .i64 (m : Int) ∧ m ≤ 1099511627776 ∧ wts limit m ((l.map compTerms).drop k) = T ∧ Below w.heap.size w wr) (fun _ i _ => l.length - (intOf i).toNat)
  case atStart => exact ⟨0, 0, Nat.zero_le _, rfl, rfl, by omega, HT.out, Below.refl _ _⟩
  case round =>
    obtain ⟨k, m, hk, rfl, rfl, hm, he, hbel⟩ := hrel
    have HE := Lib.hid he; clear he
    have HB := Lib.hid hbel; clear hbel
    by_cases hlt : k < l.length
    · have HW := Lib.hid (HE.out ▸ wts_drop limit m (l.map compTerms) k (by simpa using hlt) : T = _)
      have HX : Hid ((l.map compTerms)[k]'(by simpa using hlt) = [l[k].text.length, 2]) := by show _ = _; rw [List.getElem_map]; rfl
      by_cases hml : m ≤ limit
      · have hcell := ((HC.out.below HB.out).at_ hlt).2.2
        have hxl := (HG.out _ (List.getElem_mem hlt)).2.2.2
        unfold maxLen at hxl
        have hsz := bstr_size l[k].text
        obtain ⟨S, HS0⟩ : ∃ S, Hid (bstr l[k].text = S) := ⟨bstr l[k].text, Lib.hid rfl⟩
        obtain ⟨a, HA⟩ : ∃ a, Hid (l[k].text.length = a) := ⟨l[k].text.length, Lib.hid rfl⟩
        rw [HS0.out] at hcell hsz
        rw [HA.out] at hsz hxl HX
        have HR : Hid (wts limit (capSum m [a, 2]) ((l.map compTerms).drop (k + 1)) = T) := by show _ = _; rw [HW.out, if_pos hml, HX.out]
        obtain ⟨r, HRR⟩ : ∃ r, Hid (capSum m [a, 2] = r) := ⟨_, rfl⟩
        have hr : r ≤ 1099511627776 := by rw [← HRR.out]; exact capSum_held _ m hm
        rw [HRR.out] at HR
        have HS := Lib.hid (fun g hg' => alikeSum_row m (by omega) g 0 2 [a, 2] (by simp [maxLen]) (by simp; omega) _ (nats_lit wr 3 #[.int .i64 (a : Int), .int .i64 2] [a, 2] (fun j x hx => by
          match j, hx with
          | 0, hx => cases hx; rfl
          | 1, hx => cases hx; rfl) g hg'))
        rw [HRR.out] at HS
        clear HW HRR
        go_wp2_with (go_at_call 21; refine (HS.out _ rfl).mono ?_; rintro e w' ⟨rfl, rfl⟩)
        go_roundw
        case rel => exact ⟨k + 1, r, by omega, by go_num, rfl, hr, HR.out, HB.out.alloc HB.out.size _⟩
        case measure => simp [intOf]; omega
      · have HR : Hid (m = T) := by show _ = _; rw [HW.out, if_neg hml]
        have hml' : limit < m := by omega
        go_wp2
        go_ret
        exact ⟨by rw [← HR.out]; rfl, HB.out⟩
    · have HR : Hid (m = T) := by
        show m = T
        rw [← HE.out, List.drop_eq_nil_of_le (by simp; omega), wts_nil]
      go_wp2
      go_ret
      exact ⟨by rw [← HR.out]; rfl, HB.out⟩
theorem alikeComps_nil (limit : Nat) (A : Option Addr) (cap : Nat) (w : World) :
    Calls Try.prog 6 #[.slice A 0 cap, .int .i64 (limit : Int)] w fun e w' => e = .returned (.int .i64 ((compsWeight limit [] : Nat) : Int)) ∧ Below w.heap.size w w' := by
  have HR : Hid (0 = compsWeight limit []) := by show 0 = compsWeight limit []; rw [compsWeight, List.map_nil, wts_nil]
  go_enter Try.func6, Try.ntmps6
  go_wp2
  refine wp_loop_rounds 1 ?_
  rw [rounds_succ]
  go_wp2
  go_ret
  exact ⟨by rw [← HR.out]; rfl, Below.refl _ _⟩
theorem alikeComps_at {A : Option Addr} {l : List CompV} (limit : Nat) (cap : Nat) (hl : l.length ≤ maxLen) (hg : ∀ y ∈ l, y.Good) (w : World) (h : CompsAt w A l) :
    Calls Try.prog 6 #[.slice A l.length cap, .int .i64 (limit : Int)] w fun e w' => e = .returned (.int .i64 ((compsWeight limit l : Nat) : Int)) ∧ Below w.heap.size w w' := by
  cases l with
  | nil => exact alikeComps_nil limit A cap w
  | cons c l =>
    obtain ⟨b, off, rfl, _⟩ := h.form (by simp)
    exact alikeComps_row limit b off cap _ hl hg w h
end Go.Proofs.Ytnadhpajelkngaa

/- What the statements' own awakes lean on: guards, rows just laid, small edits. No condition. -/
namespace Go.Proofs.Ytnadhpajelkngaa
open Go.RowKit Go.Deep

/-- What the guards of the statements say of an edit. -/
theorem weight_spec (lim : Nat) (hlim : lim < 1099511627776) (l : List CompV) (h : compsWeight lim l ≤ lim) : 2 * l.length + tlen l ≤ lim := by
  have e := wts_spec lim hlim (l.map compTerms) 0 h
  have e2 : ∀ l : List CompV, ((l.map compTerms).map List.sum).sum = 2 * l.length + tlen l := by
    intro l
    induction l with
    | nil => rfl
    | cons c l ih =>
      have h1 : tlen (c :: l) = c.text.length + tlen l := by simp [tlen]
      rw [List.map_cons, List.map_cons, List.sum_cons, ih, h1, List.length_cons]
      simp only [compTerms, List.sum_cons, List.sum_nil]
      omega
  rw [e2] at e
  have : compsWeight lim l = 0 + (2 * l.length + tlen l) := e
  omega
theorem fine_of {l : List CompV} (hg : ∀ y ∈ l, y.Good) (ht : tlen l ≤ 1099511627776) : Fine1 l := fun y hy => ⟨hg y hy, Nat.le_trans (tlen_mem hy) ht⟩

theorem good_of (k n : Int) (t : List Nat) (hk : 0 ≤ k ∧ k ≤ 9) (hn : 0 ≤ n ∧ n ≤ 1099511627776) (ht : (∀ x ∈ t, x < 256) ∧ t.length ≤ 1099511627776) : (CompV.mk k n t).Good :=
  ⟨by unfold Fit64; show _ ≤ k ∧ k ≤ _; omega, by unfold Fit64; show _ ≤ n ∧ n ≤ _; omega, ht.1, by have := ht.2; unfold maxLen; show t.length ≤ _; omega⟩
theorem V_one (x : Nat) (h : 0 < x ∧ x < 128) : V [x] [x] := by
  refine ⟨?_, ?_⟩
  · intro v hv; simp at hv; subst hv; unfold May; omega
  · rw [E_cons, E_nil]
    have e : enc x = [x] := by
      unfold enc
      rw [if_pos h.2]
    rw [e]; rfl
theorem nrm_nil : Nrm [] := fun i c h => by simp at h
/-- The parts of a normal edit, one by one. -/
theorem nrm_cons {c : CompV} {l : List CompV} (hc : Whole c) (hl : Nrm l) (hd : ∀ d, l[0]? = some d → d.kind ≠ c.kind ∧ ¬ (c.kind = 3 ∧ d.kind = 2)) : Nrm (c :: l) := by
  intro i d h
  cases i with
  | zero =>
    simp at h
    subst h
    refine ⟨?_, fun p h0 => by omega⟩
    rcases hc with h | ⟨h1, h2, h3, h4⟩
    · exact .inl h
    · exact .inr ⟨h1, h2, h3, h4, fun p h0 => by omega⟩
  | succ i =>
    have h' : l[i]? = some d := by simpa using h
    have hn := hl i d h'
    have hpre : ∀ p, (c :: l)[i + 1 - 1]? = some p → (i = 0 ∧ p = c) ∨ (0 < i ∧ l[i - 1]? = some p) := fun p hp => by
      rw [Nat.add_sub_cancel] at hp
      cases i with
      | zero => simp at hp; exact .inl ⟨rfl, hp.symm⟩
      | succ j => exact .inr ⟨by omega, by simpa using hp⟩
    refine ⟨?_, fun p _ hp => ?_⟩
    · rcases hn.1 with h1 | ⟨h1, h2, h3, h4, h5⟩
      · exact .inl h1
      · refine .inr ⟨h1, h2, h3, h4, fun p _ hp => ?_⟩
        rcases hpre p hp with ⟨rfl, rfl⟩ | ⟨h0, hp'⟩
        · exact fun e => (hd d h').2 ⟨e, h1⟩
        · exact h5 p h0 hp'
    · rcases hpre p hp with ⟨rfl, rfl⟩ | ⟨h0, hp'⟩
      · exact fun e => (hd d h').1 e.symm
      · exact hn.2 p h0 hp'
/-- A row of one part. -/
theorem row_one (w : World) (g : Nat) (hg : g = w.heap.size) (k n : Int) (t : List Nat) : CompsAt (w.alloc (.cells #[.int .i64 k, .int .i64 n, .string (bstr t)] 54)) (some ⟨g, 0, none⟩) [⟨k, n, t⟩] :=
  CellsAt.lit (fun j v hj => by
    match j, hj with
    | 0, hj => cases hj; rfl
    | 1, hj => cases hj; rfl
    | 2, hj => cases hj; rfl) hg
theorem row_two (w : World) (g : Nat) (hg : g = w.heap.size) (k n : Int) (t : List Nat) (k' n' : Int) (t' : List Nat) :
    CompsAt (w.alloc (.cells #[.int .i64 k, .int .i64 n, .string (bstr t), .int .i64 k', .int .i64 n', .string (bstr t')] 54)) (some ⟨g, 0, none⟩) [⟨k, n, t⟩, ⟨k', n', t'⟩] :=
  CellsAt.lit (fun j v hj => by
    match j, hj with
    | 0, hj => cases hj; rfl
    | 1, hj => cases hj; rfl
    | 2, hj => cases hj; rfl
    | 3, hj => cases hj; rfl
    | 4, hj => cases hj; rfl
    | 5, hj => cases hj; rfl) hg

theorem hld_small {a b : Int} (h1 : 0 ≤ a) (h2 : 0 ≤ b) (h3 : a + b ≤ 1099511627776) : hld a b = a + b := by unfold hld; omega
theorem hld01 : hld 0 1 = 1 := hld_small (by omega) (by omega) (by omega)
theorem hld11 : hld 1 1 = 2 := hld_small (by omega) (by omega) (by omega)
theorem hld21 : hld 2 1 = 3 := hld_small (by omega) (by omega) (by omega)
theorem aw_norm : rNormal [⟨3, 1, []⟩, ⟨2, 0, [97]⟩] = [⟨2, 0, [97]⟩, ⟨3, 1, []⟩] := by simp [rNormal, nRun, nStep, nStart, NS.flush, keepOf, textOf, goneOf, hld01]
theorem aw_of : rNormal (ofParts 3 1 2 [120]) = [⟨1, 1, []⟩, ⟨2, 0, [120]⟩, ⟨3, 1, []⟩, ⟨1, 1, []⟩] := by simp [rNormal, ofParts, nRun, nStep, nStart, NS.flush, keepOf, textOf, goneOf, hld01]
theorem aw_one : loose [97] = 1 := (V_one 97 (by omega)).loose
theorem aw_one' : loose [120] = 1 := (V_one 120 (by omega)).loose
theorem aw_base : rBase [⟨1, 1, []⟩, ⟨2, 0, [120]⟩, ⟨3, 1, []⟩, ⟨1, 1, []⟩] = 3 := by simp [rBase, baseStep, hld01, hld11, hld21]
theorem aw_out : rOut [⟨1, 1, []⟩, ⟨2, 0, [120]⟩, ⟨3, 1, []⟩, ⟨1, 1, []⟩] = 3 := by simp [rOut, outStep, hld01, hld11, hld21, aw_one']
theorem aw_check : rCheck [⟨2, 0, [97]⟩, ⟨3, 1, []⟩] = 0 := by
  have h1 : Nrm [⟨2, 0, [97]⟩, ⟨3, 1, []⟩] := nrm_cons (.inr ⟨rfl, rfl, by simp, _, V_one 97 (by omega)⟩) (nrm_cons (.inl ⟨.inr rfl, by show (1 : Int) ≤ 1; omega, rfl⟩) nrm_nil (fun d h => by simp at h)) (fun d h => by simp at h; subst h; simp)
  have h2 : rBase [⟨2, 0, [97]⟩, ⟨3, 1, []⟩] = 1 := by simp [rBase, baseStep, hld01]
  have h3 : rOut [⟨2, 0, [97]⟩, ⟨3, 1, []⟩] = 1 := by simp [rOut, outStep, hld01, aw_one]
  rw [rCheck, nrmB_yes h1, h2, h3]
  simp
theorem aw_bad : rCheck [⟨9, 0, []⟩] = 1 := by
  have h1 : ¬ Nrm [⟨9, 0, []⟩] := fun h => by
    rcases (h 0 _ rfl).1 with ⟨h, _⟩ | ⟨h, _⟩
    · rcases h with h | h <;> simp at h
    · simp at h
  rw [rCheck, nrmB_no h1]
  simp
end Go.Proofs.Ytnadhpajelkngaa

/- The contract of alike.Acts: called with any acts it answers their weight, held at a limit; what was there stays as it was. Condition: no slice and no text is longer than memory. -/
namespace Go.Proofs.Ytnadhpajelkngaa
open Go.RowKit Go.Deep

def actTerms (limit : Nat) (c : ActV) : List Nat := [c.name.length, compsWeight limit c.ops, 3]
def actsWeight (limit : Nat) (l : List ActV) : Nat := wts limit 0 (l.map (actTerms limit))

set_option maxHeartbeats 1000000 in
set_option maxRecDepth 100000 in
theorem alikeActs_row (limit : Nat) (b off cap : Nat) (l : List ActV) (hl : l.length ≤ maxLen) (hg : ∀ y ∈ l, y.Good) (w : World) (hc : ActsAt w (some ⟨b, off, none⟩) l) :
    Calls Try.prog 13 #[.slice (some ⟨b, off, none⟩) l.length cap, .int .i64 (limit : Int)] w fun e w' => e = .returned (.int .i64 ((actsWeight limit l : Nat) : Int)) ∧ Below w.heap.size w w' := by
  unfold maxLen at hl
  have HC := Lib.hid hc; clear hc
  have HG := Lib.hid hg; clear hg
  obtain ⟨T, HT⟩ : ∃ T, Hid (actsWeight limit l = T) := ⟨_, rfl⟩
  rw [HT.out]
  go_enter Try.func13, Try.ntmps13
  go_wp2
  go_loopw [5, 6] (fun t i wr => ∃ k m : Nat, k ≤ l.length ∧ i = .int .i64 k ∧ t = .int .i64 (m : Int) ∧ m ≤ 1099511627776 ∧ wts limit m ((l.map (actTerms limit)).drop k) = T ∧ Below w.heap.size w wr) (fun _ i _ => l.length - (intOf i).toNat)
  case atStart => exact ⟨0, 0, Nat.zero_le _, rfl, rfl, by omega, HT.out, Below.refl _ _⟩
  case round =>
    obtain ⟨k, m, hk, rfl, rfl, hm, he, hbel⟩ := hrel
    have HE := Lib.hid he; clear he
    have HB := Lib.hid hbel; clear hbel
    by_cases hlt : k < l.length
    · have HW := Lib.hid (HE.out ▸ wts_drop limit m (l.map (actTerms limit)) k (by simpa using hlt) : T = _)
      have HX : Hid ((l.map (actTerms limit))[k]'(by simpa using hlt) = [l[k].name.length, compsWeight limit l[k].ops, 3]) := by show _ = _; rw [List.getElem_map]; rfl
      by_cases hml : m ≤ limit
      · have HCA := Lib.hid ((HC.out.below HB.out).at_ hlt)
        have hgk := HG.out _ (List.getElem_mem hlt)
        have hx1 := hgk.2.2.2.1.2
        have hx2 : l[k].ops.length ≤ maxLen := Nat.le_trans hgk.2.2.2.2.2.1 hgk.2.2.2.2.2.2
        have HCM := Lib.hid (fun (wx : World) (hh : CompsAt wx l[k].opsA l[k].ops) => alikeComps_at limit l[k].opsC hx2 hgk.2.2.2.2.1 wx hh)
        have HOP := Lib.hid (HC.out.2 _ (List.getElem_mem hlt))
        clear hgk
        unfold maxLen at hx1 hx2
        have hs1 := bstr_size l[k].name
        obtain ⟨S1, HS1⟩ : ∃ S, Hid (bstr l[k].name = S) := ⟨bstr l[k].name, Lib.hid rfl⟩
        obtain ⟨a, HA⟩ : ∃ a, Hid (l[k].name.length = a) := ⟨l[k].name.length, Lib.hid rfl⟩
        obtain ⟨c, HCC⟩ : ∃ a, Hid (compsWeight limit l[k].ops = a) := ⟨compsWeight limit l[k].ops, Lib.hid rfl⟩
        have hc40 : c ≤ 1099511627776 := by rw [← HCC.out]; exact wts_held limit _ 0 (by omega)
        obtain ⟨O, HO⟩ : ∃ a, Hid (l[k].ops = a) := ⟨l[k].ops, Lib.hid rfl⟩
        obtain ⟨OA, HOA⟩ : ∃ a, Hid (l[k].opsA = a) := ⟨l[k].opsA, Lib.hid rfl⟩
        obtain ⟨OC, HOC⟩ : ∃ a, Hid (l[k].opsC = a) := ⟨l[k].opsC, Lib.hid rfl⟩
        rw [HS1.out, HO.out, HOA.out, HOC.out] at HCA
        rw [HS1.out] at hs1
        rw [HA.out] at hs1 hx1 HX
        rw [HCC.out] at HX HCM
        rw [HO.out, HOC.out, HOA.out] at HCM
        rw [HO.out, HOA.out] at HOP
        have hk2 : Hid (wr.cell? ⟨b, off + k * 6 + 3, none⟩ = some (.string S1)) := HCA.out.2.2.2.1
        have hk4 : Hid (wr.cell? ⟨b, off + k * 6 + 5, none⟩ = some (.slice OA O.length OC)) := HCA.out.2.2.2.2.2
        have HR : Hid (wts limit (capSum m [a, c, 3]) ((l.map (actTerms limit)).drop (k + 1)) = T) := by show _ = _; rw [HW.out, if_pos hml, HX.out]
        obtain ⟨r, HRR⟩ : ∃ r, Hid (capSum m [a, c, 3] = r) := ⟨_, rfl⟩
        have hr : r ≤ 1099511627776 := by rw [← HRR.out]; exact capSum_held _ m hm
        rw [HRR.out] at HR
        have HN := Lib.hid (fun (wx : World) (t : TypeId) g hg' => nats_lit wx t #[.int .i64 (a : Int), .int .i64 (c : Int), .int .i64 3] [a, c, 3] (fun j x hx => by
          match j, hx with
          | 0, hx => cases hx; rfl
          | 1, hx => cases hx; rfl
          | 2, hx => cases hx; rfl) g hg')
        have HS := Lib.hid (fun (wx : World) g (hn : NatsAt wx g 0 [a, c, 3]) => alikeSum_row m (by omega) g 0 3 [a, c, 3] (by simp [maxLen]) (by simp; omega) wx hn)
        rw [HRR.out] at HS
        clear HW HRR HCA
        go_wp2_with fail
        refine wp_region_lit [(0, true), (1, true), (2, true), (3, true), (4, true), (5, true), (6, true), (7, true), (8, true), (9, true), (10, true), (11, true), (12, true), (13, false), (14, false), (15, false), (16, true)] (by kernel_rfl) (by kernel_rfl) (fun _ _ d _ _ h => by cases d <;> exact h) ?_
        simp only [picked, List.map_cons, List.map_nil, List.getElem?_cons_succ, List.getElem?_cons_zero, Option.getD_some]
        have hq2 := fun e : Ext wr.drew => Ext.cell (w := wr.drew) hk2.out e
        have hq4 := fun e : Ext wr.drew => Ext.cell (w := wr.drew) hk4.out e
        repeat (first | (refine wpL_quiet (by rfl) (fun K hK => ?_); go_big_quiet_op; refine hK _ ?_; clear hK K) | (refine wpL_skip (by rfl) ?_; simp only [Act.put, List.setIfInBounds_toArray, List.set_cons_zero, List.set_cons_succ]))
        clear hq2 hq4
        refine wpL_call (by rfl) (fun K hK => ?_)
        go_simp
        refine (HCM.out _ (CompsAt.drew (HOP.out.below HB.out))).mono ?_
        rintro e w1 ⟨rfl, hb1⟩
        have HB1 := Lib.hid hb1
        refine hK _ _ hb1 ?_
        clear hK K hb1
        repeat (first | (refine wpL_quiet (by rfl) (fun K hK => ?_); go_big_quiet_op; refine hK _ ?_; clear hK K) | (refine wpL_skip (by rfl) ?_; simp only [Act.put, List.setIfInBounds_toArray, List.set_cons_zero, List.set_cons_succ]))
        refine wpL_call (by rfl) (fun K hK => ?_)
        go_simp
        refine hK _ _ ((Below.refl _ _).alloc (Nat.le_refl _) _) ?_
        clear hK K
        repeat (first | (refine wpL_quiet (by rfl) (fun K hK => ?_); go_big_quiet_op; refine hK _ ?_; clear hK K) | (refine wpL_skip (by rfl) ?_; simp only [Act.put, List.setIfInBounds_toArray, List.set_cons_zero, List.set_cons_succ]))
        refine wpL_call (by rfl) (fun K hK => ?_)
        go_simp
        refine (HS.out _ _ (HN.out w1 _ _ rfl)).mono ?_
        rintro e w2 ⟨rfl, rfl⟩
        refine hK _ _ (Below.refl _ _) ?_
        clear hK K
        repeat (first | (refine wpL_quiet (by rfl) (fun K hK => ?_); go_big_quiet_op; refine hK _ ?_; clear hK K) | (refine wpL_skip (by rfl) ?_; simp only [Act.put, List.setIfInBounds_toArray, List.set_cons_zero, List.set_cons_succ]))
        refine wpL_nil ?_
        go_wp2
        go_roundw
        case rel => exact ⟨k + 1, r, by omega, by go_num, rfl, hr, HR.out, balloc (bstep HB.out.drew HB1.out) _⟩
        case measure => simp [intOf]; omega
      · have HR : Hid (m = T) := by show _ = _; rw [HW.out, if_neg hml]
        have hml' : limit < m := by omega
        go_wp2
        go_ret
        exact ⟨by rw [← HR.out]; rfl, HB.out⟩
    · have HR : Hid (m = T) := by
        show m = T
        rw [← HE.out, List.drop_eq_nil_of_le (by simp; omega), wts_nil]
      go_wp2
      go_ret
      exact ⟨by rw [← HR.out]; rfl, HB.out⟩
theorem alikeActs_nil (limit : Nat) (A : Option Addr) (cap : Nat) (w : World) :
    Calls Try.prog 13 #[.slice A 0 cap, .int .i64 (limit : Int)] w fun e w' => e = .returned (.int .i64 ((actsWeight limit [] : Nat) : Int)) ∧ Below w.heap.size w w' := by
  have HR : Hid (0 = actsWeight limit []) := by show 0 = actsWeight limit []; rw [actsWeight, List.map_nil, wts_nil]
  go_enter Try.func13, Try.ntmps13
  go_wp2
  refine wp_loop_rounds 1 ?_
  rw [rounds_succ]
  go_wp2
  go_ret
  exact ⟨by rw [← HR.out]; rfl, Below.refl _ _⟩
theorem alikeActs_at {A : Option Addr} {l : List ActV} (limit : Nat) (cap : Nat) (hl : l.length ≤ maxLen) (hg : ∀ y ∈ l, y.Good) (w : World) (h : ActsAt w A l) :
    Calls Try.prog 13 #[.slice A l.length cap, .int .i64 (limit : Int)] w fun e w' => e = .returned (.int .i64 ((actsWeight limit l : Nat) : Int)) ∧ Below w.heap.size w w' := by
  cases l with
  | nil => exact alikeActs_nil limit A cap w
  | cons c l =>
    obtain ⟨b, off, rfl, _⟩ := h.form (by simp)
    exact alikeActs_row limit b off cap _ hl hg w h
end Go.Proofs.Ytnadhpajelkngaa
