/- What Diff answers, as a function of the two texts; the document's own and the landed one both answer so. No condition. (Merged of 5 texts.) -/
import Derived.Test.YtfbkdabnbddgpaaKAp
import Derived.Test.YtfbkdabnbddgpaaKRef
import Derived.Test.YtfbkdabnbddgpaaShelf
import Derived.BigQuiet
import Derived.WalkSmall
import Derived.Test.YtfbkdabnbddgpaaKOp
import Derived.Test.YtfbkdabnbddgpaaUtfCount
import Derived.Test.YtfbkdabnbddgpaaMono
/- What two texts begin and end with alike, byte by byte, and code point by code point, in plain mathematics. No condition. -/
namespace Go.Proofs.Ytfbkdabnbddgpaa
open Go.RowKit Go.Deep

theorem enc_form {v : Nat} (h : May v) : ∃ c t, enc v = c :: t ∧ c / 64 ≠ 2 ∧ ∀ d ∈ t, d / 64 = 2 := by
  have hv := h.le
  rw [enc_def]
  split
  · exact ⟨v, [], rfl, by omega, by simp⟩
  · split
    · exact ⟨_, _, rfl, by omega, by simp; omega⟩
    · split
      · exact ⟨_, _, rfl, by omega, by simp; omega⟩
      · exact ⟨_, _, rfl, by omega, by simp; omega⟩
/-- A place where a code point begins, or the end. -/
def Bd (vs : List Nat) (n : Nat) : Prop := ∃ k, k ≤ vs.length ∧ (E (vs.take k)).length = n
theorem Bd.zero (vs : List Nat) : Bd vs 0 := ⟨0, Nat.zero_le _, by rw [List.take_zero, E_nil]; rfl⟩
theorem Bd.all (vs : List Nat) : Bd vs (E vs).length := ⟨vs.length, Nat.le_refl _, by rw [List.take_length]⟩
theorem Bd.le {vs : List Nat} {n : Nat} (h : Bd vs n) : n ≤ (E vs).length := by obtain ⟨k, _, rfl⟩ := h; exact E_take_len vs k
theorem bd_cons {v : Nat} {vs : List Nat} {n : Nat} (h : (enc v).length ≤ n) : Bd (v :: vs) n ↔ Bd vs (n - (enc v).length) := by
  constructor
  · rintro ⟨k, hk, hn⟩
    cases k with
    | zero => rw [List.take_zero, E_nil] at hn; have := enc_pos v; simp at hn; omega
    | succ k =>
      rw [List.take_succ_cons, E_cons, List.length_append] at hn
      exact ⟨k, by simp at hk; omega, by omega⟩
  · rintro ⟨k, hk, hn⟩
    exact ⟨k + 1, by simp; omega, by rw [List.take_succ_cons, E_cons, List.length_append]; omega⟩
theorem bd_start : ∀ (vs : List Nat) (n c : Nat), (∀ v ∈ vs, May v) → (E vs)[n]? = some c → (c / 64 ≠ 2 ↔ Bd vs n)
  | [], n, c, _, h => by rw [E_nil] at h; simp at h
  | v :: vs, n, c, hm, h => by
    obtain ⟨c0, t, he, hc0, ht⟩ := enc_form (hm v (by simp))
    by_cases hn : (enc v).length ≤ n
    · rw [bd_cons hn]
      rw [E_cons, List.getElem?_append_right hn] at h
      exact bd_start vs _ c (fun x hx => hm x (by simp [hx])) h
    · rw [E_cons, List.getElem?_append_left (by omega)] at h
      rw [he] at h hn
      cases n with
      | zero =>
        simp at h
        subst h
        exact ⟨fun _ => Bd.zero _, fun _ => hc0⟩
      | succ n =>
        rw [List.getElem?_cons_succ] at h
        have hd := ht c (List.mem_of_getElem? h)
        refine ⟨fun hh => absurd hd hh, ?_⟩
        rintro ⟨k, hk, hk2⟩
        cases k with
        | zero => rw [List.take_zero, E_nil] at hk2; simp at hk2
        | succ k =>
          rw [List.take_succ_cons, E_cons, he, List.length_append] at hk2
          omega

/-- They begin with n bytes alike. -/
def ComP (a b : List Nat) (n : Nat) : Prop := n ≤ a.length ∧ n ≤ b.length ∧ a.take n = b.take n
theorem ComP.zero (a b : List Nat) : ComP a b 0 := ⟨Nat.zero_le _, Nat.zero_le _, by simp⟩
theorem ComP.succ {a b : List Nat} {n : Nat} (h : ComP a b n) (h1 : n < a.length) (h2 : n < b.length) (h3 : a[n] = b[n]) : ComP a b (n + 1) :=
  ⟨h1, h2, by rw [List.take_succ_eq_append_getElem h1, List.take_succ_eq_append_getElem h2, h.2.2, h3]⟩
theorem ComP.get {a b : List Nat} {n i : Nat} (h : ComP a b n) (hi : i < n) : a[i]? = b[i]? := by
  have := congrArg (fun l => l[i]?) h.2.2
  simp only [List.getElem?_take, hi, if_true] at this
  exact this
theorem ComP.max {a b : List Nat} {N m : Nat} (hs : ¬ (N < a.length ∧ N < b.length ∧ a[N]? = b[N]?)) (hm : ComP a b m) : m ≤ N := by
  rcases Nat.lt_or_ge N m with h | h
  · exact absurd ⟨Nat.lt_of_lt_of_le h hm.1, Nat.lt_of_lt_of_le h hm.2.1, hm.get h⟩ hs
  · exact h
theorem pre_begin {x y : List Nat} (hx : ∀ v ∈ x, May v) (hy : ∀ v ∈ y, May v) {N n : Nat} (hc : ComP (E x) (E y) N) (hs : ¬ (N < (E x).length ∧ N < (E y).length ∧ (E x)[N]? = (E y)[N]?))
    (hn : n ≤ N) (hb : Bd x n) (hmax : ∀ m, Bd x m → m ≤ N → m ≤ n) : ∃ p, (E (x.take p)).length = n ∧ PreOf x y p := by
  obtain ⟨p, hp, rfl⟩ := hb
  have e1 : (E y).take (E (x.take p)).length = E (x.take p) := by
    have h1 : (E x).take (E (x.take p)).length = E (x.take p) := by
      conv => lhs; rw [E_split x p]
      exact List.take_left' rfl
    rw [← h1]
    have h2 := congrArg (fun l => l.take (E (x.take p)).length) hc.2.2
    simp only [List.take_take] at h2
    rw [show min (E (x.take p)).length N = (E (x.take p)).length by omega] at h2
    rw [h1] at h2 ⊢
    exact h2.symm
  obtain ⟨ws, hws, _⟩ := E_part (x.take p) y ((E y).drop (E (x.take p)).length) (fun v hv => hx v (List.mem_of_mem_take hv)) hy (by
    conv => lhs; rw [← List.take_append_drop (E (x.take p)).length (E y), e1])
  refine ⟨p, rfl, hp, ?_, ?_, ?_⟩
  · rw [hws]; simp; omega
  · intro i hi
    rw [hws, List.getElem?_append_left (by simp; omega), List.getElem?_take, if_pos hi]
  · rintro ⟨h1, h2, h3⟩
    rw [List.getElem?_eq_getElem h1, List.getElem?_eq_getElem h2] at h3
    injection h3 with h3
    have hpy : y.take p = x.take p := by
      rw [hws]
      exact List.take_left' (by simp; omega)
    have e2 : y.take (p + 1) = x.take (p + 1) := by rw [List.take_succ_eq_append_getElem h1, List.take_succ_eq_append_getElem h2, hpy, h3]
    have hcm : ComP (E x) (E y) (E (x.take (p + 1))).length := by
      refine ⟨E_take_len x (p + 1), by rw [← e2]; exact E_take_len y (p + 1), ?_⟩
      have f1 : (E x).take (E (x.take (p + 1))).length = E (x.take (p + 1)) := by
        conv => lhs; rw [E_split x (p + 1)]
        exact List.take_left' rfl
      have f2 : (E y).take (E (x.take (p + 1))).length = E (x.take (p + 1)) := by
        rw [← e2]
        conv => lhs; rw [E_split y (p + 1)]
        exact List.take_left' rfl
      rw [f1, f2]
    have := hmax _ ⟨p + 1, h1, rfl⟩ (ComP.max hs hcm)
    rw [List.take_succ_eq_append_getElem h1, E_snoc, List.length_append] at this
    have := enc_pos x[p]
    omega

/-- They end with n bytes alike. -/
def ComS (a b : List Nat) (n : Nat) : Prop := n ≤ a.length ∧ n ≤ b.length ∧ a.drop (a.length - n) = b.drop (b.length - n)
theorem ComS.zero (a b : List Nat) : ComS a b 0 := ⟨Nat.zero_le _, Nat.zero_le _, by simp⟩
theorem ComS.succ {a b : List Nat} {n : Nat} (h : ComS a b n) (h1 : n < a.length) (h2 : n < b.length) (h3 : a[a.length - 1 - n] = b[b.length - 1 - n]) : ComS a b (n + 1) := by
  refine ⟨h1, h2, ?_⟩
  have e : ∀ (l : List Nat) (h : n < l.length), l.drop (l.length - (n + 1)) = l[l.length - 1 - n] :: l.drop (l.length - n) := fun l h => by
    rw [show l.length - (n + 1) = l.length - 1 - n by omega, List.drop_eq_getElem_cons (by omega), show l.length - 1 - n + 1 = l.length - n by omega]
  rw [e a h1, e b h2, h3, h.2.2]
theorem ComS.get {a b : List Nat} {n i : Nat} (h : ComS a b n) (hi : i < n) : a[a.length - 1 - i]? = b[b.length - 1 - i]? := by
  have h1 := congrArg (fun l => l[n - 1 - i]?) h.2.2
  have := h.1
  have := h.2.1
  simp only [List.getElem?_drop] at h1
  rw [show a.length - n + (n - 1 - i) = a.length - 1 - i by omega, show b.length - n + (n - 1 - i) = b.length - 1 - i by omega] at h1
  exact h1
theorem ComS.max {a b : List Nat} {N m : Nat} (hs : ¬ (N < a.length ∧ N < b.length ∧ a[a.length - 1 - N]? = b[b.length - 1 - N]?)) (hm : ComS a b m) : m ≤ N := by
  rcases Nat.lt_or_ge N m with h | h
  · exact absurd ⟨Nat.lt_of_lt_of_le h hm.1, Nat.lt_of_lt_of_le h hm.2.1, hm.get h⟩ hs
  · exact h
theorem E_inj {x y : List Nat} (hx : ∀ v ∈ x, May v) (hy : ∀ v ∈ y, May v) (h : E x = E y) : x = y := (V.mk hx).uniq ⟨hy, h.symm⟩
theorem suf_finish {x y : List Nat} (hx : ∀ v ∈ x, May v) (hy : ∀ v ∈ y, May v) {N n : Nat} (hc : ComS (E x) (E y) N) (hs : ¬ (N < (E x).length ∧ N < (E y).length ∧ (E x)[(E x).length - 1 - N]? = (E y)[(E y).length - 1 - N]?))
    (hn : n ≤ N) (hb : Bd x ((E x).length - n)) (hmax : ∀ m, m ≤ (E x).length → Bd x ((E x).length - m) → m ≤ N → m ≤ n) : ∃ s, s ≤ x.length ∧ (E (x.drop (x.length - s))).length = n ∧ SufOf x y 0 s := by
  obtain ⟨k, hk, hkn⟩ := hb
  have hNx := hc.1
  have hNy := hc.2.1
  have hlen : (E (x.drop k)).length = n := by
    have := congrArg List.length (E_split x k)
    rw [List.length_append] at this
    omega
  -- the other text's end is the same
  have htl : (E y).drop ((E y).length - n) = E (x.drop k) := by
    have h1 := congrArg (fun l => l.drop (N - n)) hc.2.2
    simp only [List.drop_drop] at h1
    rw [show (E x).length - N + (N - n) = (E (x.take k)).length by omega, show (E y).length - N + (N - n) = (E y).length - n by omega, E_drop] at h1
    exact h1.symm
  have hby : Bd y ((E y).length - n) := by
    by_cases h0 : n = 0
    · subst h0; exact Bd.all y
    · cases hxk : x.drop k with
      | nil => rw [hxk, E_nil] at hlen; simp at hlen; omega
      | cons v r =>
        obtain ⟨c0, t, he, hc0, _⟩ := enc_form (hx v (List.mem_of_mem_drop (by rw [hxk]; simp)))
        rw [hxk, E_cons, he] at htl
        refine (bd_start y _ c0 hy ?_).1 hc0
        have := congrArg List.head? htl
        rw [List.head?_drop] at this
        exact this
  obtain ⟨j, hj, hjn⟩ := hby
  have hjy : y.drop j = x.drop k := by
    refine E_inj (fun v hv => hy v (List.mem_of_mem_drop hv)) (fun v hv => hx v (List.mem_of_mem_drop hv)) ?_
    rw [← E_drop, hjn, htl]
  have hl2 := congrArg List.length hjy
  rw [List.length_drop, List.length_drop] at hl2
  have hk2 : x.length - (x.length - k) = k := by omega
  refine ⟨x.length - k, by omega, by rw [hk2]; exact hlen, by omega, by omega, ?_, ?_⟩
  · intro i hi
    have h1 := congrArg (fun l => l[x.length - k - 1 - i]?) hjy
    simp only [List.getElem?_drop] at h1
    rw [show j + (x.length - k - 1 - i) = y.length - 1 - i by omega, show k + (x.length - k - 1 - i) = x.length - 1 - i by omega] at h1
    exact h1.symm
  · rintro ⟨h1, h2, h3⟩
    rw [show x.length - 1 - (x.length - k) = k - 1 by omega, show y.length - 1 - (x.length - k) = j - 1 by omega, List.getElem?_eq_getElem (by omega), List.getElem?_eq_getElem (by omega)] at h3
    injection h3 with h3
    have f1 : x.drop (k - 1) = x[k - 1]'(by omega) :: x.drop k := by rw [List.drop_eq_getElem_cons (by omega), show k - 1 + 1 = k by omega]
    have f2 : y.drop (j - 1) = x[k - 1]'(by omega) :: x.drop k := by rw [List.drop_eq_getElem_cons (by omega), show j - 1 + 1 = j by omega, ← h3, hjy]
    obtain ⟨m, hm⟩ : ∃ m, m = (E (x.drop (k - 1))).length := ⟨_, rfl⟩
    have g1 := congrArg List.length (E_split x (k - 1))
    have g2 := congrArg List.length (E_split y (j - 1))
    rw [List.length_append] at g1 g2
    have hm2 : (E (y.drop (j - 1))).length = m := by rw [f2, ← f1, hm]
    have hcm : ComS (E x) (E y) m := by
      refine ⟨by omega, by omega, ?_⟩
      rw [show (E x).length - m = (E (x.take (k - 1))).length by omega, show (E y).length - m = (E (y.take (j - 1))).length by omega, E_drop, E_drop, f1, f2]
    have := hmax m (by omega) ⟨k - 1, by omega, by omega⟩ (ComS.max hs hcm)
    rw [f1, E_cons, List.length_append] at hm
    have := enc_pos (x[k - 1]'(by omega))
    omega
/-- The end behind what both begin with. -/
theorem suf_shift {x y : List Nat} {p s : Nat} (hp : p ≤ x.length) (hq : p ≤ y.length) (h : SufOf (x.drop p) (y.drop p) 0 s) : SufOf x y p s := by
  obtain ⟨h1, h2, h3, h4⟩ := h
  simp only [List.length_drop, Nat.sub_zero] at h1 h2 h3 h4
  refine ⟨h1, h2, fun i hi => ?_, ?_⟩
  · have := h3 i hi
    simp only [List.getElem?_drop] at this
    rw [show p + (x.length - p - 1 - i) = x.length - 1 - i by omega, show p + (y.length - p - 1 - i) = y.length - 1 - i by omega] at this
    exact this
  · rintro ⟨g1, g2, g3⟩
    refine h4 ⟨g1, g2, ?_⟩
    simp only [List.getElem?_drop]
    rw [show p + (x.length - p - 1 - s) = x.length - 1 - s by omega, show p + (y.length - p - 1 - s) = y.length - 1 - s by omega]
    exact g3
end Go.Proofs.Ytfbkdabnbddgpaa

/- apply's begin: how many bytes the code points have with which two texts begin alike. Condition: no more than 2^40 bytes. -/
namespace Go.Proofs.Ytfbkdabnbddgpaa
open Go.RowKit Go.Deep

theorem byte_get {l : List Nat} (hb : ∀ x ∈ l, x < 256) {k : Nat} (h : k < l.length) (w : World) : (Instr.index 9 (.string (bstr l)) (.int .i64 (k : Int))).run Try.prog w = .ok (.int .u8 (l[k] : Int)) w :=
  byte_at hb (List.drop_eq_getElem_cons h) w
theorem start_any (c : Nat) (h : c < 256) (w : World) :
    Calls Try.prog 60 #[.int .u8 (c : Int)] w fun e w' => e = .returned (.bool (decide (c / 64 ≠ 2))) ∧ w = w' := by
  refine (Try.utf8_RuneStart (c : Int) w (by omega) (by omega)).mono ?_
  rintro e w' ⟨rfl, rfl⟩
  refine ⟨?_, rfl⟩
  have : Lib.runeStart (c : Int) = decide (c / 64 ≠ 2) := by
    unfold Lib.runeStart
    by_cases h : c / 64 = 2
    · simp [h]; omega
    · simp [h]; omega
  rw [this]

set_option maxHeartbeats 4000000 in
set_option maxRecDepth 100000 in
theorem apBegin_any {a b x y : List Nat} (hx : V a x) (hy : V b y) (hal : a.length ≤ 1099511627776) (w : World) :
    Calls Try.prog 38 #[.string (bstr a), .string (bstr b)] w fun e w' => (∃ p, e = .returned (.int .i64 ((E (x.take p)).length : Int)) ∧ PreOf x y p) ∧ Below w.heap.size w w' := by
  have HX := Lib.hid hx; have HY := Lib.hid hy
  have HBA := Lib.hid hx.lt; have HBB := Lib.hid hy.lt
  have hsa := bstr_size a
  have hsb := bstr_size b
  clear hx hy
  go_enter Try.func38, Try.ntmps38
  go_wp2
  go_loopw [5] (fun i wr => ∃ n : Nat, ComP a b n ∧ i = .int .i64 n ∧ Below w.heap.size w wr) (fun i _ => a.length - (intOf i).toNat)
  case atStart => exact ⟨0, ComP.zero a b, rfl, Below.refl _ _⟩
  case round =>
    obtain ⟨n, hc, rfl, hbw⟩ := hrel
    have HC := Lib.hid hc; clear hc
    have HBW := Lib.hid hbw; clear hbw
    by_cases h1 : n < a.length
    · have d1 : decide ((n : Int) < a.length) = true := decide_eq_true (by omega)
      by_cases h2 : n < b.length
      · have d2 : decide ((n : Int) < b.length) = true := decide_eq_true (by omega)
        have ia := fun w => byte_get HBA.out h1 w
        have ib := fun w => byte_get HBB.out h2 w
        by_cases h3 : a[n] = b[n]
        · have HC2 := Lib.hid (HC.out.succ h1 h2 h3)
          rw [← h3] at ib
          clear h3
          generalize a[n] = c at ia ib
          have d3 : ((c : Int) == c) = true := beq_self_eq_true _
          go_wp2
          go_quiet (fail)
          rename_i nq
          have HB1 : Hid (Below w.heap.size w (wr.drewN nq)) := below_drewN HBW.out nq
          generalize wr.drewN nq = wq at HB1 ⊢
          go_wp2
          go_roundw
          case rel => exact ⟨n + 1, HC2.out, by go_num, HB1.out⟩
          case measure => simp [intOf]; omega
        · have d3 : ((a[n] : Int) == b[n]) = false := beq_eq_false_iff_ne.2 (by omega)
          have HSTOP : Hid (¬ (n < a.length ∧ n < b.length ∧ a[n]? = b[n]?)) := fun h => by
            rw [List.getElem?_eq_getElem h1, List.getElem?_eq_getElem h2] at h
            exact h3 (Option.some.inj h.2.2)
          clear h3
          generalize a[n] = c1 at ia d3
          generalize b[n] = c2 at ib d3
          have hbw := HBW.out
          go_wp2
          go_quiet (fail)
          rename_i nq
          have HB1 : Hid (Below w.heap.size w (wr.drewN nq)) := below_drewN HBW.out nq
          generalize wr.drewN nq = wq at HB1 ⊢
          have HST : Hid (¬ (n < a.length ∧ n < b.length ∧ a[n]? = b[n]?)) := HSTOP.out
          clear hbw
          go_wp2
          go_loopw [5] (fun i wr => ∃ m : Nat, m ≤ n ∧ m ≤ a.length ∧ (∀ k, Bd x k → k ≤ n → k ≤ m) ∧ i = .int .i64 m ∧ Below w.heap.size w wr) (fun i _ => (intOf i).toNat)
          case atStart => exact ⟨n, Nat.le_refl _, HC.out.1, fun k _ h => h, rfl, HB1.out⟩
          case round =>
            obtain ⟨m, hmn, hml, hmax, rfl, hbel⟩ := hrel
            have HMX := Lib.hid hmax; clear hmax
            have HBEL := Lib.hid hbel; clear hbel
            by_cases g1 : m < a.length
            · have ia := fun w => byte_get HBA.out g1 w
              have hc256 := HBA.out _ (List.getElem_mem g1)
              have HGET := Lib.hid (List.getElem?_eq_getElem g1)
              generalize a[m] = c at ia hc256 HGET
              have HBD : Hid (c / 64 ≠ 2 ↔ Bd x m) := bd_start x m c HX.out.may (by rw [HX.out.bytes]; exact HGET.out)
              have GS := Lib.hid (fun w => start_any c hc256 w)
              have d1 : decide ((m : Int) < a.length) = true := decide_eq_true (by omega)
              by_cases g2 : c / 64 = 2
              · have d2 : decide (c / 64 ≠ 2) = false := decide_eq_false (by simp [g2])
                rw [d2] at GS
                have HNB : Hid (¬ Bd x m) := fun h => absurd g2 (HBD.out.2 h)
                have hm0 : m ≠ 0 := fun h => HNB.out (by rw [h]; exact Bd.zero x)
                obtain ⟨m, rfl⟩ : ∃ k, m = k + 1 := ⟨m - 1, by omega⟩
                replace ia : ∀ w, (Instr.index 9 (.string (bstr a)) (.int .i64 ((m : Int) + 1))).run Try.prog w = .ok (.int .u8 (c : Int)) w := ia
                clear g2 d2 hm0
                go_wp2_with fail
                refine (GS.out _).mono ?_
                rintro e w5 ⟨rfl, rfl⟩
                go_wp2
                go_roundw
                case rel => exact ⟨m, by omega, by omega, fun k hk hkn => by
                  have h5 := HMX.out k hk hkn
                  rcases Nat.lt_or_ge m k with h6 | h6
                  · exact absurd (by rwa [show k = m + 1 by omega] at hk) HNB.out
                  · exact h6, by go_num, HBEL.out⟩
                case measure => simp [intOf]
              · have d2 : decide (c / 64 ≠ 2) = true := decide_eq_true g2
                rw [d2] at GS
                have HYB : Hid (Bd x m) := HBD.out.1 g2
                clear g2 d2
                go_wp2_with fail
                refine (GS.out _).mono ?_
                rintro e w5 ⟨rfl, rfl⟩
                go_wp2
                go_ret
                obtain ⟨p, hp, hpre⟩ := pre_begin HX.out.may HY.out.may (by rw [HX.out.bytes, HY.out.bytes]; exact HC.out) (by rw [HX.out.bytes, HY.out.bytes]; exact HST.out) hmn HYB.out HMX.out
                exact ⟨⟨p, by rw [hp]; rfl, hpre⟩, HBEL.out⟩
            · have d1 : decide ((m : Int) < a.length) = false := decide_eq_false (by omega)
              have HYB : Hid (Bd x m) := by show Bd x m; rw [show m = (E x).length by rw [HX.out.bytes]; omega]; exact Bd.all x
              go_wp2
              go_ret
              obtain ⟨p, hp, hpre⟩ := pre_begin HX.out.may HY.out.may (by rw [HX.out.bytes, HY.out.bytes]; exact HC.out) (by rw [HX.out.bytes, HY.out.bytes]; exact HST.out) hmn HYB.out HMX.out
              exact ⟨⟨p, by rw [hp]; rfl, hpre⟩, HBEL.out⟩
      · have d2 : decide ((n : Int) < b.length) = false := decide_eq_false (by omega)
        have HSTOP : Hid (¬ (n < a.length ∧ n < b.length ∧ a[n]? = b[n]?)) := fun h => h2 h.2.1
        have hbw := HBW.out
        go_wp2
        go_quiet (fail)
        rename_i nq
        have HB1 : Hid (Below w.heap.size w (wr.drewN nq)) := below_drewN HBW.out nq
        generalize wr.drewN nq = wq at HB1 ⊢
        have HST : Hid (¬ (n < a.length ∧ n < b.length ∧ a[n]? = b[n]?)) := HSTOP.out
        clear hbw
        go_wp2
        go_loopw [5] (fun i wr => ∃ m : Nat, m ≤ n ∧ m ≤ a.length ∧ (∀ k, Bd x k → k ≤ n → k ≤ m) ∧ i = .int .i64 m ∧ Below w.heap.size w wr) (fun i _ => (intOf i).toNat)
        case atStart => exact ⟨n, Nat.le_refl _, HC.out.1, fun k _ h => h, rfl, HB1.out⟩
        case round =>
          obtain ⟨m, hmn, hml, hmax, rfl, hbel⟩ := hrel
          have HMX := Lib.hid hmax; clear hmax
          have HBEL := Lib.hid hbel; clear hbel
          by_cases g1 : m < a.length
          · have ia := fun w => byte_get HBA.out g1 w
            have hc256 := HBA.out _ (List.getElem_mem g1)
            have HGET := Lib.hid (List.getElem?_eq_getElem g1)
            generalize a[m] = c at ia hc256 HGET
            have HBD : Hid (c / 64 ≠ 2 ↔ Bd x m) := bd_start x m c HX.out.may (by rw [HX.out.bytes]; exact HGET.out)
            have GS := Lib.hid (fun w => start_any c hc256 w)
            have d1 : decide ((m : Int) < a.length) = true := decide_eq_true (by omega)
            by_cases g2 : c / 64 = 2
            · have d2 : decide (c / 64 ≠ 2) = false := decide_eq_false (by simp [g2])
              rw [d2] at GS
              have HNB : Hid (¬ Bd x m) := fun h => absurd g2 (HBD.out.2 h)
              have hm0 : m ≠ 0 := fun h => HNB.out (by rw [h]; exact Bd.zero x)
              obtain ⟨m, rfl⟩ : ∃ k, m = k + 1 := ⟨m - 1, by omega⟩
              replace ia : ∀ w, (Instr.index 9 (.string (bstr a)) (.int .i64 ((m : Int) + 1))).run Try.prog w = .ok (.int .u8 (c : Int)) w := ia
              clear g2 d2 hm0
              go_wp2_with fail
              refine (GS.out _).mono ?_
              rintro e w5 ⟨rfl, rfl⟩
              go_wp2
              go_roundw
              case rel => exact ⟨m, by omega, by omega, fun k hk hkn => by
                have h5 := HMX.out k hk hkn
                rcases Nat.lt_or_ge m k with h6 | h6
                · exact absurd (by rwa [show k = m + 1 by omega] at hk) HNB.out
                · exact h6, by go_num, HBEL.out⟩
              case measure => simp [intOf]
            · have d2 : decide (c / 64 ≠ 2) = true := decide_eq_true g2
              rw [d2] at GS
              have HYB : Hid (Bd x m) := HBD.out.1 g2
              clear g2 d2
              go_wp2_with fail
              refine (GS.out _).mono ?_
              rintro e w5 ⟨rfl, rfl⟩
              go_wp2
              go_ret
              obtain ⟨p, hp, hpre⟩ := pre_begin HX.out.may HY.out.may (by rw [HX.out.bytes, HY.out.bytes]; exact HC.out) (by rw [HX.out.bytes, HY.out.bytes]; exact HST.out) hmn HYB.out HMX.out
              exact ⟨⟨p, by rw [hp]; rfl, hpre⟩, HBEL.out⟩
          · have d1 : decide ((m : Int) < a.length) = false := decide_eq_false (by omega)
            have HYB : Hid (Bd x m) := by show Bd x m; rw [show m = (E x).length by rw [HX.out.bytes]; omega]; exact Bd.all x
            go_wp2
            go_ret
            obtain ⟨p, hp, hpre⟩ := pre_begin HX.out.may HY.out.may (by rw [HX.out.bytes, HY.out.bytes]; exact HC.out) (by rw [HX.out.bytes, HY.out.bytes]; exact HST.out) hmn HYB.out HMX.out
            exact ⟨⟨p, by rw [hp]; rfl, hpre⟩, HBEL.out⟩
    · have d1 : decide ((n : Int) < a.length) = false := decide_eq_false (by omega)
      have HSTOP : Hid (¬ (n < a.length ∧ n < b.length ∧ a[n]? = b[n]?)) := fun h => h1 h.1
      have hbw := HBW.out
      go_wp2
      go_quiet (fail)
      rename_i nq
      have HB1 : Hid (Below w.heap.size w (wr.drewN nq)) := below_drewN HBW.out nq
      generalize wr.drewN nq = wq at HB1 ⊢
      have HST : Hid (¬ (n < a.length ∧ n < b.length ∧ a[n]? = b[n]?)) := HSTOP.out
      clear hbw
      go_wp2
      go_loopw [5] (fun i wr => ∃ m : Nat, m ≤ n ∧ m ≤ a.length ∧ (∀ k, Bd x k → k ≤ n → k ≤ m) ∧ i = .int .i64 m ∧ Below w.heap.size w wr) (fun i _ => (intOf i).toNat)
      case atStart => exact ⟨n, Nat.le_refl _, HC.out.1, fun k _ h => h, rfl, HB1.out⟩
      case round =>
        obtain ⟨m, hmn, hml, hmax, rfl, hbel⟩ := hrel
        have HMX := Lib.hid hmax; clear hmax
        have HBEL := Lib.hid hbel; clear hbel
        by_cases g1 : m < a.length
        · have ia := fun w => byte_get HBA.out g1 w
          have hc256 := HBA.out _ (List.getElem_mem g1)
          have HGET := Lib.hid (List.getElem?_eq_getElem g1)
          generalize a[m] = c at ia hc256 HGET
          have HBD : Hid (c / 64 ≠ 2 ↔ Bd x m) := bd_start x m c HX.out.may (by rw [HX.out.bytes]; exact HGET.out)
          have GS := Lib.hid (fun w => start_any c hc256 w)
          have d1 : decide ((m : Int) < a.length) = true := decide_eq_true (by omega)
          by_cases g2 : c / 64 = 2
          · have d2 : decide (c / 64 ≠ 2) = false := decide_eq_false (by simp [g2])
            rw [d2] at GS
            have HNB : Hid (¬ Bd x m) := fun h => absurd g2 (HBD.out.2 h)
            have hm0 : m ≠ 0 := fun h => HNB.out (by rw [h]; exact Bd.zero x)
            obtain ⟨m, rfl⟩ : ∃ k, m = k + 1 := ⟨m - 1, by omega⟩
            replace ia : ∀ w, (Instr.index 9 (.string (bstr a)) (.int .i64 ((m : Int) + 1))).run Try.prog w = .ok (.int .u8 (c : Int)) w := ia
            clear g2 d2 hm0
            go_wp2_with fail
            refine (GS.out _).mono ?_
            rintro e w5 ⟨rfl, rfl⟩
            go_wp2
            go_roundw
            case rel => exact ⟨m, by omega, by omega, fun k hk hkn => by
              have h5 := HMX.out k hk hkn
              rcases Nat.lt_or_ge m k with h6 | h6
              · exact absurd (by rwa [show k = m + 1 by omega] at hk) HNB.out
              · exact h6, by go_num, HBEL.out⟩
            case measure => simp [intOf]
          · have d2 : decide (c / 64 ≠ 2) = true := decide_eq_true g2
            rw [d2] at GS
            have HYB : Hid (Bd x m) := HBD.out.1 g2
            clear g2 d2
            go_wp2_with fail
            refine (GS.out _).mono ?_
            rintro e w5 ⟨rfl, rfl⟩
            go_wp2
            go_ret
            obtain ⟨p, hp, hpre⟩ := pre_begin HX.out.may HY.out.may (by rw [HX.out.bytes, HY.out.bytes]; exact HC.out) (by rw [HX.out.bytes, HY.out.bytes]; exact HST.out) hmn HYB.out HMX.out
            exact ⟨⟨p, by rw [hp]; rfl, hpre⟩, HBEL.out⟩
        · have d1 : decide ((m : Int) < a.length) = false := decide_eq_false (by omega)
          have HYB : Hid (Bd x m) := by show Bd x m; rw [show m = (E x).length by rw [HX.out.bytes]; omega]; exact Bd.all x
          go_wp2
          go_ret
          obtain ⟨p, hp, hpre⟩ := pre_begin HX.out.may HY.out.may (by rw [HX.out.bytes, HY.out.bytes]; exact HC.out) (by rw [HX.out.bytes, HY.out.bytes]; exact HST.out) hmn HYB.out HMX.out
          exact ⟨⟨p, by rw [hp]; rfl, hpre⟩, HBEL.out⟩
end Go.Proofs.Ytfbkdabnbddgpaa

/- apply's finish: how many bytes the code points have with which two texts end alike. Condition: no more than 2^40 bytes. -/
namespace Go.Proofs.Ytfbkdabnbddgpaa
open Go.RowKit Go.Deep

theorem byte_getZ {l : List Nat} (hb : ∀ x ∈ l, x < 256) {k : Nat} (h : k < l.length) {z : Int} (hz : z = (k : Int)) (w : World) : (Instr.index 9 (.string (bstr l)) (.int .i64 z)).run Try.prog w = .ok (.int .u8 (l[k] : Int)) w := by
  rw [hz]
  exact byte_get hb h w

set_option maxHeartbeats 4000000 in
set_option maxRecDepth 100000 in
theorem apFinish_any {a b x y : List Nat} (hx : V a x) (hy : V b y) (hal : a.length ≤ 1099511627776) (hbl : b.length ≤ 1099511627776) (w : World) :
    Calls Try.prog 39 #[.string (bstr a), .string (bstr b)] w fun e w' => (∃ s, e = .returned (.int .i64 ((E (x.drop (x.length - s))).length : Int)) ∧ s ≤ x.length ∧ SufOf x y 0 s) ∧ Below w.heap.size w w' := by
  have HX := Lib.hid hx; have HY := Lib.hid hy
  have HBA := Lib.hid hx.lt; have HBB := Lib.hid hy.lt
  have hsa := bstr_size a
  have hsb := bstr_size b
  clear hx hy
  go_enter Try.func39, Try.ntmps39
  go_wp2
  go_loopw [5] (fun i wr => ∃ n : Nat, ComS a b n ∧ i = .int .i64 n ∧ Below w.heap.size w wr) (fun i _ => a.length - (intOf i).toNat)
  case atStart => exact ⟨0, ComS.zero a b, rfl, Below.refl _ _⟩
  case round =>
    obtain ⟨n, hc, rfl, hbw⟩ := hrel
    have HC := Lib.hid hc; clear hc
    have HBW := Lib.hid hbw; clear hbw
    by_cases h1 : n < a.length
    · have d1 : decide ((n : Int) < a.length) = true := decide_eq_true (by omega)
      by_cases h2 : n < b.length
      · have d2 : decide ((n : Int) < b.length) = true := decide_eq_true (by omega)
        have k1 : a.length - 1 - n < a.length := by omega
        have k2 : b.length - 1 - n < b.length := by omega
        have ia : ∀ w, (Instr.index 9 (.string (bstr a)) (.int .i64 ((a.length : Int) - 1 - n))).run Try.prog w = .ok (.int .u8 (a[a.length - 1 - n] : Int)) w := fun w => byte_getZ HBA.out k1 (by omega) w
        have ib : ∀ w, (Instr.index 9 (.string (bstr b)) (.int .i64 ((b.length : Int) - 1 - n))).run Try.prog w = .ok (.int .u8 (b[b.length - 1 - n] : Int)) w := fun w => byte_getZ HBB.out k2 (by omega) w
        by_cases h3 : a[a.length - 1 - n] = b[b.length - 1 - n]
        · have HC2 := Lib.hid (HC.out.succ h1 h2 h3)
          rw [← h3] at ib
          clear h3
          generalize a[a.length - 1 - n] = c at ia ib
          have d3 : ((c : Int) == c) = true := beq_self_eq_true _
          go_wp2
          go_quiet (fail)
          rename_i nq
          have HB1 : Hid (Below w.heap.size w (wr.drewN nq)) := below_drewN HBW.out nq
          generalize wr.drewN nq = wq at HB1 ⊢
          go_wp2
          go_roundw
          case rel => exact ⟨n + 1, HC2.out, by go_num, HB1.out⟩
          case measure => simp [intOf]; omega
        · have d3 : ((a[a.length - 1 - n] : Int) == b[b.length - 1 - n]) = false := beq_eq_false_iff_ne.2 (by omega)
          have HSTOP : Hid (¬ (n < a.length ∧ n < b.length ∧ a[a.length - 1 - n]? = b[b.length - 1 - n]?)) := fun h => by
            rw [List.getElem?_eq_getElem k1, List.getElem?_eq_getElem k2] at h
            exact h3 (Option.some.inj h.2.2)
          clear h3
          generalize a[a.length - 1 - n] = c1 at ia d3
          generalize b[b.length - 1 - n] = c2 at ib d3
          have hbw := HBW.out
          go_wp2
          go_quiet (fail)
          rename_i nq
          have HB1 : Hid (Below w.heap.size w (wr.drewN nq)) := below_drewN HBW.out nq
          generalize wr.drewN nq = wq at HB1 ⊢
          have HST : Hid (¬ (n < a.length ∧ n < b.length ∧ a[a.length - 1 - n]? = b[b.length - 1 - n]?)) := HSTOP.out
          clear hbw
          go_wp2
          go_loopw [5] (fun i wr => ∃ m : Nat, m ≤ n ∧ m ≤ a.length ∧ (∀ k, k ≤ a.length → Bd x (a.length - k) → k ≤ n → k ≤ m) ∧ i = .int .i64 m ∧ Below w.heap.size w wr) (fun i _ => (intOf i).toNat)
          case atStart => exact ⟨n, Nat.le_refl _, HC.out.1, fun k _ _ h => h, rfl, HB1.out⟩
          case round =>
            obtain ⟨m, hmn, hml, hmax, rfl, hbel⟩ := hrel
            have HMX := Lib.hid hmax; clear hmax
            have HBEL := Lib.hid hbel; clear hbel
            by_cases g1 : 0 < m
            · have gl : a.length - m < a.length := by omega
              have ia : ∀ w, (Instr.index 9 (.string (bstr a)) (.int .i64 ((a.length : Int) - m))).run Try.prog w = .ok (.int .u8 (a[a.length - m] : Int)) w := fun w => byte_getZ HBA.out gl (by omega) w
              have hc256 := HBA.out _ (List.getElem_mem gl)
              have HGET := Lib.hid (List.getElem?_eq_getElem gl)
              generalize a[a.length - m] = c at ia hc256 HGET
              have HBD : Hid (c / 64 ≠ 2 ↔ Bd x (a.length - m)) := bd_start x (a.length - m) c HX.out.may (by rw [HX.out.bytes]; exact HGET.out)
              have GS := Lib.hid (fun w => start_any c hc256 w)
              have d1 : decide ((0 : Int) < m) = true := decide_eq_true (by omega)
              by_cases g2 : c / 64 = 2
              · have d2 : decide (c / 64 ≠ 2) = false := decide_eq_false (by simp [g2])
                rw [d2] at GS
                have HNB : Hid (¬ Bd x (a.length - m)) := fun h => absurd g2 (HBD.out.2 h)
                clear g2 d2
                go_wp2_with fail
                refine (GS.out _).mono ?_
                rintro e w5 ⟨rfl, rfl⟩
                go_wp2
                go_roundw
                case rel => exact ⟨m - 1, by omega, by omega, fun k hka hk hkn => by
                  have h5 := HMX.out k hka hk hkn
                  rcases Nat.lt_or_ge (m - 1) k with h6 | h6
                  · exact absurd (by rwa [show k = m by omega] at hk) HNB.out
                  · exact h6, by congr 1; omega, HBEL.out⟩
                case measure => simp [intOf]; omega
              · have d2 : decide (c / 64 ≠ 2) = true := decide_eq_true g2
                rw [d2] at GS
                have HYB : Hid (Bd x (a.length - m)) := HBD.out.1 g2
                clear g2 d2
                go_wp2_with fail
                refine (GS.out _).mono ?_
                rintro e w5 ⟨rfl, rfl⟩
                go_wp2
                go_ret
                obtain ⟨s, hs, hsn, hsuf⟩ := suf_finish HX.out.may HY.out.may (by rw [HX.out.bytes, HY.out.bytes]; exact HC.out) (by rw [HX.out.bytes, HY.out.bytes]; exact HST.out) hmn (by rw [HX.out.bytes]; exact HYB.out) (by rw [HX.out.bytes]; exact HMX.out)
                exact ⟨⟨s, by rw [hsn]; rfl, hs, hsuf⟩, HBEL.out⟩
            · have d1 : decide ((0 : Int) < m) = false := decide_eq_false (by omega)
              have HYB : Hid (Bd x (a.length - m)) := by show Bd x _; rw [show a.length - m = (E x).length by rw [HX.out.bytes]; omega]; exact Bd.all x
              go_wp2
              go_ret
              obtain ⟨s, hs, hsn, hsuf⟩ := suf_finish HX.out.may HY.out.may (by rw [HX.out.bytes, HY.out.bytes]; exact HC.out) (by rw [HX.out.bytes, HY.out.bytes]; exact HST.out) hmn (by rw [HX.out.bytes]; exact HYB.out) (by rw [HX.out.bytes]; exact HMX.out)
              exact ⟨⟨s, by rw [hsn]; rfl, hs, hsuf⟩, HBEL.out⟩
      · have d2 : decide ((n : Int) < b.length) = false := decide_eq_false (by omega)
        have HSTOP : Hid (¬ (n < a.length ∧ n < b.length ∧ a[a.length - 1 - n]? = b[b.length - 1 - n]?)) := fun h => h2 h.2.1
        have hbw := HBW.out
        go_wp2
        go_quiet (fail)
        rename_i nq
        have HB1 : Hid (Below w.heap.size w (wr.drewN nq)) := below_drewN HBW.out nq
        generalize wr.drewN nq = wq at HB1 ⊢
        have HST : Hid (¬ (n < a.length ∧ n < b.length ∧ a[a.length - 1 - n]? = b[b.length - 1 - n]?)) := HSTOP.out
        clear hbw
        go_wp2
        go_loopw [5] (fun i wr => ∃ m : Nat, m ≤ n ∧ m ≤ a.length ∧ (∀ k, k ≤ a.length → Bd x (a.length - k) → k ≤ n → k ≤ m) ∧ i = .int .i64 m ∧ Below w.heap.size w wr) (fun i _ => (intOf i).toNat)
        case atStart => exact ⟨n, Nat.le_refl _, HC.out.1, fun k _ _ h => h, rfl, HB1.out⟩
        case round =>
          obtain ⟨m, hmn, hml, hmax, rfl, hbel⟩ := hrel
          have HMX := Lib.hid hmax; clear hmax
          have HBEL := Lib.hid hbel; clear hbel
          by_cases g1 : 0 < m
          · have gl : a.length - m < a.length := by omega
            have ia : ∀ w, (Instr.index 9 (.string (bstr a)) (.int .i64 ((a.length : Int) - m))).run Try.prog w = .ok (.int .u8 (a[a.length - m] : Int)) w := fun w => byte_getZ HBA.out gl (by omega) w
            have hc256 := HBA.out _ (List.getElem_mem gl)
            have HGET := Lib.hid (List.getElem?_eq_getElem gl)
            generalize a[a.length - m] = c at ia hc256 HGET
            have HBD : Hid (c / 64 ≠ 2 ↔ Bd x (a.length - m)) := bd_start x (a.length - m) c HX.out.may (by rw [HX.out.bytes]; exact HGET.out)
            have GS := Lib.hid (fun w => start_any c hc256 w)
            have d1 : decide ((0 : Int) < m) = true := decide_eq_true (by omega)
            by_cases g2 : c / 64 = 2
            · have d2 : decide (c / 64 ≠ 2) = false := decide_eq_false (by simp [g2])
              rw [d2] at GS
              have HNB : Hid (¬ Bd x (a.length - m)) := fun h => absurd g2 (HBD.out.2 h)
              clear g2 d2
              go_wp2_with fail
              refine (GS.out _).mono ?_
              rintro e w5 ⟨rfl, rfl⟩
              go_wp2
              go_roundw
              case rel => exact ⟨m - 1, by omega, by omega, fun k hka hk hkn => by
                have h5 := HMX.out k hka hk hkn
                rcases Nat.lt_or_ge (m - 1) k with h6 | h6
                · exact absurd (by rwa [show k = m by omega] at hk) HNB.out
                · exact h6, by congr 1; omega, HBEL.out⟩
              case measure => simp [intOf]; omega
            · have d2 : decide (c / 64 ≠ 2) = true := decide_eq_true g2
              rw [d2] at GS
              have HYB : Hid (Bd x (a.length - m)) := HBD.out.1 g2
              clear g2 d2
              go_wp2_with fail
              refine (GS.out _).mono ?_
              rintro e w5 ⟨rfl, rfl⟩
              go_wp2
              go_ret
              obtain ⟨s, hs, hsn, hsuf⟩ := suf_finish HX.out.may HY.out.may (by rw [HX.out.bytes, HY.out.bytes]; exact HC.out) (by rw [HX.out.bytes, HY.out.bytes]; exact HST.out) hmn (by rw [HX.out.bytes]; exact HYB.out) (by rw [HX.out.bytes]; exact HMX.out)
              exact ⟨⟨s, by rw [hsn]; rfl, hs, hsuf⟩, HBEL.out⟩
          · have d1 : decide ((0 : Int) < m) = false := decide_eq_false (by omega)
            have HYB : Hid (Bd x (a.length - m)) := by show Bd x _; rw [show a.length - m = (E x).length by rw [HX.out.bytes]; omega]; exact Bd.all x
            go_wp2
            go_ret
            obtain ⟨s, hs, hsn, hsuf⟩ := suf_finish HX.out.may HY.out.may (by rw [HX.out.bytes, HY.out.bytes]; exact HC.out) (by rw [HX.out.bytes, HY.out.bytes]; exact HST.out) hmn (by rw [HX.out.bytes]; exact HYB.out) (by rw [HX.out.bytes]; exact HMX.out)
            exact ⟨⟨s, by rw [hsn]; rfl, hs, hsuf⟩, HBEL.out⟩
    · have d1 : decide ((n : Int) < a.length) = false := decide_eq_false (by omega)
      have HSTOP : Hid (¬ (n < a.length ∧ n < b.length ∧ a[a.length - 1 - n]? = b[b.length - 1 - n]?)) := fun h => h1 h.1
      have hbw := HBW.out
      go_wp2
      go_quiet (fail)
      rename_i nq
      have HB1 : Hid (Below w.heap.size w (wr.drewN nq)) := below_drewN HBW.out nq
      generalize wr.drewN nq = wq at HB1 ⊢
      have HST : Hid (¬ (n < a.length ∧ n < b.length ∧ a[a.length - 1 - n]? = b[b.length - 1 - n]?)) := HSTOP.out
      clear hbw
      go_wp2
      go_loopw [5] (fun i wr => ∃ m : Nat, m ≤ n ∧ m ≤ a.length ∧ (∀ k, k ≤ a.length → Bd x (a.length - k) → k ≤ n → k ≤ m) ∧ i = .int .i64 m ∧ Below w.heap.size w wr) (fun i _ => (intOf i).toNat)
      case atStart => exact ⟨n, Nat.le_refl _, HC.out.1, fun k _ _ h => h, rfl, HB1.out⟩
      case round =>
        obtain ⟨m, hmn, hml, hmax, rfl, hbel⟩ := hrel
        have HMX := Lib.hid hmax; clear hmax
        have HBEL := Lib.hid hbel; clear hbel
        by_cases g1 : 0 < m
        · have gl : a.length - m < a.length := by omega
          have ia : ∀ w, (Instr.index 9 (.string (bstr a)) (.int .i64 ((a.length : Int) - m))).run Try.prog w = .ok (.int .u8 (a[a.length - m] : Int)) w := fun w => byte_getZ HBA.out gl (by omega) w
          have hc256 := HBA.out _ (List.getElem_mem gl)
          have HGET := Lib.hid (List.getElem?_eq_getElem gl)
          generalize a[a.length - m] = c at ia hc256 HGET
          have HBD : Hid (c / 64 ≠ 2 ↔ Bd x (a.length - m)) := bd_start x (a.length - m) c HX.out.may (by rw [HX.out.bytes]; exact HGET.out)
          have GS := Lib.hid (fun w => start_any c hc256 w)
          have d1 : decide ((0 : Int) < m) = true := decide_eq_true (by omega)
          by_cases g2 : c / 64 = 2
          · have d2 : decide (c / 64 ≠ 2) = false := decide_eq_false (by simp [g2])
            rw [d2] at GS
            have HNB : Hid (¬ Bd x (a.length - m)) := fun h => absurd g2 (HBD.out.2 h)
            clear g2 d2
            go_wp2_with fail
            refine (GS.out _).mono ?_
            rintro e w5 ⟨rfl, rfl⟩
            go_wp2
            go_roundw
            case rel => exact ⟨m - 1, by omega, by omega, fun k hka hk hkn => by
              have h5 := HMX.out k hka hk hkn
              rcases Nat.lt_or_ge (m - 1) k with h6 | h6
              · exact absurd (by rwa [show k = m by omega] at hk) HNB.out
              · exact h6, by congr 1; omega, HBEL.out⟩
            case measure => simp [intOf]; omega
          · have d2 : decide (c / 64 ≠ 2) = true := decide_eq_true g2
            rw [d2] at GS
            have HYB : Hid (Bd x (a.length - m)) := HBD.out.1 g2
            clear g2 d2
            go_wp2_with fail
            refine (GS.out _).mono ?_
            rintro e w5 ⟨rfl, rfl⟩
            go_wp2
            go_ret
            obtain ⟨s, hs, hsn, hsuf⟩ := suf_finish HX.out.may HY.out.may (by rw [HX.out.bytes, HY.out.bytes]; exact HC.out) (by rw [HX.out.bytes, HY.out.bytes]; exact HST.out) hmn (by rw [HX.out.bytes]; exact HYB.out) (by rw [HX.out.bytes]; exact HMX.out)
            exact ⟨⟨s, by rw [hsn]; rfl, hs, hsuf⟩, HBEL.out⟩
        · have d1 : decide ((0 : Int) < m) = false := decide_eq_false (by omega)
          have HYB : Hid (Bd x (a.length - m)) := by show Bd x _; rw [show a.length - m = (E x).length by rw [HX.out.bytes]; omega]; exact Bd.all x
          go_wp2
          go_ret
          obtain ⟨s, hs, hsn, hsuf⟩ := suf_finish HX.out.may HY.out.may (by rw [HX.out.bytes, HY.out.bytes]; exact HC.out) (by rw [HX.out.bytes, HY.out.bytes]; exact HST.out) hmn (by rw [HX.out.bytes]; exact HYB.out) (by rw [HX.out.bytes]; exact HMX.out)
          exact ⟨⟨s, by rw [hsn]; rfl, hs, hsuf⟩, HBEL.out⟩
end Go.Proofs.Ytfbkdabnbddgpaa

/- The landed Diff: an edit that makes one text of another. Condition: no more than 2^30 bytes of text. -/
namespace Go.Proofs.Ytfbkdabnbddgpaa
open Go.RowKit Go.Deep

theorem PreOf.take {x y : List Nat} {p : Nat} (h : PreOf x y p) : y.take p = x.take p := by
  obtain ⟨h1, h2, h3, _⟩ := h
  refine List.ext_getElem? fun i => ?_
  rw [List.getElem?_take, List.getElem?_take]
  split
  · exact (h3 i (by assumption)).symm
  · rfl
theorem slice_midZ (l : List Nat) (a b : Nat) {za zb : Int} (ha : za = (a : Int)) (hb : zb = (b : Int)) (h1 : a ≤ b) (h2 : b ≤ l.length) (w : World) :
    (Instr.slice 9 (.string (bstr l)) (some (.int .i64 za)) (some (.int .i64 zb)) none).run Try.prog w = .ok (.string (bstr ((l.take b).drop a))) w := by
  rw [ha, hb]; exact slice_bstr l a b h1 h2 w
theorem slice_fromZ (l : List Nat) (a : Nat) {za : Int} (ha : za = (a : Int)) (h2 : a ≤ l.length) (w : World) :
    (Instr.slice 9 (.string (bstr l)) (some (.int .i64 za)) none none).run Try.prog w = .ok (.string (bstr (l.drop a))) w := by
  rw [ha]; exact slice_bstr_from l a h2 w

set_option maxHeartbeats 4000000 in
set_option maxRecDepth 100000 in
theorem apDiff_yes (a b x y : List Nat) (hx : V a x) (hy : V b y) (hal : a.length ≤ 1073741824) (hbl : b.length ≤ 1073741824) (w : World) :
    Calls Try.prog 13 #[.string (bstr a), .string (bstr b)] w fun e w' => DiffEnd a b w e w' ∧ Below w.heap.size w w' := by
  have hsa := bstr_size a
  have hsb := bstr_size b
  have HX := Lib.hid hx; have HY := Lib.hid hy
  have GVA := Lib.hid (fun w => utfValid_yes hx (by omega) w)
  have GVB := Lib.hid (fun w => utfValid_yes hy (by omega) w)
  have GBG := Lib.hid (fun w => apBegin_any hx hy (by omega) w)
  clear hx hy
  go_enter Try.func13, Try.ntmps13
  go_wp2_with fail
  refine (GVA.out _).mono ?_
  rintro e w1 ⟨rfl, rfl⟩
  go_wp2_with fail
  refine (GVB.out _).mono ?_
  rintro e w1 ⟨rfl, rfl⟩
  go_wp2_with fail
  refine (GBG.out _).mono ?_
  rintro e w1 ⟨⟨p, rfl, hpre⟩, hb1⟩
  have HB1 := Lib.hid hb1; clear hb1
  have HPRE := Lib.hid hpre; clear hpre
  have hmx : ∀ v ∈ x.drop p, May v := fun v hv => HX.out.may v (List.mem_of_mem_drop hv)
  have hmy : ∀ v ∈ y.drop p, May v := fun v hv => HY.out.may v (List.mem_of_mem_drop hv)
  obtain ⟨h, HH⟩ : ∃ h, Hid ((E (x.take p)).length = h) := ⟨_, Lib.hid rfl⟩
  have HHY : Hid ((E (y.take p)).length = h) := by show _ = _; rw [HPRE.out.take]; exact HH.out
  have HHL : Hid (h ≤ a.length) := by show _ ≤ _; rw [← HH.out, ← HX.out.bytes]; exact E_take_len x p
  have HHLB : Hid (h ≤ b.length) := by show _ ≤ _; rw [← HHY.out, ← HY.out.bytes]; exact E_take_len y p
  have ea : a.drop h = E (x.drop p) := by rw [← HX.out.bytes, ← HH.out, E_drop]
  have eb : b.drop h = E (y.drop p) := by rw [← HY.out.bytes, ← HHY.out, E_drop]
  have GF := Lib.hid (fun w => apFinish_any (V.mk hmx) (V.mk hmy) (by rw [← ea, List.length_drop]; omega) (by rw [← eb, List.length_drop]; omega) w)
  have s1 := fun w => slice_bstr_from a h HHL.out w
  have s2 := fun w => slice_bstr_from b h HHLB.out w
  rw [ea] at s1
  rw [eb] at s2
  rw [HH.out]
  clear hmx hmy ea eb
  go_wp2
  refine wp_region_lit [(0, true), (1, true), (2, true), (3, true), (4, true), (5, true), (6, false), (7, true)] (by kernel_rfl) (by kernel_rfl) (fun _ _ d _ _ h => by cases d <;> exact h) ?_
  simp only [picked, List.map_cons, List.map_nil, List.getElem?_cons_succ, List.getElem?_cons_zero, Option.getD_some]
  repeat (refine wpL_quiet (by rfl) (fun K hK => ?_); go_big_quiet_op; refine hK _ ?_; clear hK K)
  refine wpL_call (by rfl) (fun K hK => ?_)
  go_simp
  refine (GF.out _).mono ?_
  rintro e w2 ⟨⟨s, rfl, hsl, hsuf⟩, hb2⟩
  have HB2 : Hid (Below w.heap.size w w2) := (Below.drew HB1.out).trans (hb2.mono (by have := HB1.out.size; simpa using this))
  have HSUF : Hid (SufOf x y p s) := suf_shift HPRE.out.1 HPRE.out.2.1 hsuf
  have HSL : Hid (s ≤ x.length - p) := by have := hsl; rw [List.length_drop] at this; exact this
  obtain ⟨τ, HT⟩ : ∃ τ, Hid ((E ((x.drop p).drop ((x.drop p).length - s))).length = τ) := ⟨_, Lib.hid rfl⟩
  rw [HT.out]
  refine hK _ _ hb2 ?_
  clear hK K hb2 hsuf hsl
  repeat (refine wpL_quiet (by rfl) (fun K hK => ?_); go_big_quiet_op; refine hK _ ?_; clear hK K)
  refine wpL_nil ?_
  -- the places, in code points and in bytes
  have HP1 := Lib.hid HPRE.out.1
  have HP2 := Lib.hid HPRE.out.2.1
  have HSY : Hid (s ≤ y.length - p) := HSUF.out.2.1
  have HTE : Hid ((E (x.drop (x.length - s))).length = τ) := by
    show _ = _
    rw [← HT.out, List.drop_drop, List.length_drop, show p + (x.length - p - s) = x.length - s by have := HSL.out; have := HP1.out; omega]
  have HTY : Hid (E (y.drop (y.length - s)) = E (x.drop (x.length - s))) := by
    show _ = _
    congr 1
    have h3 := HSUF.out.2.2.1
    have := HSL.out; have := HSY.out; have := HP1.out; have := HP2.out
    refine List.ext_getElem? fun i => ?_
    rw [List.getElem?_drop, List.getElem?_drop]
    by_cases hi : i < s
    · have := h3 (s - 1 - i) (by omega)
      rw [show x.length - 1 - (s - 1 - i) = x.length - s + i by omega, show y.length - 1 - (s - 1 - i) = y.length - s + i by omega] at this
      exact this.symm
    · rw [List.getElem?_eq_none (by omega), List.getElem?_eq_none (by omega)]
  have HAS : Hid (a.length = (E (x.take (x.length - s))).length + τ) := by
    show _ = _
    have := congrArg List.length (E_split x (x.length - s))
    rw [HX.out.bytes, List.length_append, HTE.out] at this
    exact this
  have HBS : Hid (b.length = (E (y.take (y.length - s))).length + τ) := by
    show _ = _
    have := congrArg List.length (E_split y (y.length - s))
    rw [HY.out.bytes, List.length_append, HTY.out, HTE.out] at this
    exact this
  have l1 : h ≤ a.length - τ := by
    have := HAS.out
    have := E_len_take x p (x.length - s) (by have := HSL.out; have := HP1.out; omega)
    rw [HH.out] at this
    omega
  have l2 : h ≤ b.length - τ := by
    have := HBS.out
    have := E_len_take y p (y.length - s) (by have := HSY.out; have := HP2.out; omega)
    rw [HHY.out] at this
    omega
  have l3 : τ ≤ a.length := by have := HAS.out; omega
  have l4 : τ ≤ b.length := by have := HBS.out; omega
  have c1 := fun w => slice_bstr_to a h HHL.out w
  have c2 := fun w => slice_midZ a h (a.length - τ) (za := (h : Int)) (zb := (a.length : Int) - τ) rfl (by omega) l1 (by omega) w
  have c3 := fun w => slice_fromZ a (a.length - τ) (za := (a.length : Int) - τ) (by omega) (by omega) w
  have c4 := fun w => slice_midZ b h (b.length - τ) (za := (h : Int)) (zb := (b.length : Int) - τ) rfl (by omega) l2 (by omega) w
  have e1 : a.take h = E (x.take p) := by
    rw [← HX.out.bytes, ← HH.out]
    conv => lhs; rw [E_split x p]
    exact List.take_left' rfl
  have e2 : (a.take (a.length - τ)).drop h = E ((x.take (x.length - s)).drop p) := by
    rw [show a.length - τ = (E (x.take (x.length - s))).length by have := HAS.out; omega, ← HX.out.bytes, ← HH.out]
    exact E_piece x p (x.length - s) (by have := HSL.out; have := HP1.out; omega)
  have e3 : a.drop (a.length - τ) = E (x.drop (x.length - s)) := by
    rw [show a.length - τ = (E (x.take (x.length - s))).length by have := HAS.out; omega, ← HX.out.bytes, E_drop]
  have e4 : (b.take (b.length - τ)).drop h = E ((y.take (y.length - s)).drop p) := by
    rw [show b.length - τ = (E (y.take (y.length - s))).length by have := HBS.out; omega, ← HY.out.bytes, ← HHY.out]
    exact E_piece y p (y.length - s) (by have := HSY.out; have := HP2.out; omega)
  rw [e1] at c1
  rw [e2] at c2
  rw [e3] at c3
  rw [e4] at c4
  have HEL : Hid (∀ z, (∃ u v, E x = u ++ z ++ v) → z.length ≤ 1073741824) := by
    rintro z ⟨u, v, hz⟩
    have := congrArg List.length hz
    rw [HX.out.bytes] at this
    simp only [List.length_append] at this
    omega
  have GN1 := Lib.hid (fun w => utfCount_yes (V.mk (fun v hv => HX.out.may v (List.mem_of_mem_take hv)) : V (E (x.take p)) (x.take p)) (by have := E_take_len x p; rw [HX.out.bytes] at this; omega) w)
  have GN2 := Lib.hid (fun w => utfCount_yes (V.mk (fun v hv => HX.out.may v (List.mem_of_mem_take (List.mem_of_mem_drop hv))) : V (E ((x.take (x.length - s)).drop p)) ((x.take (x.length - s)).drop p)) (by rw [← e2, List.length_drop, List.length_take]; omega) w)
  have GN3 := Lib.hid (fun w => utfCount_yes (V.mk (fun v hv => HX.out.may v (List.mem_of_mem_drop hv)) : V (E (x.drop (x.length - s))) (x.drop (x.length - s))) (by rw [← e3, List.length_drop]; omega) w)
  obtain ⟨D, HD⟩ : ∃ D, Hid (E ((y.take (y.length - s)).drop p) = D) := ⟨_, Lib.hid rfl⟩
  have HDB : Hid ((∀ c ∈ D, c < 256) ∧ D.length ≤ 1099511627776) := by
    rw [← HD.out]
    exact ⟨E_lt fun v hv => HY.out.may v (List.mem_of_mem_take (List.mem_of_mem_drop hv)), by rw [← e4, List.length_drop, List.length_take]; omega⟩
  rw [HD.out] at c4
  clear e1 e2 e3 e4 l1 l2 HEL
  obtain ⟨n1, HN1⟩ : ∃ n, Hid ((x.take p).length = n) := ⟨_, Lib.hid rfl⟩
  obtain ⟨n2, HN2⟩ : ∃ n, Hid (((x.take (x.length - s)).drop p).length = n) := ⟨_, Lib.hid rfl⟩
  obtain ⟨n3, HN3⟩ : ∃ n, Hid ((x.drop (x.length - s)).length = n) := ⟨_, Lib.hid rfl⟩
  rw [HN1.out] at GN1
  rw [HN2.out] at GN2
  rw [HN3.out] at GN3
  have HM1 : Hid (n1 = p) := by show _ = _; rw [← HN1.out, List.length_take]; have := HP1.out; omega
  have HM2 : Hid (n2 = x.length - s - p) := by show _ = _; rw [← HN2.out, List.length_drop, List.length_take]; omega
  have HM3 : Hid (n3 = s) := by show _ = _; rw [← HN3.out, List.length_drop]; have := HSL.out; omega
  have HXL : Hid (x.length ≤ 1073741824) := Nat.le_trans HX.out.length_le hal
  have b1 : n1 ≤ 1073741824 := by have := HM1.out; have := HP1.out; have := HXL.out; omega
  have b2 : n2 ≤ 1073741824 := by have := HM2.out; have := HXL.out; omega
  have b3 : n3 ≤ 1073741824 := by have := HM3.out; have := HXL.out; have := HSL.out; omega
  have GO := Lib.hid (fun w => opOf_any ((n1 : Int) + n2 + n3) n1 ((n1 : Int) + n2) D (by omega) HDB.out.1 HDB.out.2 w)
  generalize bstr (E (x.take p)) = S1 at c1 GN1
  generalize bstr (E ((x.take (x.length - s)).drop p)) = S2 at c2 GN2
  generalize bstr (E (x.drop (x.length - s))) = S3 at c3 GN3
  go_wp2_with fail
  refine (GN1.out _).mono ?_
  rintro e w3 ⟨rfl, hb3⟩
  have HB3 : Hid (Below w.heap.size w w3) := HB2.out.trans (hb3.mono HB2.out.size)
  clear hb3
  go_wp2_with fail
  refine (GN2.out _).mono ?_
  rintro e w4 ⟨rfl, hb4⟩
  have HB4 : Hid (Below w.heap.size w w4) := HB3.out.trans (hb4.mono HB3.out.size)
  clear hb4
  go_wp2_with fail
  refine (GN3.out _).mono ?_
  rintro e w5 ⟨rfl, hb5⟩
  have HB5 : Hid (Below w.heap.size w w5) := HB4.out.trans (hb5.mono HB4.out.size)
  clear hb5
  go_wp2_with fail
  refine (GO.out _).mono ?_
  rintro e w6 ⟨hend, hb6⟩
  have HB6 : Hid (Below w.heap.size w w6) := HB5.out.trans (hb6.mono HB5.out.size)
  have HFIN : Hid (∀ e, OfEnd ((n1 : Int) + n2 + n3) n1 ((n1 : Int) + n2) D w5 e w6 → DiffEnd a b w e w6) := by
    intro e h
    refine .inr ⟨x, y, p, s, HX.out, HY.out, HPRE.out, HSUF.out, ?_⟩
    have e1 : (n1 : Int) = p := by have := HM1.out; omega
    have e2 : (n1 : Int) + n2 = ((x.length - s : Nat) : Int) := by have := HM1.out; have := HM2.out; have := HSL.out; have := HP1.out; omega
    have e3 : (n1 : Int) + n2 + n3 = (x.length : Int) := by have := HM3.out; have := HSL.out; have := HP1.out; omega
    rw [e3, e2, e1] at h
    rw [HD.out]
    rcases h with h | ⟨h, A, c, h2, h3⟩
    · exact .inl h
    · exact .inr ⟨h, A, c, h2, own_base h3 HB5.out.size⟩
  clear hb6
  rcases hend with ⟨hno, rfl⟩ | ⟨hno, A, c, rfl, ho⟩
  · have HE := Lib.hid (HFIN.out _ (.inl ⟨hno, rfl⟩))
    clear hno
    go_wp2
    go_ret2
    exact ⟨HE.out, HB6.out⟩
  · have HE := Lib.hid (HFIN.out _ (.inr ⟨hno, A, c, rfl, ho⟩))
    clear hno ho
    go_wp2
    go_ret2
    exact ⟨HE.out, HB6.out⟩

set_option maxHeartbeats 4000000 in
set_option maxRecDepth 100000 in
theorem apDiff_any (a b : List Nat) (ha : ∀ x ∈ a, x < 256) (hb : ∀ x ∈ b, x < 256) (hal : a.length ≤ 1073741824) (hbl : b.length ≤ 1073741824) (w : World) :
    Calls Try.prog 13 #[.string (bstr a), .string (bstr b)] w fun e w' => DiffEnd a b w e w' ∧ Below w.heap.size w w' := by
  by_cases h1 : ∃ x, V a x
  · by_cases h2 : ∃ y, V b y
    · obtain ⟨x, hx⟩ := h1
      obtain ⟨y, hy⟩ := h2
      exact apDiff_yes a b x y hx hy hal hbl w
    · have HE : Hid (∀ w', DiffEnd a b w (.returned (.tuple #[.slice none 0 0, .int .i64 2])) w') := fun w' => .inl ⟨.inr h2, rfl⟩
      obtain ⟨x, hx⟩ := h1
      have GVA := Lib.hid (fun w => utfValid_yes hx (by omega) w)
      have GVB := Lib.hid (fun w => utfValid_no h2 hb (by omega) w)
      clear hx h2
      go_enter Try.func13, Try.ntmps13
      go_wp2_with fail
      refine (GVA.out _).mono ?_
      rintro e w1 ⟨rfl, rfl⟩
      go_wp2_with fail
      refine (GVB.out _).mono ?_
      rintro e w1 ⟨rfl, rfl⟩
      go_wp2
      go_ret2
      exact ⟨HE.out _, Below.refl _ _⟩
  · have HE : Hid (∀ w', DiffEnd a b w (.returned (.tuple #[.slice none 0 0, .int .i64 2])) w') := fun w' => .inl ⟨.inl h1, rfl⟩
    have GVA := Lib.hid (fun w => utfValid_no h1 ha (by omega) w)
    clear h1
    go_enter Try.func13, Try.ntmps13
    go_wp2_with fail
    refine (GVA.out _).mono ?_
    rintro e w1 ⟨rfl, rfl⟩
    go_wp2
    go_ret2
    exact ⟨HE.out _, Below.refl _ _⟩
end Go.Proofs.Ytfbkdabnbddgpaa

/- What Diff answers, as a function of the two texts; the document's own and the landed one both answer so. No condition. -/
namespace Go.Proofs.Ytfbkdabnbddgpaa
open Go.RowKit Go.Deep

theorem run_exists (Q : Nat → Prop) : ∀ N, ∃ s, s ≤ N ∧ (∀ i, i < s → Q i) ∧ ¬ (s < N ∧ Q s)
  | 0 => ⟨0, Nat.le_refl _, fun i h => by omega, fun h => by omega⟩
  | N + 1 => by
    obtain ⟨s, h1, h2, h3⟩ := run_exists Q N
    by_cases hs : s < N
    · exact ⟨s, by omega, h2, fun h => h3 ⟨hs, h.2⟩⟩
    · have e : s = N := by omega
      subst e
      by_cases hq : Q s
      · refine ⟨s + 1, Nat.le_refl _, fun i hi => ?_, fun h => by omega⟩
        rcases Nat.lt_or_ge i s with h | h
        · exact h2 i h
        · rw [show i = s by omega]; exact hq
      · exact ⟨s, by omega, h2, fun h => hq h.2⟩
theorem pre_exists (x y : List Nat) : ∃ p, PreOf x y p := by
  obtain ⟨p, h1, h2, h3⟩ := run_exists (fun i => x[i]? = y[i]?) (min x.length y.length)
  exact ⟨p, by omega, by omega, h2, fun h => h3 ⟨by omega, h.2.2⟩⟩
theorem suf_exists (x y : List Nat) (p : Nat) : ∃ s, SufOf x y p s := by
  obtain ⟨s, h1, h2, h3⟩ := run_exists (fun i => x[x.length - 1 - i]? = y[y.length - 1 - i]?) (min (x.length - p) (y.length - p))
  exact ⟨s, by omega, by omega, h2, fun h => h3 ⟨by omega, h.2.2⟩⟩
theorem PreOf.uniq {x y : List Nat} {p q : Nat} (h : PreOf x y p) (k : PreOf x y q) : p = q := by
  obtain ⟨h1, h2, h3, h4⟩ := h
  obtain ⟨k1, k2, k3, k4⟩ := k
  rcases Nat.lt_or_ge p q with hh | hh
  · exact absurd ⟨by omega, by omega, k3 p hh⟩ h4
  · rcases Nat.lt_or_ge q p with hk | hk
    · exact absurd ⟨by omega, by omega, h3 q hk⟩ k4
    · omega
theorem SufOf.uniq {x y : List Nat} {p s r : Nat} (h : SufOf x y p s) (k : SufOf x y p r) : s = r := by
  obtain ⟨h1, h2, h3, h4⟩ := h
  obtain ⟨k1, k2, k3, k4⟩ := k
  rcases Nat.lt_or_ge s r with hh | hh
  · exact absurd ⟨by omega, by omega, k3 s hh⟩ h4
  · rcases Nat.lt_or_ge r s with hk | hk
    · exact absurd ⟨by omega, by omega, h3 r hk⟩ k4
    · omega
noncomputable def preN (x y : List Nat) : Nat := Classical.choose (pre_exists x y)
theorem preN_pre (x y : List Nat) : PreOf x y (preN x y) := Classical.choose_spec (pre_exists x y)
noncomputable def sufN (x y : List Nat) : Nat := Classical.choose (suf_exists x y (preN x y))
theorem sufN_suf (x y : List Nat) : SufOf x y (preN x y) (sufN x y) := Classical.choose_spec (suf_exists x y (preN x y))

/-- What Diff puts in. -/
noncomputable def midT (x y : List Nat) : List Nat := E ((y.take (y.length - sufN x y)).drop (preN x y))
open Classical in
/-- Diff's error, and its edit. -/
noncomputable def fErr (a b : List Nat) : Nat := if (∃ x, V a x) ∧ ∃ y, V b y then 0 else 2
open Classical in
noncomputable def fOut (a b : List Nat) : List CompV :=
  if (∃ x, V a x) ∧ ∃ y, V b y then rNormal (ofParts ((cps a).length : Int) (preN (cps a) (cps b) : Int) (((cps a).length - sufN (cps a) (cps b) : Nat) : Int) (midT (cps a) (cps b))) else []
theorem fErr_no {a b : List Nat} (h : ¬ (∃ x, V a x) ∨ ¬ ∃ y, V b y) : fErr a b = 2 := if_neg (fun hh => h.elim (fun h => h hh.1) (fun h => h hh.2))
theorem fOut_no {a b : List Nat} (h : ¬ (∃ x, V a x) ∨ ¬ ∃ y, V b y) : fOut a b = [] := if_neg (fun hh => h.elim (fun h => h hh.1) (fun h => h hh.2))
theorem fErr_yes {a b x y : List Nat} (hx : V a x) (hy : V b y) : fErr a b = 0 := if_pos ⟨⟨x, hx⟩, y, hy⟩
theorem fOut_yes {a b x y : List Nat} (hx : V a x) (hy : V b y) : fOut a b = rNormal (ofParts (x.length : Int) (preN x y : Int) ((x.length - sufN x y : Nat) : Int) (midT x y)) := by
  rw [fOut, if_pos ⟨⟨x, hx⟩, y, hy⟩, cps_of hx, cps_of hy]
theorem midT_V {x y : List Nat} (hy : ∀ v ∈ y, May v) : V (midT x y) ((y.take (y.length - sufN x y)).drop (preN x y)) := V.mk fun v hv => hy v (List.mem_of_mem_take (List.mem_of_mem_drop hv))
theorem diff_not {x y : List Nat} (hy : ∀ v ∈ y, May v) : ¬ OfNo (x.length : Int) (preN x y : Int) ((x.length - sufN x y : Nat) : Int) (midT x y) := by
  have h1 := (preN_pre x y).1
  have h2 := (sufN_suf x y).1
  rintro (h | h | h | h)
  · omega
  · omega
  · omega
  · exact h ⟨_, midT_V hy⟩
/-- What is told of Diff. -/
def FEnd (a b : List Nat) (w : World) (e : Ending) (w' : World) : Prop :=
  ∃ A c, e = .returned (.tuple #[.slice A (fOut a b).length c, .int .i64 (fErr a b : Int)]) ∧ w'.ownsRow w.heap.size 45 3 (.slice A (fOut a b).length c) (fOut a b).length ((fOut a b).flatMap compCells)
theorem DiffEnd.fn {a b : List Nat} {w w' : World} {e : Ending} (h : DiffEnd a b w e w') : FEnd a b w e w' := by
  rcases h with ⟨hn, rfl⟩ | ⟨x, y, p, s, hx, hy, hp, hs, ho⟩
  · rw [FEnd, fOut_no hn, fErr_no hn]; exact ⟨none, 0, rfl, World.ownsRow_nil _ _ _ _⟩
  · obtain rfl := hp.uniq (preN_pre x y)
    obtain rfl := hs.uniq (sufN_suf x y)
    rw [FEnd, fOut_yes hx hy, fErr_yes hx hy]
    rcases ho with ⟨hno, _⟩ | ⟨_, A, c, rfl, hr⟩
    · exact absurd hno (diff_not hy.may)
    · exact ⟨A, c, rfl, hr⟩
end Go.Proofs.Ytfbkdabnbddgpaa
