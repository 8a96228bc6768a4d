/- The contract of the document's own reader of numbers, ropewalkref1.Get: called with any slice of bytes it answers what 'rg' answers of them, and changes nothing. Condition: no slice is longer than memory. (Merged of 11 texts.) -/
import Derived.Below
import Derived.Test.YtkapfijokmajlaaQBase
import Derived.Deep.OwnRows
import Derived.Lib.Hide
import Derived.Test.YtkapfijokmajlaaRows
import Derived.WalkKit
import Derived.Test.YtkapfijokmajlaaShelf
import Derived.Scope
import Derived.Maps.AppendAt
import Derived.Deep.AppendLies
/- Plain mathematics of numbers in groups of seven binary digits: how many groups, their bytes, and how bytes are read. Nothing of Go; no condition beyond those that each lemma states. -/
namespace Go.Proofs.Ytkapfijokmajlaa

/-- How many groups of seven digits n has, at most six. -/
def nsz (n : Nat) : Nat := if n < 128 then 1 else if n < 16384 then 2 else if n < 2097152 then 3 else if n < 268435456 then 4 else if n < 34359738368 then 5 else 6
/-- The byte of n that stands i places ahead of the last one. -/
def nb (n i : Nat) : Nat := if i = 0 then n % 128 else n / 128 ^ i % 128 + 128
/-- The last k + 1 bytes. -/
def nt (n : Nat) : Nat → List Nat
  | 0 => [nb n 0]
  | k + 1 => nb n (k + 1) :: nt n k
/-- The bytes of n. -/
def nput (n : Nat) : List Nat := nt n (nsz n - 1)
/-- Reading: the number, how many bytes, the error's number; i bytes have been read, they came to acc. -/
def ng (acc i : Nat) : List Nat → Nat × Nat × Nat
  | [] => (0, 0, 2)
  | c :: r => if i = 0 ∧ c = 128 then (0, 0, 2) else if 1099511627776 < acc * 128 + c % 128 then (0, 0, 2) else if c < 128 then (acc * 128 + c % 128, i + 1, 0) else ng (acc * 128 + c % 128) (i + 1) r
/-- The document's reading. -/
def rg (acc i : Nat) : List Nat → Nat × Nat
  | [] => (0, 0)
  | c :: r => if 6 ≤ i then (0, 0) else if i = 0 ∧ c = 128 then (0, 0) else if c < 128 then (if 1099511627776 < acc * 128 + c % 128 then (0, 0) else (acc * 128 + c % 128, i + 1)) else rg (acc * 128 + c % 128) (i + 1) r

theorem nsz_pos (n : Nat) : 0 < nsz n := by
  unfold nsz
  repeat' split
  all_goals omega
theorem nsz_le (n : Nat) : nsz n ≤ 6 := by
  unfold nsz
  repeat' split
  all_goals omega
theorem nsz_mono (n m : Nat) (h : n ≤ m) : nsz n ≤ nsz m := by
  unfold nsz
  repeat' split
  all_goals omega
theorem nsz_one (n : Nat) (h : n < 128) : nsz n = 1 := by
  unfold nsz
  rw [if_pos h]
theorem nsz_step (n : Nat) (h : 128 ≤ n) (hm : n ≤ 1099511627776) : nsz n = nsz (n / 128) + 1 := by
  unfold nsz
  repeat' split
  all_goals omega
theorem nb_lt (n i : Nat) : nb n i < 256 := by
  unfold nb
  split <;> omega
theorem nt_length (n k : Nat) : (nt n k).length = k + 1 := by
  induction k with
  | zero => rfl
  | succ k ih => simp [nt, ih]
theorem nt_at (n k j : Nat) (h : j ≤ k) : (nt n k)[j]? = some (nb n (k - j)) := by
  induction k generalizing j with
  | zero =>
    obtain rfl : j = 0 := by omega
    rfl
  | succ k ih =>
    cases j with
    | zero => rfl
    | succ j =>
      rw [nt, List.getElem?_cons_succ, ih j (by omega)]
      congr 2
      omega
theorem nput_length (n : Nat) : (nput n).length = nsz n := by
  have := nsz_pos n
  rw [nput, nt_length]
  omega
theorem nt_bytes (n k : Nat) : ∀ c ∈ nt n k, c < 256 := by
  induction k with
  | zero => intro c hc; simp only [nt, List.mem_singleton] at hc; subst hc; exact nb_lt _ _
  | succ k ih =>
    intro c hc
    rw [nt, List.mem_cons] at hc
    rcases hc with rfl | hc
    · exact nb_lt _ _
    · exact ih c hc

/-- How far division goes: below 128 ^ the count of groups. -/
theorem nsz_div (n k : Nat) (hm : n ≤ 1099511627776) (hk : k < nsz n) : n / 128 ^ k = 0 → k = 0 := by
  intro h
  have hs := nsz_le n
  have hk6 : k < 6 := by omega
  unfold nsz at hk
  have cases6 : k = 0 ∨ k = 1 ∨ k = 2 ∨ k = 3 ∨ k = 4 ∨ k = 5 := by omega
  rcases cases6 with rfl | rfl | rfl | rfl | rfl | rfl <;> simp only [Nat.reducePow] at h <;> repeat' split at hk
  all_goals omega
theorem nsz_end (n : Nat) (hm : n ≤ 1099511627776) : n / 128 ^ nsz n = 0 := by
  unfold nsz
  repeat' split
  all_goals simp only [Nat.reducePow]; omega
theorem div_pow_step (n k : Nat) : n / 128 ^ k / 128 = n / 128 ^ (k + 1) := by
  rw [Nat.div_div_eq_div_mul, Nat.pow_succ]

/-- What was read ahead comes to too much, or the bytes are too many: nothing is read. -/
theorem rg_big (l : List Nat) : ∀ (acc i : Nat), 1099511627776 < acc → rg acc i l = (0, 0) := by
  induction l with
  | nil => intro acc i _; rfl
  | cons c r ih =>
    intro acc i h
    unfold rg
    split
    · rfl
    · split
      · rfl
      · split
        · rw [if_pos (by omega)]
        · exact ih _ _ (by omega)
theorem rg_six (l : List Nat) (acc i : Nat) (h : 6 ≤ i) : rg acc i l = (0, 0) := by
  cases l with
  | nil => rfl
  | cons c r => rw [rg, if_pos h]
/-- From the second byte on: at least 128 ^ (i - 1) has come together. -/
theorem ng_rg (l : List Nat) (hl : ∀ c ∈ l, c < 256) : ∀ (acc i : Nat), acc ≤ 1099511627776 → (i = 0 ∧ acc = 0 ∨ 1 ≤ i ∧ i ≤ 6 ∧ 128 ^ (i - 1) ≤ acc) →
    rg acc i l = ((ng acc i l).1, (ng acc i l).2.1) ∧ ((ng acc i l).2.2 = 0 ∧ 0 < (ng acc i l).2.1 ∨ ng acc i l = (0, 0, 2)) := by
  induction l with
  | nil => intro acc i _ _; exact ⟨rfl, .inr rfl⟩
  | cons c r ih =>
    intro acc i ha hi
    by_cases h6 : 6 ≤ i
    · have h6' : i = 6 := by omega
      subst h6'
      have hbig : 1099511627776 < acc * 128 + c % 128 := by
        rcases hi with hi | ⟨_, _, hi⟩
        · omega
        · simp only [Nat.reduceSub, Nat.reducePow] at hi; omega
      have e : ng acc 6 (c :: r) = (0, 0, 2) := by
        unfold ng
        rw [if_neg (by omega), if_pos hbig]
      rw [rg_six _ _ _ h6, e]
      exact ⟨rfl, .inr rfl⟩
    · unfold rg ng
      rw [if_neg h6]
      split
      · exact ⟨rfl, .inr rfl⟩
      · rename_i h0
        by_cases hb : 1099511627776 < acc * 128 + c % 128
        · rw [if_pos hb, if_pos hb]
          refine ⟨?_, .inr rfl⟩
          split
          · rfl
          · exact rg_big r _ _ hb
        · rw [if_neg hb, if_neg hb]
          split
          · exact ⟨rfl, .inl ⟨rfl, by simp⟩⟩
          · rename_i hc
            refine ih (fun x hx => hl x (List.mem_cons_of_mem _ hx)) _ _ (by omega) (.inr ⟨by omega, by omega, ?_⟩)
            rcases hi with ⟨rfl, rfl⟩ | ⟨h1, _, h2⟩
            · have : c ≠ 128 := fun e => h0 ⟨rfl, e⟩
              have := hl c (List.mem_cons_self ..)
              simp
              omega
            · obtain ⟨j, rfl⟩ : ∃ j, i = j + 1 := ⟨i - 1, by omega⟩
              simp only [Nat.add_sub_cancel] at h2 ⊢
              rw [Nat.pow_succ]
              omega
end Go.Proofs.Ytkapfijokmajlaa

/- More plain mathematics of numbers in groups of seven binary digits: what was written is read as it was, whatever stands behind; cut short, or with a group of noughts ahead, it is none. Nothing of Go. -/
namespace Go.Proofs.Ytkapfijokmajlaa

theorem nb_first' (n : Nat) (hm : n ≤ 1099511627776) (h : nsz n ≠ 1) : nb n (nsz n - 1) ≠ 128 := by
  have h0 := nsz_pos n
  have h1 := nsz_div n (nsz n - 1) hm (by omega)
  have h2 := nsz_end n hm
  obtain ⟨r, hr⟩ : ∃ r, nsz n = r + 1 := ⟨nsz n - 1, by omega⟩
  rw [hr, ← div_pow_step] at h2
  rw [hr, Nat.add_sub_cancel] at h1 ⊢
  rw [nb, if_neg (by omega)]
  omega
theorem nb_mod (n i : Nat) : nb n i % 128 = n / 128 ^ i % 128 := by
  unfold nb
  split
  · rename_i h; subst h; simp
  · omega
/-- Reading goes on as it was written. -/
theorem ng_nt (n : Nat) (hm : n ≤ 1099511627776) (l : List Nat) : ∀ (k i : Nat), (i = 0 → nb n k ≠ 128) → ng (n / 128 ^ (k + 1)) i (nt n k ++ l) = (n, i + k + 1, 0) := by
  intro k
  induction k with
  | zero =>
    intro i hi
    have e := nb_mod n 0
    rw [Nat.pow_zero, Nat.div_one] at e
    rw [nt, List.singleton_append, ng, if_neg (fun h => hi h.1 h.2), e, Nat.pow_one]
    rw [if_neg (by omega), if_pos (by rw [nb]; simp; omega)]
    simp
    omega
  | succ k ih =>
    intro i hi
    have e := nb_mod n (k + 1)
    have e2 : n / 128 ^ (k + 1 + 1) * 128 + nb n (k + 1) % 128 = n / 128 ^ (k + 1) := by
      rw [e, ← div_pow_step]
      omega
    have e3 : n / 128 ^ (k + 1) ≤ n := Nat.div_le_self _ _
    rw [nt, List.cons_append, ng, if_neg (fun h => hi h.1 h.2), e2, if_neg (by omega), if_neg (by rw [nb, if_neg (by omega)]; omega), ih (i + 1) (fun h => by omega)]
    congr 2
    omega
theorem ng_nput (n : Nat) (hm : n ≤ 1099511627776) (l : List Nat) : ng 0 0 (nput n ++ l) = (n, nsz n, 0) := by
  have h0 := nsz_pos n
  have h2 := nsz_end n hm
  obtain ⟨r, hr⟩ : ∃ r, nsz n = r + 1 := ⟨nsz n - 1, by omega⟩
  have := ng_nt n hm l r 0 (fun _ => by
    by_cases h1 : nsz n = 1
    · obtain rfl : r = 0 := by omega
      rw [nb, if_pos rfl]
      omega
    · have := nb_first' n hm h1
      rwa [hr, Nat.add_sub_cancel] at this)
  rw [hr] at h2
  rw [h2] at this
  rw [nput, hr, Nat.add_sub_cancel, this]
  simp
theorem ng_long (l : List Nat) (h : ∀ c ∈ l, 128 ≤ c) : ∀ acc i, ng acc i l = (0, 0, 2) := by
  induction l with
  | nil => intro acc i; rfl
  | cons c r ih =>
    intro acc i
    have hc := h c (List.mem_cons_self ..)
    rw [ng]
    split
    · rfl
    · split
      · rfl
      · rw [if_neg (by omega)]
        exact ih (fun x hx => h x (List.mem_cons_of_mem _ hx)) _ _
theorem nt_take (n : Nat) : ∀ k c, c ∈ (nt n k).take k → 128 ≤ c := by
  intro k
  induction k with
  | zero => intro c hc; simp at hc
  | succ k ih =>
    intro c hc
    rw [nt, List.take_succ_cons, List.mem_cons] at hc
    rcases hc with rfl | hc
    · rw [nb, if_neg (by omega)]; omega
    · exact ih c hc
theorem ng_short (n : Nat) : ng 0 0 ((nput n).take (nsz n - 1)) = (0, 0, 2) := ng_long _ (fun c hc => nt_take n _ c hc) 0 0
theorem ng_ahead (l : List Nat) : ng 0 0 (128 :: l) = (0, 0, 2) := by rw [ng, if_pos ⟨rfl, rfl⟩]
theorem nput_inj (n m : Nat) (hn : n ≤ 1099511627776) (hm : m ≤ 1099511627776) (h : nput n = nput m) : n = m := by
  have h1 := ng_nput n hn []
  have h2 := ng_nput m hm []
  rw [h, h2] at h1
  exact (congrArg Prod.fst h1).symm
theorem nput_bytes (n : Nat) : ∀ c ∈ nput n, c < 256 := nt_bytes n _
end Go.Proofs.Ytkapfijokmajlaa

/- Masks and sums of bits, and made rows, that writers and readers of numbers lean on. Conditions: as each states. -/
namespace Go.Proofs.Ytkapfijokmajlaa
open Go.RowKit Go.Deep

theorem ret3 {a b c a' b' c' : Int} (h1 : a = a') (h2 : b = b') (h3 : c = c') : Ending.returned (.tuple #[.int .i64 a, .int .i64 b, .int .i64 c]) = .returned (.tuple #[.int .i64 a', .int .i64 b', .int .i64 c']) := by subst h1; subst h2; subst h3; rfl

theorem band127 (c : Nat) (h : c < 256) : bits BinOp.and IntKind.u8 (c : Int) 127 = ((c % 128 : Nat) : Int) := by
  have h1 : (BitVec.ofInt 8 (c : Int)).toNat = c := by rw [BitVec.ofInt_natCast, BitVec.toNat_ofNat]; omega
  show IntKind.u8.wrap ((BitVec.ofInt 8 (c : Int) &&& BitVec.ofInt 8 127).toNat : Int) = _
  rw [BitVec.toNat_and, h1, show (BitVec.ofInt 8 127).toNat = 2 ^ 7 - 1 from rfl, Nat.and_two_pow_sub_one_eq_mod]
  have h2 : c % 128 < 128 := Nat.mod_lt _ (by omega)
  rw [show (7 : Nat) = 7 from rfl, show (2 : Nat) ^ 7 = 128 from rfl]
  generalize c % 128 = x at h2
  unfold IntKind.wrap
  simp [IntKind.bits, IntKind.signed]
  omega
theorem bor7 (a m : Nat) (ha : a ≤ 1099511627776) (h : m < 128) : bits BinOp.or IntKind.i64 ((a : Int) * 128) (m : Int) = ((a * 128 + m : Nat) : Int) := by
  have h1 : (BitVec.ofInt 64 ((a : Int) * 128)).toNat = a * 128 := by
    rw [show ((a : Int) * 128) = ((a * 128 : Nat) : Int) by omega, BitVec.ofInt_natCast, BitVec.toNat_ofNat]; omega
  have h2 : (BitVec.ofInt 64 (m : Int)).toNat = m := by rw [BitVec.ofInt_natCast, BitVec.toNat_ofNat]; omega
  show IntKind.i64.wrap ((BitVec.ofInt 64 ((a : Int) * 128) ||| BitVec.ofInt 64 (m : Int)).toNat : Int) = _
  rw [BitVec.toNat_or, h1, h2, show a * 128 = a <<< 7 by rw [Nat.shiftLeft_eq], ← Nat.shiftLeft_add_eq_or_of_lt (by omega : m < 2 ^ 7), Nat.shiftLeft_eq, IntKind.wrap_i64]
  omega

theorem band127i (x : Nat) (h : x ≤ 1099511627776) : bits BinOp.and IntKind.i64 (x : Int) 127 = ((x % 128 : Nat) : Int) := by
  have h1 : (BitVec.ofInt 64 (x : Int)).toNat = x := by rw [BitVec.ofInt_natCast, BitVec.toNat_ofNat]; omega
  show IntKind.i64.wrap ((BitVec.ofInt 64 (x : Int) &&& BitVec.ofInt 64 127).toNat : Int) = _
  rw [BitVec.toNat_and, h1, show (BitVec.ofInt 64 127).toNat = 2 ^ 7 - 1 from rfl, Nat.and_two_pow_sub_one_eq_mod, IntKind.wrap_i64]
  omega
theorem bor128 (m : Nat) (h : m < 128) : bits BinOp.or IntKind.u8 (m : Int) 128 = ((m + 128 : Nat) : Int) := by
  have h1 : (BitVec.ofInt 8 (m : Int)).toNat = m := by rw [BitVec.ofInt_natCast, BitVec.toNat_ofNat]; omega
  show IntKind.u8.wrap ((BitVec.ofInt 8 (m : Int) ||| BitVec.ofInt 8 128).toNat : Int) = _
  rw [BitVec.toNat_or, h1, show (BitVec.ofInt 8 128).toNat = 1 <<< 7 from rfl, Nat.or_comm, ← Nat.shiftLeft_add_eq_or_of_lt (by omega : m < 2 ^ 7)]
  rw [show (1 : Nat) <<< 7 + m = m + 128 by simp; omega]
  have h2 : m + 128 < 256 := by omega
  generalize m + 128 = x at h2
  unfold IntKind.wrap
  simp [IntKind.bits, IntKind.signed]
  omega

theorem made_at (s j : Nat) (h : j < s) : (madeCells #[Value.int .u8 0] s)[j]? = some (.int .u8 0) := by
  simp [madeCells, h, Nat.mod_one]
theorem nb_zero (n : Nat) : nb n 0 = n % 128 := rfl
theorem nb_step (n q : Nat) : nb n (q + 1) = n / 128 ^ q / 128 % 128 + 128 := by
  rw [nb, if_neg (by omega), div_pow_step]
end Go.Proofs.Ytkapfijokmajlaa

/- The contract of num.Fits: called with any int it answers whether that lies from 0 to 2^40, and changes nothing. No condition. -/
namespace Go.Proofs.Ytkapfijokmajlaa
open Go.RowKit

theorem numFits_yes (n : Int) (h0 : 0 ≤ n) (h1 : n ≤ 1099511627776) (w : World) :
    Calls Try.prog 51 #[.int .i64 n] w fun e w' => e = .returned (.bool true) ∧ w = w' := by
  go_enter Try.func51, Try.ntmps51
  go_wp2
  go_ret
  exact ⟨by simp [*], rfl⟩

theorem numFits_no (n : Int) (h : n < 0 ∨ 1099511627776 < n) (w : World) :
    Calls Try.prog 51 #[.int .i64 n] w fun e w' => e = .returned (.bool false) ∧ w = w' := by
  rcases h with h | h
  · go_enter Try.func51, Try.ntmps51
    go_wp2
    go_ret
    exact ⟨by simp [*], rfl⟩
  · have h' : 0 ≤ n := by omega
    go_enter Try.func51, Try.ntmps51
    go_wp2
    go_ret
    exact ⟨by simp [*], rfl⟩
end Go.Proofs.Ytkapfijokmajlaa

/- The contract of num.Size: called with any int it answers how many bytes that has ('nsz'), none if it doesn't fit, and changes nothing. No condition. -/
namespace Go.Proofs.Ytkapfijokmajlaa
open Go.RowKit

theorem bitLenAux_le (f : Nat) : ∀ (x k : Nat), k < f → (Lib.bitLenAux f x ≤ k ↔ x < 2 ^ k) := by
  induction f with
  | zero => intro x k hk; omega
  | succ f ih =>
    intro x k hk
    unfold Lib.bitLenAux
    by_cases hx : x = 0
    · subst hx
      rw [if_pos rfl]
      simp [Nat.pow_pos]
    · rw [if_neg hx]
      cases k with
      | zero => simp; omega
      | succ k =>
        have := ih (x / 2) k (by omega)
        rw [Nat.pow_succ]
        omega
theorem bitLen_le (x k : Nat) (hk : k < 64) : Lib.bitLen x ≤ k ↔ x < 2 ^ k := bitLenAux_le 64 x k hk
theorem nsz_bitLen (n : Nat) (hn : n ≤ 1099511627776) : (max (Lib.bitLen n) 1 + 6) / 7 = nsz n := by
  have h1 := bitLen_le n 7 (by omega)
  have h2 := bitLen_le n 14 (by omega)
  have h3 := bitLen_le n 21 (by omega)
  have h4 := bitLen_le n 28 (by omega)
  have h5 := bitLen_le n 35 (by omega)
  have h6 := bitLen_le n 42 (by omega)
  simp only [Nat.reducePow] at h1 h2 h3 h4 h5 h6
  generalize Lib.bitLen n = L at *
  unfold nsz
  repeat' split
  all_goals omega

theorem numSize_yes (n : Nat) (h1 : n ≤ 1099511627776) (w : World) :
    Calls Try.prog 69 #[.int .i64 n] w fun e w' => e = .returned (.int .i64 (nsz n)) ∧ w = w' := by
  have hz := nsz_bitLen n h1
  have h42 := bitLen_le n 42 (by omega)
  obtain ⟨L, HL⟩ : ∃ L, Hid (Lib.bitLen n = L) := ⟨_, rfl⟩
  rw [HL.out] at hz h42
  have hL : L ≤ 42 := h42.2 (by simp only [Nat.reducePow]; omega)
  clear h42
  have HZ := Lib.hid hz; clear hz
  go_enter Try.func69, Try.ntmps69
  go_wp2_with (first
      | (go_at_call 51; refine (numFits_yes _ (by omega) (by omega) _).mono ?_; rintro e w' ⟨rfl, rfl⟩)
      | (go_at_call 73; refine (Try.bits_Len _ _ (by omega) (by omega)).mono ?_; rintro e w' ⟨rfl, rfl⟩; rw [Int.toNat_natCast, HL.out]))
  go_ret
  have HZ' := HZ.out
  exact ⟨by congr 2; simp; omega, rfl⟩

theorem numSize_no (n : Int) (h : n < 0 ∨ 1099511627776 < n) (w : World) :
    Calls Try.prog 69 #[.int .i64 n] w fun e w' => e = .returned (.int .i64 0) ∧ w = w' := by
  go_enter Try.func69, Try.ntmps69
  go_wp2_with (go_at_call 51; refine (numFits_no _ h _).mono ?_; rintro e w' ⟨rfl, rfl⟩)
  go_ret
  exact ⟨rfl, rfl⟩
end Go.Proofs.Ytkapfijokmajlaa

/- A scope in which the run jumps ahead to labels, any number of them, and no way back: whoever jumps walks on from the label on. No condition. -/
namespace Go.Proofs.Ytkapfijokmajlaa

/-- As Q; by a goto to a label: what stands from that label on is walked, and jumps no more. -/
def fwd (P : Program) (c : Code) (Q : Exit → Act → World → Prop) : Exit → Act → World → Prop
  | .goto l, a, w => ∃ rest, findLabel c l = some rest ∧ rest.wp P (Exit.noGoto Q) a w
  | e, a, w => Q e a w

theorem fwd_ret {P : Program} {c : Code} {Q : Exit → Act → World → Prop} {a : Act} {w : World} : fwd P c Q .ret a w = Q .ret a w := rfl

theorem wp_scope_fwd {P : Program} {a : Act} {w : World} {Q : Exit → Act → World → Prop} {c : Code} (first : c.wp P (fwd P c Q) a w) : (Code.scope c).wp P Q a w := by
  intro b k cs
  obtain ⟨e, a₁, w₁, hq, harr⟩ := first b (.inScope c :: k) cs
  cases e with
  | normal => exact ⟨.normal, a₁, w₁, hq, .head step_scope (Steps.trans harr (.one step_inScope))⟩
  | exit id => exact ⟨.exit id, a₁, w₁, hq, fun k' hk => .head step_scope (harr k' (by simp [exitTo, hk]))⟩
  | goto l =>
    obtain ⟨rest, hf, hrest⟩ := hq
    have hg : gotoIn l (.inScope c :: k) = some (.code rest :: .inScope c :: k) := by simp [gotoIn, hf]
    obtain ⟨e₂, a₂, w₂, hq₂, harr₂⟩ := hrest b (.inScope c :: k) cs
    cases e₂ with
    | normal => exact ⟨.normal, a₂, w₂, hq₂, .of_steps (.head step_scope (harr _ hg)) (Steps.trans harr₂ (.one step_inScope))⟩
    | exit id => exact ⟨.exit id, a₂, w₂, hq₂, fun k' hk => Steps.trans (.head step_scope (harr _ hg)) (harr₂ k' (by simp [exitTo, hk]))⟩
    | goto l' => exact hq₂.elim
    | ret => exact ⟨_, a₂, w₂, hq₂, .of_steps (.head step_scope (harr _ hg)) harr₂⟩
    | panic ch => exact ⟨_, a₂, w₂, hq₂, .of_steps (.head step_scope (harr _ hg)) harr₂⟩
    | outgrown => exact ⟨_, a₂, w₂, hq₂, .of_steps (.head step_scope (harr _ hg)) harr₂⟩
  | ret => exact ⟨_, a₁, w₁, hq, .of_steps (.one step_scope) harr⟩
  | panic ch => exact ⟨_, a₁, w₁, hq, .of_steps (.one step_scope) harr⟩
  | outgrown => exact ⟨_, a₁, w₁, hq, .of_steps (.one step_scope) harr⟩
end Go.Proofs.Ytkapfijokmajlaa

/- The contract of num.Get: called with any slice of bytes it answers what 'ng' answers of them, and changes nothing. Condition: no slice is longer than memory. -/
namespace Go.Proofs.Ytkapfijokmajlaa
open Go.RowKit

set_option maxRecDepth 100000 in
theorem numGet_any (b off cap : Nat) (l : List Nat) (hl : l.length ≤ maxLen) (hb : ∀ c ∈ l, c < 256) (w : World) (hc : ∀ j c : Nat, l[j]? = some c → w.cell? ⟨b, off + j, none⟩ = some (.int .u8 (c : Int))) :
    Calls Try.prog 54 #[.slice (some ⟨b, off, none⟩) l.length cap] w fun e w' => e = .returned (.tuple #[.int .i64 (ng 0 0 l).1, .int .i64 (ng 0 0 l).2.1, .int .i64 (ng 0 0 l).2.2]) ∧ w = w' := by
  unfold maxLen at hl
  have HC := Lib.hid hc; clear hc
  have HB := Lib.hid hb; clear hb
  go_enter Try.func54, Try.ntmps54
  go_wp2
  refine wp_scope_fwd ?_
  go_wp2
  go_loop [2, 3, 5, 6, 9] (fun n u i5 c6 i => ∃ k acc : Nat, k ≤ l.length ∧ i = .int .i64 k ∧ n = .int .i64 acc ∧ u = .int .i64 0 ∧ acc ≤ 1099511627776 ∧ Hid (ng 0 0 l = ng acc k (l.drop k))) (fun _ _ _ _ i => l.length - (intOf i).toNat)
  case atStart => exact ⟨0, 0, Nat.zero_le _, rfl, rfl, rfl, by omega, rfl⟩
  case round =>
    obtain ⟨k, acc, hk, rfl, rfl, rfl, ha, HR⟩ := hrel
    by_cases hlt : k < l.length
    · obtain ⟨c, hlc⟩ : ∃ c, l[k]? = some c := ⟨_, List.getElem?_eq_getElem hlt⟩
      have hcell := HC.out k c hlc
      have hc256 := HB.out c (List.mem_of_getElem? hlc)
      have hdrop : l.drop k = c :: l.drop (k + 1) := by
        rw [List.drop_eq_getElem_cons hlt]
        congr 1
        have := List.getElem?_eq_getElem hlt
        rw [hlc] at this
        injection this with this
        exact this.symm
      have HD := Lib.hid hdrop; clear hdrop
      have HL := Lib.hid hlc; clear hlc
      obtain ⟨m, HM⟩ : ∃ m, Hid (m = c % 128) := ⟨_, rfl⟩
      obtain ⟨s, HS⟩ : ∃ s, Hid (s = acc * 128 + m) := ⟨_, rfl⟩
      have hm : m < 128 := by rw [HM.out]; omega
      have eand : bits BinOp.and IntKind.u8 (c : Int) 127 = (m : Int) := by rw [HM.out]; exact band127 c hc256
      have eor : bits BinOp.or IntKind.i64 ((acc : Int) * 128) (m : Int) = (s : Int) := by rw [HS.out]; exact bor7 acc m ha hm
      have hs : s ≤ 140737488355455 := by rw [HS.out]; omega
      by_cases h0 : k = 0 ∧ c = 128
      · obtain ⟨rfl, rfl⟩ := h0
        rw [Nat.add_zero] at hcell
        go_wp2_with fail
        go_step3
        refine ⟨_, rfl, ?_⟩
        go_wp2
        rw [Exit.noGoto_ret]
        go_ret3
        have e : ng 0 0 l = (0, 0, 2) := by rw [HR.out, HD.out, ng, if_pos ⟨rfl, rfl⟩]
        rw [e]
        exact ⟨rfl, rfl⟩
      · have h0' : ¬ k = 0 ∨ (k = 0 ∧ ((c : Int) == 128) = false) := by
          by_cases hk0 : k = 0
          · exact .inr ⟨hk0, by simp; omega⟩
          · exact .inl hk0
        have hbig : s ≤ 1099511627776 ∨ 1099511627776 < s := by omega
        have HB2 := Lib.hid hbig; clear hbig
        have hcell' : k = 0 → w.cell? ⟨b, off, none⟩ = some (.int .u8 (c : Int)) := fun e => by subst e; exact hcell
        have HN := Lib.hid h0; clear h0
        rcases HB2.out with hbig | hbig
        · have hc1 : c < 128 ∨ ¬ c < 128 := by omega
          have HC1 := Lib.hid hc1; clear hc1
          rcases HC1.out with hc1 | hc1
          · have e : Hid (ng 0 0 l = (s, k + 1, 0)) := by
              show ng 0 0 l = (s, k + 1, 0)
              rw [HR.out, HD.out, ng, if_neg HN.out, if_neg (by rw [← HM.out, ← HS.out]; omega), if_pos hc1, ← HM.out, ← HS.out]
            rcases h0' with hk0 | ⟨rfl, hk0⟩
            all_goals try rw [Nat.add_zero] at hcell
            all_goals clear hcell'
            all_goals
              go_wp2_with (go_at_call 51; refine (numFits_yes _ (by omega) (by omega) _).mono ?_; rintro e w' ⟨rfl, rfl⟩)
              go_step3
              refine ⟨_, rfl, ?_⟩
              go_wp2
              rw [Exit.noGoto_ret]
              go_ret3
              rw [e.out]
              exact ⟨rfl, rfl⟩
          · have e : Hid (ng 0 0 l = ng s (k + 1) (l.drop (k + 1))) := by
              show ng 0 0 l = ng s (k + 1) (l.drop (k + 1))
              rw [HR.out, HD.out, ng, if_neg HN.out, if_neg (by rw [← HM.out, ← HS.out]; omega), if_neg hc1, ← HM.out, ← HS.out]
            rcases h0' with hk0 | ⟨rfl, hk0⟩
            all_goals try rw [Nat.add_zero] at hcell
            all_goals clear hcell'
            all_goals
              go_wp2_with (go_at_call 51; refine (numFits_yes _ (by omega) (by omega) _).mono ?_; rintro e w' ⟨rfl, rfl⟩)
              go_round
              case rel => exact ⟨_, s, by omega, by go_num, rfl, rfl, hbig, e⟩
              case measure => simp [intOf]; omega
        · have e : Hid (ng 0 0 l = (0, 0, 2)) := by
            show ng 0 0 l = (0, 0, 2)
            rw [HR.out, HD.out, ng, if_neg HN.out, if_pos (by rw [← HM.out, ← HS.out]; omega)]
          rcases h0' with hk0 | ⟨rfl, hk0⟩
          all_goals try rw [Nat.add_zero] at hcell
          all_goals clear hcell'
          all_goals
            go_wp2_with (go_at_call 51; refine (numFits_no _ (by omega) _).mono ?_; rintro e w' ⟨rfl, rfl⟩)
            go_step3
            refine ⟨_, rfl, ?_⟩
            go_wp2
            rw [Exit.noGoto_ret]
            go_ret3
            rw [e.out]
            exact ⟨rfl, rfl⟩
    · have e : Hid (ng 0 0 l = (0, 0, 2)) := by
        show ng 0 0 l = (0, 0, 2)
        rw [HR.out, List.drop_eq_nil_of_le (by omega)]
        rfl
      go_wp2
      go_step3
      go_wp2
      rw [fwd_ret]
      go_ret3
      rw [e.out]
      exact ⟨rfl, rfl⟩
end Go.Proofs.Ytkapfijokmajlaa

/- The contract of num.Put: called with any int it answers that number's bytes ('nput'), in new memory, or none if it doesn't fit; what was there stays as it was. No condition. -/
namespace Go.Proofs.Ytkapfijokmajlaa
open Go.RowKit Go.Deep

/-- What the loop of num.Put holds: q bytes from the last one on stand, the others are still 0. -/
def PutRel (n s : Nat) (w : World) (q : Nat) (wr : World) : Prop :=
  wr.rowIs w.heap.size 5 s (fun j => .int .u8 ((if s - 1 - j < q then nb n (s - 1 - j) else 0 : Nat) : Int)) ∧ Below w.heap.size w wr
theorem PutRel.start (n s : Nat) (w : World) (hs : 0 < s) (x : Int) (hx : x = ((n % 128 : Nat) : Int)) :
    PutRel n s w 1 (w.alloc (.cells ((madeCells #[Value.int .u8 0] s).setIfInBounds (s - 1) (.int .u8 x)) 5)) := by
  refine ⟨?_, (Below.refl _ _).alloc (Nat.le_refl _) _⟩
  have hz : ((madeCells #[Value.int .u8 0] s).setIfInBounds (s - 1) (.int .u8 x)).size = s := by simp [size_madeCells]
  have := World.rowIs_alloc w ((madeCells #[Value.int .u8 0] s).setIfInBounds (s - 1) (.int .u8 x)) 5 (fun j => .int .u8 ((if s - 1 - j < 1 then nb n (s - 1 - j) else 0 : Nat) : Int)) (by
    intro j hj
    rw [hz] at hj
    rw [Array.getElem?_setIfInBounds]
    by_cases e : s - 1 = j
    · subst e
      rw [if_pos rfl, if_pos (by rw [size_madeCells]; omega)]
      simp [nb_zero, hx]
    · rw [if_neg e, made_at s j hj, if_neg (by omega)]
      rfl)
  rw [hz] at this
  exact this
theorem PutRel.step {n s : Nat} {w wr : World} {q : Nat} (h : PutRel n s w q wr) (hq : 1 ≤ q) (r : Nat) (hr : q + r + 1 = s) (x : Int) (hx : x = ((nb n q : Nat) : Int)) :
    PutRel n s w (q + 1) (wr.setCell ⟨w.heap.size, r, none⟩ (.int .u8 x)) := by
  refine ⟨(h.1.set r (.int .u8 x)).congr fun j hj => ?_, h.2.setCell (Nat.le_refl _) _⟩
  by_cases e : j = r
  · subst e
    rw [if_pos rfl, if_pos (by omega), hx]
    congr 3
    omega
  · rw [if_neg e]
    by_cases h1 : s - 1 - j < q
    · rw [if_pos h1, if_pos (by omega)]
    · rw [if_neg h1, if_neg (by omega)]
theorem PutRel.done {n s : Nat} {w wr : World} (h : PutRel n s w s wr) (hs : nsz n = s) (h0 : 0 < s) (h6 : s ≤ 6) : NewBytes (nput n) w (.slice (some ⟨w.heap.size, 0, none⟩) s s) wr := by
  refine ⟨w.heap.size, s, by rw [nput_length, hs], ⟨by rw [nput_length, hs]; exact Nat.le_refl _, by simp only [maxLen]; omega⟩, Nat.le_refl _, h.1.lt, fun j x hx => ?_, h.2⟩
  have hj : j < s := by
    have := (List.getElem?_eq_some_iff.1 hx).1
    rwa [nput_length, hs] at this
  rw [nput, nt_at _ _ _ (by rw [hs]; omega), hs] at hx
  injection hx with hx
  rw [Nat.zero_add, h.1.cell hj, if_pos (by omega), hx]

theorem numPut_no (n : Int) (h : n < 0 ∨ 1099511627776 < n) (w : World) :
    Calls Try.prog 52 #[.int .i64 n] w fun e w' => e = .returned (.slice none 0 0) ∧ w = w' := by
  go_enter Try.func52, Try.ntmps52
  go_wp2_with (go_at_call 51; refine (numFits_no _ h _).mono ?_; rintro e w' ⟨rfl, rfl⟩)
  go_ret
  exact ⟨rfl, rfl⟩

set_option maxRecDepth 100000 in
theorem numPut_yes (n : Nat) (h1 : n ≤ 1099511627776) (w : World) :
    Calls Try.prog 52 #[.int .i64 n] w fun e w' => ∃ v, e = .returned v ∧ NewBytes (nput n) w v w' := by
  have s6 := nsz_le n
  have s0 := nsz_pos n
  obtain ⟨s, HS⟩ : ∃ s, Hid (nsz n = s) := ⟨_, rfl⟩
  rw [HS.out] at s6 s0
  have hmk := run_make_row' (P := Try.prog) 25 5 (.int .u8 0) 1 Try.underlying25 u8_info rfl .i64 .i64 s (by omega) (by omega)
  have eand := band127i n h1
  have hma := made_at s (s - 1) (by omega)
  have h1' := h1
  go_enter Try.func52, Try.ntmps52
  go_wp2_with (first
      | (go_at_call 51; refine (numFits_yes _ (by omega) (by omega) _).mono ?_; rintro e w' ⟨rfl, rfl⟩)
      | (go_at_call 69; refine (numSize_yes n h1' _).mono ?_; rintro e w' ⟨rfl, rfl⟩; rw [HS.out]))
  go_loopw [0, 5] (fun x i wr => ∃ q : Nat, 1 ≤ q ∧ q ≤ s ∧ x = .int .i64 ((n / 128 ^ (q - 1) : Nat) : Int) ∧ i = .int .i64 ((s : Int) - 1 - q) ∧ PutRel n s w q wr) (fun _ i _ => (intOf i + 1).toNat)
  case atStart => exact ⟨1, by omega, by omega, by simp, by congr 1, PutRel.start n s w s0 _ (by simp)⟩
  case round =>
    obtain ⟨q, hq1, hqs, rfl, rfl, HR⟩ := hrel
    clear eand hma hmk
    obtain ⟨X, HX⟩ : ∃ X, Hid (n / 128 ^ (q - 1) = X) := ⟨_, rfl⟩
    have hX : X ≤ 1099511627776 := by rw [← HX.out]; exact Nat.le_trans (Nat.div_le_self _ _) h1'
    rw [HX.out]
    by_cases hq : q = s
    · subst hq
      have e : ((q : Int) - 1 - q) = -1 := by omega
      rw [e]
      clear e
      have HD := HR.done HS.out s0 s6
      go_wp2
      go_ret
      exact ⟨_, rfl, HD⟩
    · obtain ⟨r, HRR⟩ : ∃ r, Hid (q + r + 1 = s) := ⟨s - 1 - q, by show q + (s - 1 - q) + 1 = s; omega⟩
      have hrs : r < s := by have := HRR.out; omega
      have e : ((s : Int) - 1 - q) = (r : Int) := by have := HRR.out; omega
      rw [e]
      clear e
      obtain ⟨Y, HY⟩ : ∃ Y, Hid (X / 128 = Y) := ⟨_, rfl⟩
      have hY : Y ≤ 1099511627776 := by rw [← HY.out]; omega
      have eY : ((X : Int) / 128) = (Y : Int) := by rw [← HY.out]; omega
      obtain ⟨m, HM⟩ : ∃ m, Hid (Y % 128 = m) := ⟨_, rfl⟩
      have hm : m < 128 := by rw [← HM.out]; omega
      have eand : bits BinOp.and IntKind.i64 (Y : Int) 127 = (m : Int) := by rw [← HM.out]; exact band127i Y hY
      have eor := bor128 m hm
      have hcell := HR.1.cell hrs
      have hfr := HR.1.frozen r
      have HB : Hid (nb n q = m + 128) := by
        obtain ⟨p, rfl⟩ : ∃ p, q = p + 1 := ⟨q - 1, by omega⟩
        show nb n (p + 1) = m + 128
        rw [nb_step, ← HM.out, ← HY.out, ← HX.out, Nat.add_sub_cancel]
      have HY' : Hid (n / 128 ^ (q + 1 - 1) = Y) := by
        obtain ⟨p, rfl⟩ : ∃ p, q = p + 1 := ⟨q - 1, by omega⟩
        show n / 128 ^ (p + 1 + 1 - 1) = Y
        rw [← HY.out, ← HX.out, Nat.add_sub_cancel, Nat.add_sub_cancel, div_pow_step]
      go_wp2
      go_roundw
      case rel => exact ⟨q + 1, by omega, by have := HRR.out; omega, by rw [HY'.out], by have := HRR.out; congr 1; omega, HR.step hq1 r HRR.out _ (by rw [HB.out]; omega)⟩
      case measure => simp [intOf]; try omega
end Go.Proofs.Ytkapfijokmajlaa

/- The contract of ropewalkref1.Fits: called with any int it answers whether that lies from 0 to 2^40, and changes nothing. No condition. -/
namespace Go.Proofs.Ytkapfijokmajlaa
open Go.RowKit

theorem refFits_yes (n : Int) (h0 : 0 ≤ n) (h1 : n ≤ 1099511627776) (w : World) :
    Calls Try.prog 67 #[.int .i64 n] w fun e w' => e = .returned (.bool true) ∧ w = w' := by
  go_enter Try.func67, Try.ntmps67
  go_wp2
  go_ret
  exact ⟨by simp [*], rfl⟩

theorem refFits_no (n : Int) (h : n < 0 ∨ 1099511627776 < n) (w : World) :
    Calls Try.prog 67 #[.int .i64 n] w fun e w' => e = .returned (.bool false) ∧ w = w' := by
  rcases h with h | h
  · go_enter Try.func67, Try.ntmps67
    go_wp2
    go_ret
    exact ⟨by simp [*], rfl⟩
  · have h' : 0 ≤ n := by omega
    go_enter Try.func67, Try.ntmps67
    go_wp2
    go_ret
    exact ⟨by simp [*], rfl⟩
end Go.Proofs.Ytkapfijokmajlaa

/- The contract of the document's own writer of numbers, ropewalkref1.Put: called with any int it answers that number's bytes ('nput'), in new memory, or none if it doesn't fit; what was there stays as it was. No condition. -/
namespace Go.Proofs.Ytkapfijokmajlaa
open Go.RowKit Go.Deep

theorem refPut_no (n : Int) (h : n < 0 ∨ 1099511627776 < n) (w : World) :
    Calls Try.prog 68 #[.int .i64 n] w fun e w' => e = .returned (.slice none 0 0) ∧ w = w' := by
  go_enter Try.func68, Try.ntmps68
  go_wp2_with (go_at_call 67; refine (refFits_no _ h _).mono ?_; rintro e w' ⟨rfl, rfl⟩)
  go_ret
  exact ⟨rfl, rfl⟩

/-- What the loop of the document's writer holds. -/
def RefPutRel (n s : Nat) (w : World) (p : Nat) (v : Value) (wr : World) : Prop :=
  p + 1 ≤ s ∧ wr.ownsRow w.heap.size 5 1 v (p + 1) (u8s (nt n p)) ∧ Below w.heap.size w wr

set_option maxRecDepth 100000 in
theorem refPut_yes (n : Nat) (h1 : n ≤ 1099511627776) (w : World) :
    Calls Try.prog 68 #[.int .i64 n] w fun e w' => ∃ v, e = .returned v ∧ NewBytes (nput n) w v w' := by
  have s6 := nsz_le n
  have s0 := nsz_pos n
  obtain ⟨s, HS⟩ : ∃ s, Hid (nsz n = s) := ⟨_, rfl⟩
  rw [HS.out] at s6 s0
  have eand := band127i n h1
  have h1' := h1
  obtain ⟨i0, hi0, hz0, hz1, hz2⟩ := info_parts u8_info
  have HI0 := Lib.hid hi0; clear hi0
  have HZ0 := Lib.hid hz0; clear hz0
  have HZ1 := Lib.hid hz1; clear hz1
  have HZ2 := Lib.hid hz2; clear hz2
  go_enter Try.func68, Try.ntmps68
  go_wp2_with (go_at_call 67; refine (refFits_yes _ (by omega) (by omega) _).mono ?_; rintro e w' ⟨rfl, rfl⟩)
  go_loopw [0, 3] (fun x b wr => ∃ p : Nat, x = .int .i64 ((n / 128 ^ (p + 1) : Nat) : Int) ∧ RefPutRel n s w p b wr) (fun x _ _ => (intOf x).toNat)
  case atStart => exact ⟨0, by simp, by omega, by have := World.ownsRow_lit (base := w.heap.size) (e := 5) (size := 1) w #[.int .u8 ((n : Int) % 128)] 1 (Nat.le_refl _) (by simp [maxLen]) rfl; simpa [u8s, nt, nb] using this, (Below.refl _ _).alloc (Nat.le_refl _) _⟩
  case round =>
    obtain ⟨p, rfl, hps, hown, hbel⟩ := hrel
    clear eand
    obtain ⟨Y, HY⟩ : ∃ Y, Hid (n / 128 ^ (p + 1) = Y) := ⟨_, rfl⟩
    have hY : Y ≤ 1099511627776 := by rw [← HY.out]; exact Nat.le_trans (Nat.div_le_self _ _) h1'
    rw [HY.out]
    by_cases h0 : Y = 0
    · subst h0
      have hs : p + 1 = s := by
        rcases Nat.lt_or_ge (p + 1) s with h | h
        · have := nsz_div n (p + 1) h1' (by rw [HS.out]; exact h) HY.out
          omega
        · omega
      have HE : Hid (nput n = nt n p) := by
        show nput n = nt n p
        rw [nput, HS.out, ← hs, Nat.add_sub_cancel]
      clear hs
      go_wp2
      go_ret
      refine ⟨_, rfl, ?_⟩
      rw [HE.out]
      exact newBytes_of_own (by rw [nt_length]; exact hown) (by rw [nt_length]; omega) hbel
    · have h0' : 0 < Y := by omega
      clear h0
      have hs : p + 1 < s := by
        rcases Nat.lt_or_ge (p + 1) s with h | h
        · exact h
        · have e : p + 1 = s := by omega
          have := nsz_end n h1'
          rw [HS.out, ← e, HY.out] at this
          omega
      obtain ⟨m, HM⟩ : ∃ m, Hid (Y % 128 = m) := ⟨_, rfl⟩
      have hm : m < 128 := by rw [← HM.out]; omega
      obtain ⟨B, HB⟩ : ∃ B, Hid (m + 128 = B) := ⟨_, rfl⟩
      have eand : bits BinOp.and IntKind.i64 (Y : Int) 127 = (m : Int) := by rw [← HM.out]; exact band127i Y hY
      have eor : bits BinOp.or IntKind.u8 (m : Int) 128 = (B : Int) := by rw [← HB.out]; exact bor128 m hm
      have HN : Hid (nb n (p + 1) = B) := by
        show nb n (p + 1) = B
        rw [nb, if_neg (by omega), HY.out, HM.out, HB.out]
      have HY' : Hid (n / 128 ^ (p + 1 + 1) = Y / 128) := by
        show n / 128 ^ (p + 1 + 1) = Y / 128
        rw [← div_pow_step, HY.out]
      obtain ⟨g, cap, hv, hg, hlt⟩ := hown.form (by omega)
      subst hv
      have HOWN := Lib.hid hown; clear hown
      have hlit := World.ownsRow_lit (base := w.heap.size) (e := 5) (size := 1) wr #[.int .u8 (B : Int)] 1 hbel.size (by simp [maxLen]) rfl
      have HLIT := Lib.hid hlit; clear hlit
      go_wp2_with (at_builtin
                   refine wpList_append_own_at _ rfl (.tmp 19) (.tmp 20) _ rfl w.heap.size 5 i0 _ 1 1 Try.underlying25 HI0.out HZ0.out HZ1.out HZ2.out rfl (by omega)
                     (.slice (some ⟨wr.heap.size, 0, none⟩) 1 1) 1 [.int .u8 (B : Int)] rfl HLIT.out ⟨g, 0, none⟩ (p + 1) cap (u8s (nt n p)) rfl (by rw [u8s_length, nt_length]; omega)
                     ((HOWN.out.alloc _).cells rfl) (u8s_one _) (by simp only [maxLen]; omega) (by omega) (by have := hbel.size; simp; omega) ?_
                   intro v1 w1 hown1 hg1 _ hat1)
      go_roundw
      case rel =>
        refine ⟨p + 1, by rw [HY'.out]; simp, by omega, ?_, ?_⟩
        · have e : u8s (nt n (p + 1)) = [.int .u8 (B : Int)] ++ u8s (nt n p) := by rw [nt, HN.out]; rfl
          rw [e, show p + 1 + 1 = 1 + (p + 1) by omega]
          exact hown1
        · refine (hbel.alloc hbel.size _).grown hg1 (by have := hbel.size; simp; omega) (fun k hk => ?_)
          simp [Value.ownBlock] at hk
          have := hbel.size
          omega
      case measure => simp [intOf]; omega
end Go.Proofs.Ytkapfijokmajlaa

/- The contract of the document's own reader of numbers, ropewalkref1.Get: called with any slice of bytes it answers what 'rg' answers of them, and changes nothing. Condition: no slice is longer than memory. -/
namespace Go.Proofs.Ytkapfijokmajlaa
open Go.RowKit

set_option maxRecDepth 100000 in
theorem refGet_any (b off cap : Nat) (l : List Nat) (hl : l.length ≤ maxLen) (hb : ∀ c ∈ l, c < 256) (w : World) (hc : ∀ j c : Nat, l[j]? = some c → w.cell? ⟨b, off + j, none⟩ = some (.int .u8 (c : Int))) :
    Calls Try.prog 56 #[.slice (some ⟨b, off, none⟩) l.length cap] w fun e w' => e = .returned (.tuple #[.int .i64 (rg 0 0 l).1, .int .i64 (rg 0 0 l).2]) ∧ w = w' := by
  unfold maxLen at hl
  have HC := Lib.hid hc; clear hc
  have HB := Lib.hid hb; clear hb
  go_enter Try.func56, Try.ntmps56
  go_wp2
  go_loop [4, 5] (fun n i => ∃ k acc : Nat, k ≤ l.length ∧ k ≤ 6 ∧ i = .int .i64 k ∧ n = .int .i64 acc ∧ acc < 128 ^ k ∧ Hid (rg 0 0 l = rg acc k (l.drop k))) (fun _ i => l.length - (intOf i).toNat)
  case atStart => exact ⟨0, 0, Nat.zero_le _, by omega, rfl, rfl, by omega, rfl⟩
  case round =>
    obtain ⟨k, acc, hk, hk6, rfl, rfl, ha, HR⟩ := hrel
    have HA := Lib.hid ha; clear ha
    by_cases hlt : k < l.length
    · by_cases h6 : k < 6
      · obtain ⟨c, hlc⟩ : ∃ c, l[k]? = some c := ⟨_, List.getElem?_eq_getElem hlt⟩
        have hcell := HC.out k c hlc
        have hc256 := HB.out c (List.mem_of_getElem? hlc)
        have hdrop : l.drop k = c :: l.drop (k + 1) := by
          rw [List.drop_eq_getElem_cons hlt]
          congr 1
          have := List.getElem?_eq_getElem hlt
          rw [hlc] at this
          injection this with this
          exact this.symm
        have HD := Lib.hid hdrop; clear hdrop
        have HL := Lib.hid hlc; clear hlc
        have hpow : 128 ^ k ≤ 128 ^ 5 := Nat.pow_le_pow_right (by omega) (by omega)
        have ha : acc < 34359738368 := Nat.lt_of_lt_of_le HA.out hpow
        clear hpow
        obtain ⟨m, HM⟩ : ∃ m, Hid (m = c % 128) := ⟨_, rfl⟩
        obtain ⟨s, HS⟩ : ∃ s, Hid (s = acc * 128 + m) := ⟨_, rfl⟩
        have hm : m < 128 := by rw [HM.out]; omega
        have eand : bits BinOp.and IntKind.u8 (c : Int) 127 = (m : Int) := by rw [HM.out]; exact band127 c hc256
        have eor : bits BinOp.or IntKind.i64 ((acc : Int) * 128) (m : Int) = (s : Int) := by rw [HS.out]; exact bor7 acc m (by omega) hm
        have hs : s ≤ 140737488355455 := by rw [HS.out]; omega
        have HP : Hid (s < 128 ^ (k + 1)) := by
          show s < 128 ^ (k + 1)
          rw [HS.out, Nat.pow_succ]
          have := HA.out
          omega
        by_cases h0 : k = 0 ∧ c = 128
        · obtain ⟨rfl, rfl⟩ := h0
          rw [Nat.add_zero] at hcell
          have e : Hid (rg 0 0 l = (0, 0)) := by
            show rg 0 0 l = (0, 0)
            rw [HR.out, HD.out, rg, if_neg (by omega), if_pos ⟨rfl, rfl⟩]
          go_wp2_with fail
          go_ret2
          rw [e.out]
          exact ⟨rfl, rfl⟩
        · have h0' : ¬ k = 0 ∨ (k = 0 ∧ ((c : Int) == 128) = false) := by
            by_cases hk0 : k = 0
            · exact .inr ⟨hk0, by simp; omega⟩
            · exact .inl hk0
          have HN := Lib.hid h0; clear h0
          by_cases hc1 : c < 128
          · by_cases hbig : s ≤ 1099511627776
            · have e : Hid (rg 0 0 l = (s, k + 1)) := by
                show rg 0 0 l = (s, k + 1)
                rw [HR.out, HD.out, rg, if_neg (by omega), if_neg HN.out, if_pos hc1, if_neg (by rw [← HM.out, ← HS.out]; omega), ← HM.out, ← HS.out]
              rcases h0' with hk0 | ⟨rfl, hk0⟩
              all_goals try rw [Nat.add_zero] at hcell
              all_goals
                go_wp2_with (go_at_call 67; refine (refFits_yes _ (by omega) (by omega) _).mono ?_; rintro e w' ⟨rfl, rfl⟩)
                go_ret2
                rw [e.out]
                exact ⟨rfl, rfl⟩
            · have e : Hid (rg 0 0 l = (0, 0)) := by
                show rg 0 0 l = (0, 0)
                rw [HR.out, HD.out, rg, if_neg (by omega), if_neg HN.out, if_pos hc1, if_pos (by rw [← HM.out, ← HS.out]; omega)]
              rcases h0' with hk0 | ⟨rfl, hk0⟩
              all_goals try rw [Nat.add_zero] at hcell
              all_goals
                go_wp2_with (go_at_call 67; refine (refFits_no _ (by omega) _).mono ?_; rintro e w' ⟨rfl, rfl⟩)
                go_ret2
                rw [e.out]
                exact ⟨rfl, rfl⟩
          · have e : Hid (rg 0 0 l = rg s (k + 1) (l.drop (k + 1))) := by
              show rg 0 0 l = rg s (k + 1) (l.drop (k + 1))
              rw [HR.out, HD.out, rg, if_neg (by omega), if_neg HN.out, if_neg hc1, ← HM.out, ← HS.out]
            rcases h0' with hk0 | ⟨rfl, hk0⟩
            all_goals try rw [Nat.add_zero] at hcell
            all_goals
              go_wp2_with fail
              go_round
              case rel => exact ⟨_, s, by omega, by omega, by go_num, rfl, HP.out, e⟩
              case measure => simp [intOf]; omega
      · have e : Hid (rg 0 0 l = (0, 0)) := by
          show rg 0 0 l = (0, 0)
          rw [HR.out, rg_six _ _ _ (by omega)]
        go_wp2
        go_ret2
        rw [e.out]
        exact ⟨rfl, rfl⟩
    · have e : Hid (rg 0 0 l = (0, 0)) := by
        show rg 0 0 l = (0, 0)
        rw [HR.out, List.drop_eq_nil_of_le (by omega)]
        rfl
      go_wp2
      go_ret2
      rw [e.out]
      exact ⟨rfl, rfl⟩
end Go.Proofs.Ytkapfijokmajlaa
