/- The document's own Crash as plain functions: the writes that are kept, the torn one, what stands safe behind it. No condition. -/
import Derived.Test.YtahfkcfbmklfpaaRefDiskFlush
import Derived.Test.YtahfkcfbmklfpaaRefPick
namespace Go.Proofs.Ytahfkcfbmklfpaa
open Go.RowKit Go.Deep

theorem band1 (x : Int) : bits BinOp.and IntKind.i64 x 1 = x % 2 := by
  have h1 : (BitVec.ofInt 64 x).toNat = (x % 18446744073709551616).toNat := by rw [BitVec.toNat_ofInt]; rfl
  show IntKind.i64.wrap ((BitVec.ofInt 64 x &&& BitVec.ofInt 64 1).toNat : Int) = _
  rw [BitVec.toNat_and, h1, show (BitVec.ofInt 64 1).toNat = 2 ^ 1 - 1 from rfl, Nat.and_two_pow_sub_one_eq_mod, IntKind.wrap_i64]
  omega
/-- The k-th bit of 30, which come again and again. -/
def bitAt (p : Int) (k : Nat) : Bool := (p / 2 ^ (k % 30)) % 2 == 1
/-- What is kept of the first k. -/
def keptN {α : Type} (p : Int) (l : List α) : Nat → List α
  | 0 => []
  | k + 1 => if bitAt p k then keptN p l k ++ (l[k]?).toList else keptN p l k
theorem keptN_zero {α : Type} (p : Int) (l : List α) : keptN p l 0 = [] := rfl
theorem keptN_yes {α : Type} {p : Int} {l : List α} {k : Nat} (h : bitAt p k = true) (hk : k < l.length) : keptN p l (k + 1) = keptN p l k ++ [l[k]] := by
  rw [keptN, if_pos h, List.getElem?_eq_getElem hk]
  rfl
theorem keptN_no {α : Type} {p : Int} {l : List α} {k : Nat} (h : bitAt p k = false) : keptN p l (k + 1) = keptN p l k := by
  rw [keptN, if_neg (by simp [h])]
theorem keptN_over {α : Type} (p : Int) (l : List α) (k : Nat) (hk : ¬k < l.length) : keptN p l (k + 1) = keptN p l k := by
  rw [keptN, List.getElem?_eq_none (by omega)]
  split <;> simp
theorem keptN_le {α : Type} (p : Int) (l : List α) (k : Nat) : (keptN p l k).length ≤ k := by
  induction k with
  | zero => exact Nat.le_refl _
  | succ k ih =>
    rw [keptN]
    split
    · rw [List.length_append]
      have : (l[k]?).toList.length ≤ 1 := by cases l[k]? <;> simp
      omega
    · omega
theorem keptN_mem {α : Type} {p : Int} {l : List α} {k : Nat} {x : α} (h : x ∈ keptN p l k) : x ∈ l := by
  induction k with
  | zero => cases h
  | succ k ih =>
    rw [keptN] at h
    split at h
    · rcases List.mem_append.1 h with h | h
      · exact ih h
      · rw [Option.mem_toList] at h
        exact List.mem_of_getElem? h
    · exact ih h
theorem Match.kept {α β : Type} {R : α → β → Prop} {a : List α} {b : List β} (h : Match R a b) (p : Int) (k : Nat) : Match R (keptN p a k) (keptN p b k) := by
  induction k with
  | zero => exact .nil
  | succ k ih =>
    cases hb : bitAt p k
    · rw [keptN_no hb, keptN_no hb]; exact ih
    · by_cases hk : k < b.length
      · obtain ⟨x, hx, hr⟩ := h.get hk
        have hka : k < a.length := by rw [h.1]; exact hk
        rw [keptN_yes hb hka, keptN_yes hb hk]
        rw [List.getElem?_eq_getElem hka] at hx
        injection hx with hx
        rw [hx]
        exact ih.snoc hr
      · have hka : ¬k < a.length := by rw [h.1]; exact hk
        rw [keptN, keptN, if_pos hb, if_pos hb, List.getElem?_eq_none (by omega), List.getElem?_eq_none (by omega)]
        simpa using ih
/-- Which of the kept is torn: none, or one of them. -/
def tornAt (l : List Int) (n : Nat) : Int := if 0 < n ∧ 0 < pk l 1 then (rnd (pk l 1) n : Nat) else -1
/-- What the i-th kept write lays. -/
def laidB (torn : Int) (t : Nat) (s : List (Option (List Nat))) (i : Nat) (p : Nat × List Nat) : List Nat := if (i : Int) = torn then p.2.take t ++ (secB (s[p.1]?.getD none)).drop t else p.2
/-- The safe sectors behind the first k kept writes. -/
def laidN (torn : Int) (t : Nat) (l : List (Nat × List Nat)) (s : List (Option (List Nat))) : Nat → List (Option (List Nat))
  | 0 => s
  | k + 1 => if h : k < l.length then (laidN torn t l s k).set l[k].1 (some (laidB torn t (laidN torn t l s k) k l[k])) else laidN torn t l s k
theorem laidN_zero (torn : Int) (t : Nat) (l : List (Nat × List Nat)) (s : List (Option (List Nat))) : laidN torn t l s 0 = s := rfl
theorem laidN_next {torn : Int} {t : Nat} {l : List (Nat × List Nat)} {s : List (Option (List Nat))} {k : Nat} (h : k < l.length) : laidN torn t l s (k + 1) = (laidN torn t l s k).set l[k].1 (some (laidB torn t (laidN torn t l s k) k l[k])) := by rw [laidN, dif_pos h]
theorem laidN_over {torn : Int} {t : Nat} {l : List (Nat × List Nat)} {s : List (Option (List Nat))} {k : Nat} (h : ¬k < l.length) : laidN torn t l s (k + 1) = laidN torn t l s k := by rw [laidN, dif_neg h]
theorem laidN_length (torn : Int) (t : Nat) (l : List (Nat × List Nat)) (s : List (Option (List Nat))) (k : Nat) : (laidN torn t l s k).length = s.length := by
  induction k with
  | zero => rfl
  | succ k ih =>
    rw [laidN]
    split
    · rw [List.length_set, ih]
    · exact ih
def DiskD.crash (D : DiskD) (l : List Int) : DiskD :=
  let left := keptN (pk l 0) D.cache D.cache.length
  ⟨laidN (tornAt l left.length) (rnd (pk l 2) 65) left D.safe left.length, [], -1, false, 0⟩
attribute [irreducible] keptN laidN
end Go.Proofs.Ytahfkcfbmklfpaa
