/- A journal's bytes as plain functions: frames, rolls, halves. No condition beyond those that each lemma states. -/
import Derived.Test.YtahfkcfbmklfpaaNumMath2
import Derived.Test.YtahfkcfbmklfpaaCrcMath
namespace Go.Proofs.Ytahfkcfbmklfpaa

/-- The four bytes of a sum. -/
def sum4 (s : Nat) : List Nat := [s / 16777216 % 256, s / 65536 % 256, s / 256 % 256, s % 256]
/-- A frame ahead of its sum. -/
def hed (b : List Nat) : List Nat := nput (b.length + 1) ++ b
def frm (b : List Nat) : List Nat := hed b ++ sum4 (sm (hed b))
def flen (n : Nat) : Nat := nsz (n + 1) + n + 4
theorem hed_length (b : List Nat) : (hed b).length = nsz (b.length + 1) + b.length := by rw [hed, List.length_append, nput_length]
theorem frm_length (b : List Nat) : (frm b).length = flen b.length := by rw [frm, List.length_append, hed_length]; rfl
theorem flen_mono {m n : Nat} (h : m ≤ n) : flen m ≤ flen n := by have := nsz_mono (m + 1) (n + 1) (by omega); unfold flen; omega
theorem flen_strict {m n : Nat} (h : m < n) : flen m < flen n := by have := nsz_mono (m + 1) (n + 1) (by omega); unfold flen; omega
theorem flen_bounds (n : Nat) : n + 5 ≤ flen n ∧ flen n ≤ n + 10 := by have := nsz_pos (n + 1); have := nsz_le (n + 1); unfold flen; omega
theorem flen_zero : flen 0 = 5 := rfl
theorem sum4_bytes (s : Nat) : ∀ x ∈ sum4 s, x < 256 := by
  intro x hx
  simp only [sum4, List.mem_cons, List.not_mem_nil, or_false] at hx
  omega
theorem hed_bytes {b : List Nat} (hb : ∀ x ∈ b, x < 256) : ∀ x ∈ hed b, x < 256 := by
  intro x hx
  rcases List.mem_append.1 hx with h | h
  · exact nput_bytes _ x h
  · exact hb x h
theorem frm_bytes {b : List Nat} (hb : ∀ x ∈ b, x < 256) : ∀ x ∈ frm b, x < 256 := by
  intro x hx
  rcases List.mem_append.1 hx with h | h
  · exact hed_bytes hb x h
  · exact sum4_bytes _ x h
theorem sum4_back {s : Nat} (h : s < 4294967296) : s / 16777216 % 256 * 16777216 + s / 65536 % 256 * 65536 + s / 256 % 256 * 256 + s % 256 = s := by omega

/-- What a half says: a turn, a base, records. -/
structure RollV where
  turn : Nat
  base : List Nat
  recs : List (List Nat)
def RollV.first (r : RollV) : List Nat := frm (nput r.turn ++ r.base)
def RollV.bytes (r : RollV) : List Nat := r.first ++ r.recs.flatMap frm
/-- So many bytes, noughts behind. -/
def padN (n : Nat) (l : List Nat) : List Nat := l ++ List.replicate (n - l.length) 0
theorem padN_length {n : Nat} {l : List Nat} (h : l.length ≤ n) : (padN n l).length = n := by rw [padN, List.length_append, List.length_replicate]; omega
theorem padN_bytes {n : Nat} {l : List Nat} (h : ∀ x ∈ l, x < 256) : ∀ x ∈ padN n l, x < 256 := by
  intro x hx
  rcases List.mem_append.1 hx with hx | hx
  · exact h x hx
  · rw [List.eq_of_mem_replicate hx]; omega
structure RollV.Good (r : RollV) : Prop where
  turn : 1 ≤ r.turn ∧ r.turn ≤ 1099511627776
  base : r.base.length ≤ 60000 ∧ ∀ x ∈ r.base, x < 256
  recs : ∀ b ∈ r.recs, b.length ≤ 60000 ∧ ∀ x ∈ b, x < 256
theorem first_length (r : RollV) : r.first.length = flen (nsz r.turn + r.base.length) := by rw [RollV.first, frm_length, List.length_append, nput_length]
theorem first_bytes {r : RollV} (h : r.Good) : ∀ x ∈ r.first, x < 256 := frm_bytes fun x hx => (List.mem_append.1 hx).elim (nput_bytes _ x) (h.base.2 x)
theorem rolls_bytes {r : RollV} (h : r.Good) : ∀ x ∈ r.bytes, x < 256 := by
  intro x hx
  rcases List.mem_append.1 hx with hx | hx
  · exact first_bytes h x hx
  · obtain ⟨b, hb, hx⟩ := List.mem_flatMap.1 hx
    exact frm_bytes (h.recs b hb).2 x hx
/-- What stands in a half: no roll at all, or one. -/
def halfB (n : Nat) : Option RollV → List Nat
  | none => padN n []
  | some r => padN n r.bytes
def turnOf : Option RollV → Nat
  | none => 0
  | some r => r.turn
def FitsIn (n : Nat) : Option RollV → Prop
  | none => True
  | some r => r.Good ∧ r.bytes.length ≤ n
theorem halfB_length {n : Nat} {o : Option RollV} (h : FitsIn n o) : (halfB n o).length = n := by
  cases o with
  | none => exact padN_length (Nat.zero_le _)
  | some r => exact padN_length h.2
theorem halfB_bytes {n : Nat} {o : Option RollV} (h : FitsIn n o) : ∀ x ∈ halfB n o, x < 256 := by
  cases o with
  | none => exact padN_bytes fun x hx => (by cases hx)
  | some r => exact padN_bytes (rolls_bytes h.1)
/-- Behind a record more. -/
theorem bytes_snoc (t : Nat) (base : List Nat) (l : List (List Nat)) (b : List Nat) : (⟨t, base, l ++ [b]⟩ : RollV).bytes = (⟨t, base, l⟩ : RollV).bytes ++ frm b := by
  show RollV.first _ ++ (l ++ [b]).flatMap frm = (RollV.first _ ++ l.flatMap frm) ++ frm b
  rw [List.flatMap_append, List.append_assoc, List.flatMap_singleton]
  rfl
end Go.Proofs.Ytahfkcfbmklfpaa
