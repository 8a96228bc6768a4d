/- Texts that are cut and put together: what the run answers, and which pieces of a code point's form are no text. Condition: no more than 2^40 bytes. -/
import Derived.Test.YtdkddehapddgmaaUtfAwake
import Derived.Laws.Strings3
import Derived.Laws.Concat
namespace Go.Proofs.Ytdkddehapddgmaa
open Go.RowKit Go.Deep

theorem slice_bstr_to (l : List Nat) (b : Nat) (h2 : b ≤ l.length) (w : World) :
    (Instr.slice 9 (.string (bstr l)) none (some (.int .i64 (b : Int))) none).run Try.prog w = .ok (.string (bstr (l.take b))) w := by
  rw [run_slice_string_to_if w 9 _ .i64 _ Try.underlying9, if_pos ⟨by omega, by rw [bstr_size]; omega⟩, Int.toNat_natCast, bstr_extract]
  simp
theorem slice_bstr_from (l : List Nat) (a : Nat) (h2 : a ≤ l.length) (w : World) :
    (Instr.slice 9 (.string (bstr l)) (some (.int .i64 (a : Int))) none none).run Try.prog w = .ok (.string (bstr (l.drop a))) w := by
  rw [run_slice_string_from_if w 9 _ .i64 _ Try.underlying9, if_pos ⟨by omega, by rw [bstr_size]; omega⟩, Int.toNat_natCast, bstr_extract, bstr_size, List.take_length]
theorem bstr_append (a b : List Nat) : bstr a ++ bstr b = bstr (a ++ b) := by
  refine bstr_of_data ?_
  rw [ByteArray.data_append, Array.toList_append, bstr_data, bstr_data, List.map_append]
theorem add_bstr (a b : List Nat) (ha : a.length ≤ 1099511627776) (hb : b.length ≤ 1099511627776) (w : World) : (Op.stringOp .add (bstr a) (bstr b)).run Try.prog w = .ok (.string (bstr (a ++ b))) w := by
  rw [run_string_add_sum w _ _ (by rw [bstr_size, bstr_size]; omega), bstr_append]
theorem bstr_nil : bstr [] = { data := #[] } := rfl

theorem enc_tail (v : Nat) : ∀ x ∈ (enc v).drop 1, 128 ≤ x ∧ x < 192 := by
  intro x hx
  rw [enc_def] at hx
  split at hx <;> (try split at hx) <;> (try split at hx) <;> simp at hx <;> omega
theorem cut_head {v : Nat} {a b : List Nat} (h : May v) (e : enc v = a ++ b) (ha : a ≠ []) (hb : b ≠ []) : ¬ ∃ vs, V a vs := by
  rintro ⟨vs, hm, he⟩
  cases vs with
  | nil => rw [E_nil] at he; exact ha he.symm
  | cons x vs =>
    have h1 := st_enc h []
    rw [e, ← he, E_cons, List.append_nil, List.append_assoc, st_enc (hm x (by simp))] at h1
    injection h1 with h1
    injection h1 with h1 h2
    exact hb (List.append_eq_nil_iff.1 h2).2
theorem cut_tail {v : Nat} {a b : List Nat} (e : enc v = a ++ b) (ha : a ≠ []) (hb : b ≠ []) : ¬ ∃ vs, V b vs := by
  refine no_text hb ?_
  cases a with
  | nil => exact absurd rfl ha
  | cons y a =>
    cases b with
    | nil => exact absurd rfl hb
    | cons c t =>
      have h1 := enc_tail v c (by rw [e]; simp)
      rw [st_cons, if_neg (by omega), if_pos h1.2]
theorem V.one {v : Nat} (h : May v) : V (enc v) [v] := ⟨by intro x hx; rw [List.mem_singleton.1 hx]; exact h, by rw [E_cons, E_nil, List.append_nil]⟩
theorem V.app {a b vs ws : List Nat} (h1 : V a vs) (h2 : V b ws) : V (a ++ b) (vs ++ ws) := by
  refine ⟨fun x hx => ?_, by rw [E_append, h1.2, h2.2]⟩
  rcases List.mem_append.1 hx with hx | hx
  · exact h1.1 x hx
  · exact h2.1 x hx
theorem V.lt {l vs : List Nat} (h : V l vs) : ∀ x ∈ l, x < 256 := by rw [← h.bytes]; exact E_lt h.may
end Go.Proofs.Ytdkddehapddgmaa
