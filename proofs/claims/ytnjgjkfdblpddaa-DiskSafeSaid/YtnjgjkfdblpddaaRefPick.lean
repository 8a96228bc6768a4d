/- The document's own pick and round of chapter 5. Condition: round's second number is positive and no more than 2^62. -/
import Derived.Test.YtnjgjkfdblpddaaRound
import Derived.Test.YtnjgjkfdblpddaaInts
namespace Go.Proofs.Ytnjgjkfdblpddaa
open Go.RowKit Go.Deep

/-- The k-th one, else 0. -/
def pk (l : List Int) (k : Nat) : Int := (l[k]?).getD 0
theorem refPick_any (A : Option Addr) (l : List Int) (c k : Nat) (w : World) (h : IntsAt w A l) :
    Calls Try.prog 33 #[.slice A l.length c, .int .i64 (k : Int)] w fun e w' => e = .returned (.int .i64 (pk l k)) ∧ w' = w := by
  by_cases hk : l.length ≤ k
  · have e : Hid (pk l k = 0) := by show _ = _; rw [pk, List.getElem?_eq_none hk]; rfl
    go_enter Try.func33, Try.ntmps33
    go_wp2
    go_ret
    exact ⟨by rw [e.out]; rfl, rfl⟩
  · obtain ⟨b, off, rfl, _⟩ := h.form (by omega)
    have hlt : k < l.length := by omega
    have c0 := h.cell hlt
    have e : Hid (pk l k = l[k]) := by show _ = _; rw [pk, List.getElem?_eq_getElem hlt]; rfl
    clear h
    obtain ⟨x, hx⟩ : ∃ x, l[k] = x := ⟨_, rfl⟩
    rw [hx] at c0 e
    clear hx
    go_enter Try.func33, Try.ntmps33
    go_wp2
    go_ret
    exact ⟨by rw [e.out]; rfl, rfl⟩
theorem refRound_any (k : Int) (n : Nat) (h0 : 0 < n) (h1 : n ≤ 4611686018427387904) (w : World) :
    Calls Try.prog 34 #[.int .i64 k, .int .i64 (n : Int)] w fun e w' => e = .returned (.int .i64 ((rnd k n : Nat) : Int)) ∧ w' = w := by
  obtain ⟨hb1, hb2⟩ := tmod_bounds k n h0
  have HE := Lib.hid (emod_tmod k n h0)
  have HC := Lib.hid (rnd_cast k h0)
  by_cases hlt : k.tmod n < 0
  all_goals
    go_enter Try.func34, Try.ntmps34
    go_wp2
    go_ret
    first
      | exact ⟨by rw [HC.out, HE.out, if_pos hlt]; rfl, rfl⟩
      | exact ⟨by rw [HC.out, HE.out, if_neg (by omega)]; rfl, rfl⟩
end Go.Proofs.Ytnjgjkfdblpddaa
