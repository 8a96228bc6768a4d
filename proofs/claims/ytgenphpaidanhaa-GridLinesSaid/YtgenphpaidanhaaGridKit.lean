/- What the laws call, told with its lengths: At of a place, Lines, the document's own Lines; the least and the greatest of two. Condition: a text of no more than 2^40 bytes. -/
import Derived.Test.YtgenphpaidanhaaGridAwake
import Derived.Test.YtgenphpaidanhaaRefLines
import Derived.Test.YtgenphpaidanhaaRefCount
import Derived.Test.YtgenphpaidanhaaRefValid
namespace Go.Proofs.Ytgenphpaidanhaa
open Go.RowKit Go.Deep Ieee
attribute [-go_sem] binOp_float_cmp_eql binOp_float_cmp_neq binOp_float_cmp_lss binOp_float_cmp_leq binOp_float_cmp_gtr binOp_float_cmp_geq run_eql_complex run_neq_complex run_min_int2 run_max_int2
attribute [local irreducible] floatOfInt

theorem rMin (x y : Int) {m : Int} (h : min x y = m) (ts : Array TypeId) (t : TypeId) (w : World) : (Builtin.min_ ts t #[.int .i64 x, .int .i64 y]).run Try.prog w = .ok (.int .i64 m) w := by
  rw [run_min_int2, ← h]
  congr 2
  split <;> omega
theorem rMax (x y : Int) {m : Int} (h : max x y = m) (ts : Array TypeId) (t : TypeId) (w : World) : (Builtin.max_ ts t #[.int .i64 x, .int .i64 y]).run Try.prog w = .ok (.int .i64 m) w := by
  rw [run_max_int2, ← h]
  congr 2
  split <;> omega
/-- At of a place there is. -/
theorem at_yes {l vs : List Nat} (hv : V l vs) (hl : l.length ≤ 1099511627776) {p : Nat} (hp : p ≤ vs.length) (w : World) :
    Calls Try.prog 11 #[.string (bstr l), .int .i64 (p : Int)] w fun e W' => (∃ a b, e = .returned (.tuple #[.complex .f64 a b, .int .i64 0]) ∧ PtV a b (col vs p : Int) (lin vs p : Int)) ∧ Below w.heap.size w W' := by
  refine (at_in hv hl (p : Int) w).mono ?_
  rintro e w' ⟨⟨q, a, b, hq, h3, hpt, rfl⟩ | ⟨h, _⟩, hb⟩
  · obtain rfl : q = p := by omega
    exact ⟨⟨a, b, rfl, hpt⟩, hb⟩
  · exact absurd rfl (h p hp)
theorem at_no {l vs : List Nat} (hv : V l vs) (hl : l.length ≤ 1099511627776) {place : Int} (hp : ¬ (0 ≤ place ∧ place ≤ vs.length)) (w : World) :
    Calls Try.prog 11 #[.string (bstr l), .int .i64 place] w fun e W' => e = .returned (.tuple #[.complex .f64 0 0, .int .i64 1]) ∧ Below w.heap.size w W' := by
  refine (at_in hv hl place w).mono ?_
  rintro e w' ⟨⟨q, a, b, hq, h3, _, _⟩ | ⟨_, rfl⟩, hb⟩
  · exact absurd ⟨by omega, by omega⟩ hp
  · exact ⟨rfl, hb⟩
theorem kLines {l vs : List Nat} (hv : V l vs) (hl : l.length ≤ 1099511627776) (w : World) :
    Calls Try.prog 9 #[.string (bstr l)] w fun e w' => e = .returned (.tuple #[.int .i64 ((lst vs : Int) + 1), .int .i64 0]) ∧ w = w' :=
  (lines_yes hv hl w).mono (fun _ _ h => ⟨h.1, h.2.symm⟩)
theorem kLinesBad {l : List Nat} (hv : ¬ ∃ vs, V l vs) (hb : ∀ x ∈ l, x < 256) (hl : l.length ≤ 1099511627776) (w : World) :
    Calls Try.prog 9 #[.string (bstr l)] w fun e w' => e = .returned (.tuple #[.int .i64 0, .int .i64 2]) ∧ w = w' :=
  (lines_bad hv hb hl w).mono (fun _ _ h => ⟨h.1, h.2.symm⟩)
/-- The document's own Lines, its lengths told. -/
theorem kRefLines {l vs : List Nat} (hv : V l vs) (hl : l.length ≤ 1099511627776) (w : World) :
    Calls Try.prog 15 #[.string (bstr l)] w fun e w' => (∃ b o c b' o' c', e = .returned (.tuple #[.slice (some ⟨b, o, none⟩) (lst vs + 1) c, .slice (some ⟨b', o', none⟩) (lst vs + 1) c']) ∧ IntsAt w' (some ⟨b, o, none⟩) (nz (bgs vs vs.length)) ∧ IntsAt w' (some ⟨b', o', none⟩) (nz (wide vs))) ∧ Below w.heap.size w w' := by
  refine (refLines_yes hv hl w).mono ?_
  rintro e w' ⟨⟨A, c, B, d, rfl, ha, hd⟩, hb⟩
  have e1 := begins_length vs
  have e2 := wide_length vs
  obtain ⟨b, o, rfl, _⟩ := ha.form (by rw [nz_length, e1]; omega)
  obtain ⟨b', o', rfl, _⟩ := hd.form (by rw [nz_length, e2]; omega)
  rw [e1, e2]
  exact ⟨⟨b, o, c, b', o', d, rfl, ha, hd⟩, hb⟩

end Go.Proofs.Ytgenphpaidanhaa
