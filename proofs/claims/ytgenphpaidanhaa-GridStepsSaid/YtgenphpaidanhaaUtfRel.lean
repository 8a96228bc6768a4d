/- Ints that are code points of a text, what the loop of a text's writer holds, and which bytes are no text. No condition. -/
import Derived.Test.YtgenphpaidanhaaUtfMath
import Derived.Test.YtgenphpaidanhaaInts
namespace Go.Proofs.Ytgenphpaidanhaa
open Go.RowKit Go.Deep

theorem enc_def (v : Nat) : enc v = if v < 128 then [v] else if v < 2048 then [192 + v / 64, 128 + v % 64] else if v < 65536 then [224 + v / 4096, 128 + v / 64 % 64, 128 + v % 64] else [240 + v / 262144, 128 + v / 4096 % 64, 128 + v / 64 % 64, 128 + v % 64] := by unfold enc; rfl
def nz (vs : List Nat) : List Int := vs.map fun v : Nat => (v : Int)
theorem nz_length (vs : List Nat) : (nz vs).length = vs.length := by simp [nz]
theorem nz_snoc (vs : List Nat) (v : Nat) : nz (vs ++ [v]) = nz vs ++ [(v : Int)] := by simp [nz]
/-- The ints are code points, all that may be. -/
def VZ (l : List Int) (vs : List Nat) : Prop := (∀ v ∈ vs, May v) ∧ l = nz vs
theorem VZ.nil : VZ [] [] := ⟨by simp, rfl⟩
theorem VZ.snoc {l : List Int} {vs : List Nat} (h : VZ l vs) {v : Nat} (hv : May v) : VZ (l ++ [(v : Int)]) (vs ++ [v]) := by
  refine ⟨fun x hx => ?_, by rw [nz_snoc, h.2]⟩
  rcases List.mem_append.1 hx with hx | hx
  · exact h.1 x hx
  · rw [List.mem_singleton.1 hx]; exact hv
theorem VZ.not {l : List Int} {k : Nat} (hk : k < l.length) (h : ¬ (0 < l[k] ∧ l[k] ≤ 1114111 ∧ (l[k] < 55296 ∨ 57343 < l[k]))) : ¬ ∃ vs, VZ l vs := by
  rintro ⟨vs, hm, rfl⟩
  have hk' : k < vs.length := by simpa [nz] using hk
  have h1 := hm vs[k] (List.getElem_mem hk')
  have h2 : (nz vs)[k] = ((vs[k] : Nat) : Int) := by simp [nz]
  rw [h2] at h
  obtain ⟨a, b, c⟩ := h1
  omega
theorem VZ.uniq {l : List Int} {vs ws : List Nat} (h1 : VZ l vs) (h2 : VZ l ws) : vs = ws := by
  have h := h1.2.symm.trans h2.2
  have inj : ∀ a b : List Nat, nz a = nz b → a = b := by
    intro a
    induction a with
    | nil => intro b hb; cases b with
      | nil => rfl
      | cons y b => simp [nz] at hb
    | cons x a ih => intro b hb; cases b with
      | nil => simp [nz] at hb
      | cons y b =>
        simp only [nz, List.map_cons, List.cons.injEq] at hb
        rw [show x = y by omega, ih b hb.2]
  exact inj _ _ h

/-- What the loop of a text's writer holds. -/
def TextRel (w : World) (l : List Int) (k : Nat) (v : Value) (wr : World) : Prop :=
  ∃ vs, VZ (l.take k) vs ∧ wr.ownsRow w.heap.size 5 1 v (E vs).length (u8s (E vs)) ∧ Below w.heap.size w wr
theorem TextRel.start (w : World) (l : List Int) : TextRel w l 0 (.slice none 0 0) w := ⟨[], VZ.nil, by rw [E_nil]; simpa [u8s] using World.ownsRow_nil _ _ _ _, Below.refl _ _⟩
theorem VZ.length {l : List Int} {vs : List Nat} (h : VZ l vs) : vs.length = l.length := by rw [h.2, nz_length]
theorem E_length_le4 (vs : List Nat) : (E vs).length ≤ 4 * vs.length := by
  induction vs with
  | nil => rw [E_nil]; simp
  | cons v vs ih => rw [E_cons, List.length_append, List.length_cons]; have := enc_le v; omega

theorem no_text {l : List Nat} (h : l ≠ []) (hs : st l = none) : ¬ ∃ vs, V l vs := by
  have := none_behind (vs := []) (r := l) (by simp) h hs
  rwa [E_nil, List.nil_append] at this
theorem V.length_le {l vs : List Nat} (h : V l vs) : vs.length ≤ l.length := by rw [← h.bytes]; exact E_length_le vs
theorem V.lt {l vs : List Nat} (h : V l vs) : ∀ x ∈ l, x < 256 := by rw [← h.bytes]; exact E_lt h.may
end Go.Proofs.Ytgenphpaidanhaa
