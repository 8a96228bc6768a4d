/- The document's own Of: an edit of a place. Condition: no text longer than 2^40 bytes. -/
import Derived.Test.YtgdojhccdicapaaRefOpNorm
import Derived.Test.YtgdojhccdicapaaRefValid
import Derived.Test.YtgdojhccdicapaaLit
namespace Go.Proofs.Ytgdojhccdicapaa
open Go.RowKit Go.Deep

/-- The parts of an edit of a place. -/
def ofParts (base fr to : Int) (t : List Nat) : List CompV := [⟨1, fr, []⟩, ⟨2, 0, t⟩, ⟨3, to - fr, []⟩, ⟨1, base - to, []⟩]
def OfNo (base fr to : Int) (t : List Nat) : Prop := fr < 0 ∨ to < fr ∨ base < to ∨ ¬ ∃ vs, V t vs
/-- What is told of an edit of a place. -/
def OfEnd (base fr to : Int) (t : List Nat) (w : World) (e : Ending) (w' : World) : Prop :=
  (OfNo base fr to t ∧ e = .returned (.tuple #[.slice none 0 0, .int .i64 1])) ∨
  (¬ OfNo base fr to t ∧ ∃ A c, e = .returned (.tuple #[.slice A (rNormal (ofParts base fr to t)).length c, .int .i64 0]) ∧ w'.ownsRow w.heap.size 35 3 (.slice A (rNormal (ofParts base fr to t)).length c) (rNormal (ofParts base fr to t)).length ((rNormal (ofParts base fr to t)).flatMap compCells))
set_option maxHeartbeats 2000000 in
set_option maxRecDepth 100000 in
theorem refOf_any (base fr to : Int) (t : List Nat) (hbase : base ≤ 9223372036854775807) (hb : ∀ x ∈ t, x < 256) (hl : t.length ≤ 1099511627776) (w : World) :
    Calls Try.prog 26 #[.int .i64 base, .int .i64 fr, .int .i64 to, .string (bstr t)] w fun e w' => OfEnd base fr to t w e w' ∧ Below w.heap.size w w' := by
  have GV := Lib.hid (fun w => refValid_any t hb hl w)
  by_cases h1 : fr < 0
  · have HE : Hid (OfNo base fr to t) := .inl h1
    go_enter Try.func26, Try.ntmps26
    go_wp2
    go_ret2
    exact ⟨.inl ⟨HE.out, rfl⟩, Below.refl _ _⟩
  by_cases h2 : to < fr
  · have HE : Hid (OfNo base fr to t) := .inr (.inl h2)
    go_enter Try.func26, Try.ntmps26
    go_wp2
    go_ret2
    exact ⟨.inl ⟨HE.out, rfl⟩, Below.refl _ _⟩
  by_cases h3 : base < to
  · have HE : Hid (OfNo base fr to t) := .inr (.inr (.inl h3))
    go_enter Try.func26, Try.ntmps26
    go_wp2
    go_ret2
    exact ⟨.inl ⟨HE.out, rfl⟩, Below.refl _ _⟩
  by_cases hv : ∃ vs, V t vs
  · obtain ⟨vs, hvs⟩ := hv
    have HE : Hid (¬ OfNo base fr to t) := fun h => by
      rcases h with h | h | h | h
      · exact h1 h
      · exact h2 h
      · exact h3 h
      · exact h ⟨vs, hvs⟩
    rw [validB_yes hvs] at GV
    clear hvs
    obtain ⟨L, HL⟩ : ∃ L, Hid (rNormal (ofParts base fr to t) = L) := ⟨_, Lib.hid rfl⟩
    have GN := Lib.hid (fun (A : Option Addr) (c : Nat) w h => refNormal_any A c (ofParts base fr to t) (by show 4 ≤ _; omega) (by show ([] ++ (t ++ ([] ++ ([] ++ []))) : List Nat).length ≤ _; simpa using hl) w h)
    rw [HL.out] at GN
    unfold OfEnd
    rw [HL.out]
    go_enter Try.func26, Try.ntmps26
    go_wp2_with fail
    refine (GV.out w).mono ?_
    rintro e w1 ⟨rfl, hb1⟩
    have HB1 := Lib.hid hb1; clear hb1
    go_wp2_with fail
    refine (GN.out (some ⟨w1.heap.size, 0, none⟩) 4 _ (CellsAt.lit (fun j v hj => ?_) rfl)).mono ?_
    · match j, hj with
      | 0, hj => cases hj; rfl
      | 1, hj => cases hj; rfl
      | 2, hj => cases hj; rfl
      | 3, hj => cases hj; rfl
      | 4, hj => cases hj; rfl
      | 5, hj => cases hj; rfl
      | 6, hj => cases hj; rfl
      | 7, hj => cases hj; rfl
      | 8, hj => cases hj; rfl
      | 9, hj => cases hj; rfl
      | 10, hj => cases hj; rfl
      | 11, hj => cases hj; rfl
    rintro e w2 ⟨A', c', rfl, hown, hb2⟩
    have HOWN := Lib.hid (own_base hown (base' := w.heap.size) (by have := HB1.out.size; simp; omega)); clear hown
    have HB2 : Hid (Below w.heap.size w w2) := (HB1.out.alloc HB1.out.size _).trans (hb2.mono (by have := HB1.out.size; simp; omega))
    clear hb2
    go_wp2
    go_ret2
    exact ⟨.inr ⟨HE.out, A', c', rfl, HOWN.out⟩, HB2.out⟩
  · have HE : Hid (OfNo base fr to t) := .inr (.inr (.inr hv))
    rw [validB_no hv] at GV
    go_enter Try.func26, Try.ntmps26
    go_wp2_with fail
    refine (GV.out w).mono ?_
    rintro e w1 ⟨rfl, hb1⟩
    have HB1 := Lib.hid hb1; clear hb1
    go_wp2
    go_ret2
    exact ⟨.inl ⟨HE.out, rfl⟩, HB1.out⟩
end Go.Proofs.Ytgdojhccdicapaa
