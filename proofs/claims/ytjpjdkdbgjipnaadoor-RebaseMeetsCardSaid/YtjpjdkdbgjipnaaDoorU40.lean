/- The contract of alike.Block, of any number: a text of so many small letters. Condition: no more than 2^20 of them. (XBlock has the number 1 alone.) -/
import Derived.Test.YtjpjdkdbgjipnaaDoorU0
import Derived.Test.YtjpjdkdbgjipnaaDoorU37
import Derived.Deep.OwnRows
namespace Go.Proofs.YtjpjdkdbgjipnaaDoor
open Go.RowKit Go.Deep
def letter (n : Int) (i : Nat) : Nat := 97 + rnd (IntKind.i64.wrap (IntKind.i64.wrap (n * 7) + (i : Int))) 26
def blks (size : Nat) (n : Int) : List Nat := (List.range size).map fun i : Nat => letter n i
theorem yy221 (size : Nat) (n : Int) : (blks size n).length = size := by simp [blks]
theorem yy739 (n : Int) (i : Nat) : letter n i < 123 ∧ 97 ≤ letter n i := by
 have := rnd_lt (IntKind.i64.wrap (IntKind.i64.wrap (n * 7) + (i : Int))) (n := 26) (by omega)
 unfold letter
 omega
theorem yy893 (size : Nat) (n : Int) : ∀ x ∈ blks size n, x < 123 ∧ 97 ≤ x := by
 intro x hx
 obtain ⟨i, _, rfl⟩ := List.mem_map.1 hx
 exact yy739 n i
theorem yy894 (size : Nat) (n : Int) (i : Nat) (h : i < size) : (blks size n)[i]? = some (letter n i) := by
 rw [blks, List.getElem?_map, List.getElem?_range h]
 rfl
def yy740 (size : Nat) (n : Int) (w : World) (q : Nat) (wr : World) : Prop :=
 wr.rowIs w.heap.size 5 size (fun j => .int .u8 ((if j < q then letter n j else 0 : Nat) : Int)) ∧ Below w.heap.size w wr
set_option maxHeartbeats 1000000 in
set_option maxRecDepth 100000 in
theorem yy665 (size : Nat) (hs : size ≤ 1048576) (n : Int) (w : World) :
  Calls Tryd.prog 20 #[.int .i64 (size : Int), .int .i64 n] w fun e w' => e = .returned (.string (bstr (blks size n))) ∧ Below w.heap.size w w' := by
 have hmk := run_make_row' (P := Tryd.prog) 88 5 (.int .u8 0) 1 Tryd.underlying88 u8_info rfl .i64 .i64 size (by omega) (by omega)
 obtain ⟨M, HM⟩ : ∃ M, Hid (IntKind.i64.wrap (n * 7) = M) := ⟨_, rfl⟩
 have em := HM.out
 go_enter Tryd.func20, Tryd.ntmps20
 go_wp2
 clear hmk
 go_loopw [6] (fun i wr => ∃ q : Nat, q ≤ size ∧ i = .int .i64 q ∧ yy740 size n w q wr) (fun i _ => size - (intOf i).toNat)
 case atStart =>
  refine ⟨0, Nat.zero_le _, rfl, (World.rowIs_made w (.int .u8 0) size 5).congr fun j hj => ?_, (Below.refl _ _).alloc (Nat.le_refl _) _⟩
  rw [if_neg (by omega)]; rfl
 case round =>
  obtain ⟨q, hq, rfl, hrel⟩ := hrel
  have HREL := xh hrel; clear hrel
  by_cases hlt : q < size
  ·obtain ⟨X, HX⟩ : ∃ X, Hid (IntKind.i64.wrap (M + (q : Int)) = X) := ⟨_, rfl⟩
   have ex := HX.out
   have GR := xh (fun w => yy76 X 26 (by omega) (by omega) w)
   have hrl := rnd_lt X (n := 26) (by omega)
   obtain ⟨r, HR⟩ : ∃ r, Hid (rnd X 26 = r) := ⟨_, xh rfl⟩
   have HLT : Hid (letter n q = 97 + r) := by show letter n q = 97 + r; rw [letter, em, ex, HR.out]
   rw [HR.out] at GR hrl
   have hcell := HREL.out.1.cell hlt
   have hfr := HREL.out.1.frozen q
   go_wp2_with fail
   refine (GR.out _).mono ?_
   rintro e w' ⟨rfl, rfl⟩
   go_wp2_with fail
   go_roundw
   case rel =>
    refine ⟨q + 1, by omega, by go_num, (HREL.out.1.set q _).congr fun j hj => ?_, HREL.out.2.setCell (Nat.le_refl _) _⟩
    by_cases e : j = q
    ·subst e
     rw [if_pos rfl, if_pos (by omega), HLT.out]
     congr 1
    ·rw [if_neg e]
     by_cases h1 : j < q
     ·rw [if_pos h1, if_pos (by omega)]
     ·rw [if_neg h1, if_neg (by omega)]
   case measure => simp [intOf]; omega
  ·obtain rfl : q = size := by omega
   have HAT : Hid (BytesAt wr (some ⟨w.heap.size, 0, none⟩) (blks q n)) := by
    refine .inr ⟨w.heap.size, 0, rfl, HREL.out.1.lt, fun j c hj => ?_⟩
    have hjl : j < q := by have := (List.getElem?_eq_some_iff.1 hj).1; rwa [yy221] at this
    rw [yy894 q n j hjl] at hj
    injection hj with hj
    rw [Nat.zero_add, HREL.out.1.cell hjl, if_pos hjl, ← hj]
   have hcv := HAT.out.conv q 9 Tryd.underlying9
   rw [yy221] at hcv
   clear em
   go_wp2
   go_ret
   exact ⟨rfl, HREL.out.2⟩
end Go.Proofs.YtjpjdkdbgjipnaaDoor
