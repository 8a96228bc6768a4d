/- The contract of the statements' own block: a sector of a number, in new memory. No condition. -/
import Derived.Test.YtnjgjkfdblpddaaBlocks
import Derived.Test.YtnjgjkfdblpddaaConv
namespace Go.Proofs.Ytnjgjkfdblpddaa
open Go.RowKit Go.Deep

/-- Bytes in memory that was made since w. -/
def FreshBytes (l : List Nat) (w : World) (e : Ending) (w' : World) : Prop :=
  ∃ g c, e = .returned (.slice (some ⟨g, 0, none⟩) l.length c) ∧ BytesAt w' (some ⟨g, 0, none⟩) l ∧ w.heap.size ≤ g ∧ g < w'.heap.size ∧ Below w.heap.size w w'
theorem block_any (n : Int) (w : World) : Calls Try.prog 17 #[.int .i64 n] w (FreshBytes (blks 64 n) w) := by
  have GB := Lib.hid (blocks_any 64 (by omega) n w)
  have GC := Lib.hid (fun w => conv_str (blks 64 n) (fun x hx => by have := blks_lt 64 n x hx; omega) w)
  have HL := Lib.hid (blks_length 64 n)
  obtain ⟨T, HT⟩ : ∃ T, Hid (blks 64 n = T) := ⟨_, rfl⟩
  rw [HT.out] at GB GC HL ⊢
  have hsz : (bstr T).size = 64 := by rw [bstr_size, HL.out]
  go_enter Try.func17, Try.ntmps17
  go_wp2_with fail
  refine GB.out.mono ?_
  rintro e w1 ⟨rfl, hb1⟩
  obtain ⟨cap, w2, hrun, hat, hb2⟩ := GC.out w1
  have HB1 := Lib.hid hb1; have HB2 := Lib.hid hb2; have HAT := Lib.hid hat; clear hb1 hb2 hat
  go_wp2
  go_ret
  have hlt : w1.heap.size < w2.heap.size := by
    rcases HAT.out with h | ⟨b, off, e, hlt, _⟩
    · have := HL.out; rw [h] at this; simp at this
    · injection e with e; injection e with e; rw [e]; exact hlt
  exact ⟨w1.heap.size, cap, rfl, HAT.out, HB1.out.size, hlt, HB1.out.trans (HB2.out.mono HB1.out.size)⟩
/-- A sector's bytes in memory that was made since w, with room. -/
def FreshSec (l : List Nat) (w : World) (e : Ending) (w' : World) : Prop :=
  ∃ g c, e = .returned (.slice (some ⟨g, 0, none⟩) 64 c) ∧ BytesAt w' (some ⟨g, 0, none⟩) l ∧ w.heap.size ≤ g ∧ g < w'.heap.size ∧ Below w.heap.size w w' ∧ 64 ≤ c
theorem block_sec (n : Int) (w : World) : Calls Try.prog 17 #[.int .i64 n] w (FreshSec (blks 64 n) w) := by
  have GB := Lib.hid (blocks_any 64 (by omega) n w)
  have GC := Lib.hid (fun w => conv_str_cap (blks 64 n) (fun x hx => by have := blks_lt 64 n x hx; omega) w)
  have HL := Lib.hid (blks_length 64 n)
  obtain ⟨T, HT⟩ : ∃ T, Hid (blks 64 n = T) := ⟨_, rfl⟩
  rw [HT.out] at GB GC HL ⊢
  have hsz : (bstr T).size = 64 := by rw [bstr_size, HL.out]
  go_enter Try.func17, Try.ntmps17
  go_wp2_with fail
  refine GB.out.mono ?_
  rintro e w1 ⟨rfl, hb1⟩
  obtain ⟨cap, w2, hrun, hat, hb2, hcap⟩ := GC.out w1
  rw [HL.out] at hrun hcap
  have HB1 := Lib.hid hb1; have HB2 := Lib.hid hb2; have HAT := Lib.hid hat; have HCAP := Lib.hid hcap
  clear hb1 hb2 hat hcap
  go_wp2
  go_ret
  have hlt : w1.heap.size < w2.heap.size := by
    rcases HAT.out with h | ⟨b, off, e, hlt, _⟩
    · have := HL.out; rw [h] at this; simp at this
    · injection e with e; injection e with e; rw [e]; exact hlt
  exact ⟨w1.heap.size, cap, rfl, HAT.out, HB1.out.size, hlt, HB1.out.trans (HB2.out.mono HB1.out.size), HCAP.out⟩
end Go.Proofs.Ytnjgjkfdblpddaa
