/- The contract of alike.Block, of any number: a text of so many small letters. Condition: no more than 2^20 of them. (XBlock has the number 1 alone.) (Merged of 2 texts.) -/
import Derived.Test.YtakdcfjlhpponaaKRef
import Derived.Test.YtakdcfjlhpponaaKOp
import Derived.Test.YtakdcfjlhpponaaKUw
import Derived.Test.YtakdcfjlhpponaaKAl
import Derived.Test.YtakdcfjlhpponaaKBase
import Derived.Deep.OwnRows
/- The landed Of: an edit of a place. Condition: no text longer than 2^40 bytes. -/
namespace Go.Proofs.Ytakdcfjlhpponaa
open Go.RowKit Go.Deep

set_option maxHeartbeats 2000000 in
set_option maxRecDepth 100000 in
theorem opOf_any (base fr te : Int) (t : List Nat) (hbase : base ≤ 9223372036854775807) (hb : ∀ x ∈ t, x < 256) (hl : t.length ≤ 1099511627776) (w : World) :
    Calls Try.prog 25 #[.int .i64 base, .int .i64 fr, .int .i64 te, .string (bstr t)] w fun e w' => OfEnd base fr te t w e w' ∧ Below w.heap.size w w' := by
  by_cases h1 : fr < 0
  · have HE : Hid (OfNo base fr te t) := .inl h1
    go_enter Try.func25, Try.ntmps25
    go_wp2
    go_ret2
    exact ⟨.inl ⟨HE.out, rfl⟩, Below.refl _ _⟩
  by_cases h2 : te < fr
  · have HE : Hid (OfNo base fr te t) := .inr (.inl h2)
    go_enter Try.func25, Try.ntmps25
    go_wp2
    go_ret2
    exact ⟨.inl ⟨HE.out, rfl⟩, Below.refl _ _⟩
  by_cases h3 : base < te
  · have HE : Hid (OfNo base fr te t) := .inr (.inr (.inl h3))
    go_enter Try.func25, Try.ntmps25
    go_wp2
    go_ret2
    exact ⟨.inl ⟨HE.out, rfl⟩, Below.refl _ _⟩
  by_cases hv : ∃ vs, V t vs
  · obtain ⟨vs, hvs⟩ := hv
    have HE : Hid (¬ OfNo base fr te t) := fun h => by
      rcases h with h | h | h | h
      · exact h1 h
      · exact h2 h
      · exact h3 h
      · exact h ⟨vs, hvs⟩
    have GV := Lib.hid (fun w => utfValid_yes hvs hl w)
    clear hvs
    have GR := Lib.hid (fun n w => opRetain_any n w)
    have GI := Lib.hid (fun w => opInsert_any t w)
    have GD := Lib.hid (fun n w => opRemove_any n w)
    obtain ⟨L, HL⟩ : ∃ L, Hid (rNormal (ofParts base fr te t) = L) := ⟨_, Lib.hid rfl⟩
    have HGOOD : Hid (∀ y ∈ ofParts base fr te t, y.Good) := fun y hy => by
      have h64 : ∀ n : Int, 0 ≤ n → n ≤ base → Fit64 n := fun n h0 h1 => by unfold Fit64; omega
      rcases List.mem_cons.1 hy with rfl | hy
      · exact ⟨by unfold Fit64; simp, h64 _ (by show 0 ≤ fr; omega) (by show fr ≤ base; omega), by unfold Bytes; simp⟩
      rcases List.mem_cons.1 hy with rfl | hy
      · exact ⟨by unfold Fit64; simp, by unfold Fit64; simp, hb, (by show t.length ≤ _; unfold maxLen; omega)⟩
      rcases List.mem_cons.1 hy with rfl | hy
      · exact ⟨by unfold Fit64; simp, h64 _ (by show 0 ≤ te - fr; omega) (by show te - fr ≤ base; omega), by unfold Bytes; simp⟩
      rcases List.mem_cons.1 hy with rfl | hy
      · exact ⟨by unfold Fit64; simp, h64 _ (by show 0 ≤ base - te; omega) (by show base - te ≤ base; omega), by unfold Bytes; simp⟩
      · cases hy
    have GN := Lib.hid (fun (A : Option Addr) (c : Nat) w h => opNormal_any A c (ofParts base fr te t) (by show 4 ≤ _; omega) (by show ([] ++ (t ++ ([] ++ ([] ++ []))) : List Nat).length ≤ _; simpa using hl) HGOOD.out w h)
    rw [HL.out] at GN
    unfold OfEnd
    rw [HL.out]
    go_enter Try.func25, Try.ntmps25
    go_wp2_with fail
    refine (GV.out w).mono ?_
    rintro e w0 ⟨rfl, rfl⟩
    go_wp2_with fail
    refine (GR.out _ _).mono ?_
    rintro e v1 ⟨rfl, hb1⟩
    have HV1 : Hid (Below w.heap.size w v1) := hb1
    clear hb1
    go_wp2_with fail
    refine (GI.out _).mono ?_
    rintro e v2 ⟨rfl, hb1⟩
    have HV2 : Hid (Below w.heap.size w v2) := HV1.out.trans (hb1.mono HV1.out.size)
    clear hb1
    go_wp2_with fail
    refine (GD.out _ _).mono ?_
    rintro e v3 ⟨rfl, hb1⟩
    have HV3 : Hid (Below w.heap.size w v3) := HV2.out.trans (hb1.mono HV2.out.size)
    clear hb1
    go_wp2_with fail
    refine (GR.out _ _).mono ?_
    rintro e w1 ⟨rfl, hb1⟩
    have HB1 : Hid (Below w.heap.size w w1) := HV3.out.trans (hb1.mono HV3.out.size)
    clear hb1
    go_wp2_with fail
    refine (GN.out (some ⟨w1.heap.size, 0, none⟩) 4 _ (CellsAt.lit (fun j v hj => ?_) rfl)).mono ?_
    · match j, hj with
      | 0, hj => cases hj; rfl
      | 1, hj => cases hj; rfl
      | 2, hj => cases hj; rfl
      | 3, hj => cases hj; rfl
      | 4, hj => cases hj; rfl
      | 5, hj => cases hj; rfl
      | 6, hj => cases hj; rfl
      | 7, hj => cases hj; rfl
      | 8, hj => cases hj; rfl
      | 9, hj => cases hj; rfl
      | 10, hj => cases hj; rfl
      | 11, hj => cases hj; rfl
    rintro e w2 ⟨A', c', rfl, hown, hb2⟩
    have HOWN := Lib.hid (own_base hown (base' := w.heap.size) (by have := HB1.out.size; simp; omega)); clear hown
    have HB2 : Hid (Below w.heap.size w w2) := (HB1.out.alloc HB1.out.size _).trans (hb2.mono (by have := HB1.out.size; simp; omega))
    clear hb2
    go_wp2
    go_ret2
    exact ⟨.inr ⟨HE.out, A', c', rfl, HOWN.out⟩, HB2.out⟩
  · have HE : Hid (OfNo base fr te t) := .inr (.inr (.inr hv))
    have GV := Lib.hid (fun w => utfValid_no hv hb hl w)
    go_enter Try.func25, Try.ntmps25
    go_wp2_with fail
    refine (GV.out w).mono ?_
    rintro e w1 ⟨rfl, rfl⟩
    go_wp2
    go_ret2
    exact ⟨.inl ⟨HE.out, rfl⟩, Below.refl _ _⟩
end Go.Proofs.Ytakdcfjlhpponaa

/- The contract of alike.Block, of any number: a text of so many small letters. Condition: no more than 2^20 of them. (XBlock has the number 1 alone.) -/
namespace Go.Proofs.Ytakdcfjlhpponaa
open Go.RowKit Go.Deep

/-- The letters of a number. -/
def letter (n : Int) (i : Nat) : Nat := 97 + rnd (IntKind.i64.wrap (IntKind.i64.wrap (n * 7) + (i : Int))) 26
def blks (size : Nat) (n : Int) : List Nat := (List.range size).map fun i : Nat => letter n i
theorem blks_length (size : Nat) (n : Int) : (blks size n).length = size := by simp [blks]
theorem letter_lt (n : Int) (i : Nat) : letter n i < 123 ∧ 97 ≤ letter n i := by
  have := rnd_lt (IntKind.i64.wrap (IntKind.i64.wrap (n * 7) + (i : Int))) (n := 26) (by omega)
  unfold letter
  omega
theorem blks_lt (size : Nat) (n : Int) : ∀ x ∈ blks size n, x < 123 ∧ 97 ≤ x := by
  intro x hx
  obtain ⟨i, _, rfl⟩ := List.mem_map.1 hx
  exact letter_lt n i
theorem blks_at (size : Nat) (n : Int) (i : Nat) (h : i < size) : (blks size n)[i]? = some (letter n i) := by
  rw [blks, List.getElem?_map, List.getElem?_range h]
  rfl

def BlocksRel (size : Nat) (n : Int) (w : World) (q : Nat) (wr : World) : Prop :=
  wr.rowIs w.heap.size 5 size (fun j => .int .u8 ((if j < q then letter n j else 0 : Nat) : Int)) ∧ Below w.heap.size w wr
set_option maxHeartbeats 1000000 in
set_option maxRecDepth 100000 in
theorem blocks_any (size : Nat) (hs : size ≤ 1048576) (n : Int) (w : World) :
    Calls Try.prog 26 #[.int .i64 (size : Int), .int .i64 n] w fun e w' => e = .returned (.string (bstr (blks size n))) ∧ Below w.heap.size w w' := by
  have hmk := run_make_row' (P := Try.prog) 69 5 (.int .u8 0) 1 Try.underlying69 u8_info rfl .i64 .i64 size (by omega) (by omega)
  obtain ⟨M, HM⟩ : ∃ M, Hid (IntKind.i64.wrap (n * 7) = M) := ⟨_, rfl⟩
  have em := HM.out
  go_enter Try.func26, Try.ntmps26
  go_wp2
  clear hmk
  go_loopw [6] (fun i wr => ∃ q : Nat, q ≤ size ∧ i = .int .i64 q ∧ BlocksRel size n w q wr) (fun i _ => size - (intOf i).toNat)
  case atStart =>
    refine ⟨0, Nat.zero_le _, rfl, (World.rowIs_made w (.int .u8 0) size 5).congr fun j hj => ?_, (Below.refl _ _).alloc (Nat.le_refl _) _⟩
    rw [if_neg (by omega)]; rfl
  case round =>
    obtain ⟨q, hq, rfl, hrel⟩ := hrel
    have HREL := Lib.hid hrel; clear hrel
    by_cases hlt : q < size
    · obtain ⟨X, HX⟩ : ∃ X, Hid (IntKind.i64.wrap (M + (q : Int)) = X) := ⟨_, rfl⟩
      have ex := HX.out
      have GR := Lib.hid (fun w => alikeRound_any X 26 (by omega) (by omega) w)
      have hrl := rnd_lt X (n := 26) (by omega)
      obtain ⟨r, HR⟩ : ∃ r, Hid (rnd X 26 = r) := ⟨_, Lib.hid rfl⟩
      have HLT : Hid (letter n q = 97 + r) := by show letter n q = 97 + r; rw [letter, em, ex, HR.out]
      rw [HR.out] at GR hrl
      have hcell := HREL.out.1.cell hlt
      have hfr := HREL.out.1.frozen q
      go_wp2_with fail
      refine (GR.out _).mono ?_
      rintro e w' ⟨rfl, rfl⟩
      go_wp2_with fail
      go_roundw
      case rel =>
        refine ⟨q + 1, by omega, by go_num, (HREL.out.1.set q _).congr fun j hj => ?_, HREL.out.2.setCell (Nat.le_refl _) _⟩
        by_cases e : j = q
        · subst e
          rw [if_pos rfl, if_pos (by omega), HLT.out]
          congr 1
        · rw [if_neg e]
          by_cases h1 : j < q
          · rw [if_pos h1, if_pos (by omega)]
          · rw [if_neg h1, if_neg (by omega)]
      case measure => simp [intOf]; omega
    · obtain rfl : q = size := by omega
      have HAT : Hid (BytesAt wr (some ⟨w.heap.size, 0, none⟩) (blks q n)) := by
        refine .inr ⟨w.heap.size, 0, rfl, HREL.out.1.lt, fun j c hj => ?_⟩
        have hjl : j < q := by have := (List.getElem?_eq_some_iff.1 hj).1; rwa [blks_length] at this
        rw [blks_at q n j hjl] at hj
        injection hj with hj
        rw [Nat.zero_add, HREL.out.1.cell hjl, if_pos hjl, ← hj]
      have hcv := HAT.out.conv q 9 Try.underlying9
      rw [blks_length] at hcv
      clear em
      go_wp2
      go_ret
      exact ⟨rfl, HREL.out.2⟩
end Go.Proofs.Ytakdcfjlhpponaa
