/- What becomes of a count that is too great, and of a count with nothing behind it, in plain mathematics. No condition. (Merged of 2 texts.) -/
import Derived.Test.YtkapfijokmajlaaQRd
import Derived.Test.YtkapfijokmajlaaQParts
import Derived.Test.YtkapfijokmajlaaQBack
/- The contract of alike.Block with the number 1: a text of so many small letters. Condition: no more than 2^20 of them. -/
namespace Go.Proofs.Ytkapfijokmajlaa
open Go.RowKit Go.Deep

/-- The letters. -/
def blk (n : Nat) : List Nat := (List.range n).map fun i : Nat => (97 + rnd (7 + (i : Int)) 26 : Nat)
theorem blk_length (n : Nat) : (blk n).length = n := by simp [blk]
theorem blk_lt (n : Nat) : ∀ x ∈ blk n, x < 123 ∧ 97 ≤ x := by
  intro x hx
  obtain ⟨i, _, rfl⟩ := List.mem_map.1 hx
  have := rnd_lt (7 + (i : Int)) (n := 26) (by omega)
  omega
theorem enc_ascii (v : Nat) (h : v < 128) : enc v = [v] := by
  unfold enc
  rw [if_pos h]
theorem E_ascii (l : List Nat) (h : ∀ x ∈ l, x < 128) : E l = l := by
  induction l with
  | nil => exact E_nil
  | cons x l ih => rw [E_cons, enc_ascii x (h x (by simp)), ih (fun y hy => h y (by simp [hy]))]; rfl
theorem blk_valid (n : Nat) : validB (blk n) = true :=
  validB_yes (vs := blk n) ⟨fun v hv => by have := blk_lt n v hv; unfold May; omega, E_ascii _ (fun x hx => by have := blk_lt n x hx; omega)⟩

def BlockRel (n : Nat) (w : World) (q : Nat) (wr : World) : Prop :=
  wr.rowIs w.heap.size 5 n (fun j => .int .u8 ((if j < q then 97 + rnd (7 + (j : Int)) 26 else 0 : Nat) : Int)) ∧ Below w.heap.size w wr
set_option maxHeartbeats 1000000 in
set_option maxRecDepth 100000 in
theorem block_any (n : Nat) (hn : n ≤ 1048576) (w : World) :
    Calls Try.prog 33 #[.int .i64 (n : Int), .int .i64 1] w fun e w' => e = .returned (.string (bstr (blk n))) ∧ Below w.heap.size w w' := by
  have hmk := run_make_row' (P := Try.prog) 25 5 (.int .u8 0) 1 Try.underlying25 u8_info rfl .i64 .i64 n (by omega) (by omega)
  go_enter Try.func33, Try.ntmps33
  go_wp2
  clear hmk
  go_loopw [6] (fun i wr => ∃ q : Nat, q ≤ n ∧ i = .int .i64 q ∧ BlockRel n w q wr) (fun i _ => n - (intOf i).toNat)
  case atStart =>
    refine ⟨0, Nat.zero_le _, rfl, (World.rowIs_made w (.int .u8 0) n 5).congr fun j hj => ?_, (Below.refl _ _).alloc (Nat.le_refl _) _⟩
    rw [if_neg (by omega)]; rfl
  case round =>
    obtain ⟨q, hq, rfl, hrel⟩ := hrel
    have HREL := Lib.hid hrel; clear hrel
    by_cases hlt : q < n
    · have GR := Lib.hid (fun w => alikeRound_any (7 + (q : Int)) 26 (by omega) (by omega) w)
      have hrl := rnd_lt (7 + (q : Int)) (n := 26) (by omega)
      obtain ⟨r, HR⟩ : ∃ r, Hid (rnd (7 + (q : Int)) 26 = r) := ⟨_, Lib.hid rfl⟩
      rw [HR.out] at GR hrl
      have hcell := HREL.out.1.cell hlt
      have hfr := HREL.out.1.frozen q
      go_wp2_with fail
      refine (GR.out _).mono ?_
      rintro e w' ⟨rfl, rfl⟩
      go_wp2_with fail
      go_roundw
      case rel =>
        refine ⟨q + 1, by omega, by go_num, (HREL.out.1.set q _).congr fun j hj => ?_, HREL.out.2.setCell (Nat.le_refl _) _⟩
        by_cases e : j = q
        · subst e
          rw [if_pos rfl, if_pos (by omega), HR.out]
          congr 1
        · rw [if_neg e]
          by_cases h1 : j < q
          · rw [if_pos h1, if_pos (by omega)]
          · rw [if_neg h1, if_neg (by omega)]
      case measure => simp [intOf]; omega
    · obtain rfl : q = n := by omega
      have HAT : Hid (BytesAt wr (some ⟨w.heap.size, 0, none⟩) (blk q)) := by
        refine .inr ⟨w.heap.size, 0, rfl, HREL.out.1.lt, fun j c hj => ?_⟩
        have hjl : j < q := by have := (List.getElem?_eq_some_iff.1 hj).1; rwa [blk_length] at this
        rw [blk, List.getElem?_map, List.getElem?_range hjl] at hj
        injection hj with hj
        rw [Nat.zero_add, HREL.out.1.cell hjl, if_pos hjl, ← hj]
      have hcv := HAT.out.conv q 9 Try.underlying9
      rw [blk_length] at hcv
      go_wp2
      go_ret
      exact ⟨rfl, HREL.out.2⟩
end Go.Proofs.Ytkapfijokmajlaa

/- What becomes of a count that is too great, and of a count with nothing behind it, in plain mathematics. No condition. -/
namespace Go.Proofs.Ytkapfijokmajlaa

theorem rdNum_err {s : Rd} (h : s.2 ≠ 0) : rdNum s = (s, 0) := by rw [rdNum, if_neg h]
theorem rdNum_none : rdNum ([], 0) = (([], 2), 0) := by decide
theorem rdText_err {s : Rd} (most : Nat) (h : s.2 ≠ 0) : rdText most s = (s, []) := by
  rw [rdText, rdNum_err h]
  simp only
  rw [if_neg h]
theorem rdFlag_err {s : Rd} (h : s.2 ≠ 0) : rdFlag s = (s, false) := by
  rw [rdFlag, rdNum_err h]
  simp
theorem rdCount_err {s : Rd} (most : Nat) (h : s.2 ≠ 0) : rdCount most s = (s, 0) := by
  rw [rdCount, rdNum_err h]
  simp only
  rw [if_neg (by simp)]
theorem rdMany_err {α : Type} (f : Rd → Rd × α) (n : Nat) {s : Rd} (h : s.2 ≠ 0) : rdMany f n s = (s, []) := by
  cases n with
  | zero => rfl
  | succ n => rw [rdMany, if_neg h]
theorem rdComps_err {s : Rd} (h : s.2 ≠ 0) : (rdComps s).1 = s := by
  rw [rdComps, rdCount_err 100 h]
  simp only
  rw [rdMany_err rdComp 0 h]
theorem rdComp_none : (rdComp ([], 0)).1 = ([], 2) := by
  rw [rdComp, rdNum_none]
  simp only
  rw [rdNum_err (s := ([], 2)) (by decide), rdText_err 8000 (s := ([], 2)) (by decide)]
theorem rdNode_none : (rdNode ([], 0)).1 = ([], 2) := by
  rw [rdNode, rdNum_none]
  simp only
  rw [rdNum_err (s := ([], 2)) (by decide), rdText_err 100 (s := ([], 2)) (by decide), rdFlag_err (s := ([], 2)) (by decide), rdText_err 8000 (s := ([], 2)) (by decide)]
theorem rdAct_none : (rdAct ([], 0)).1 = ([], 2) := by
  rw [rdAct, rdNum_none]
  simp only
  rw [rdNum_err (s := ([], 2)) (by decide)]
  simp only
  rw [rdNum_err (s := ([], 2)) (by decide), rdText_err 100 (s := ([], 2)) (by decide), rdFlag_err (s := ([], 2)) (by decide)]
  simp only
  exact rdComps_err (by decide)
theorem count_lim {n most : Nat} (hn : n ≤ 1099511627776) (h : most < n) (r : List Nat) : rdCount most (nput n ++ r, 0) = ((r, 3), 0) := by
  obtain ⟨h1, _⟩ := trip_num (iNum_yes hn) r
  rw [Int.toNat_natCast] at h1
  rw [rdCount, h1, if_pos ⟨rfl, h⟩]
theorem count_ok {n most : Nat} (hn : n ≤ 1099511627776) (h : n ≤ most) (r : List Nat) : rdCount most (nput n ++ r, 0) = ((r, 0), n) := trip_count (iNum_yes hn) h r
theorem many_none {α : Type} (f : Rd → Rd × α) (hf : (f ([], 0)).1 = ([], 2)) (n : Nat) (h : 0 < n) : (rdMany f n ([], 0)).1 = ([], 2) := by
  obtain ⟨m, rfl⟩ : ∃ m, n = m + 1 := ⟨n - 1, by omega⟩
  rw [rdMany, if_pos rfl, hf]
  simp only
  rw [rdMany_err f m (by decide)]
/-- Comps. -/
theorem limComps {n : Nat} (hn : n ≤ 1099511627776) (r : List Nat) : (100 < n → (rdComps (nput n ++ r, 0)).1.2 = 3) ∧ (0 < n → r = [] → (rdComps (nput n ++ r, 0)).1.2 ≠ 0) := by
  have h1 : 100 < n → (rdComps (nput n ++ r, 0)).1.2 = 3 := fun h => by rw [rdComps, count_lim hn h]; rfl
  refine ⟨h1, fun h0 hr => ?_⟩
  subst hr
  by_cases h : 100 < n
  · rw [h1 h]; decide
  · rw [rdComps, count_ok hn (by omega)]
    simp only
    rw [many_none rdComp rdComp_none n h0]
    decide
theorem limActs {n : Nat} (hn : n ≤ 1099511627776) (r : List Nat) : (20 < n → (rdActs (nput n ++ r, 0)).1.2 = 3) ∧ (0 < n → r = [] → (rdActs (nput n ++ r, 0)).1.2 ≠ 0) := by
  have h1 : 20 < n → (rdActs (nput n ++ r, 0)).1.2 = 3 := fun h => by rw [rdActs, count_lim hn h]; rfl
  refine ⟨h1, fun h0 hr => ?_⟩
  subst hr
  by_cases h : 20 < n
  · rw [h1 h]; decide
  · rw [rdActs, count_ok hn (by omega)]
    simp only
    rw [many_none rdAct rdAct_none n h0]
    decide
theorem limNodes {n : Nat} (hn : n ≤ 1099511627776) (r : List Nat) : (100 < n → (rdNodes (nput n ++ r, 0)).1.2 = 3) ∧ (0 < n → r = [] → (rdNodes (nput n ++ r, 0)).1.2 ≠ 0) := by
  have h1 : 100 < n → (rdNodes (nput n ++ r, 0)).1.2 = 3 := fun h => by rw [rdNodes, count_lim hn h]; rfl
  refine ⟨h1, fun h0 hr => ?_⟩
  subst hr
  by_cases h : 100 < n
  · rw [h1 h]; decide
  · rw [rdNodes, count_ok hn (by omega)]
    simp only
    rw [many_none rdNode rdNode_none n h0]
    decide
theorem blk_bytes (n : Nat) : ∀ x ∈ blk n, x < 256 := fun x hx => by have := blk_lt n x hx; omega
theorem iText_blk (n : Nat) (hn : n ≤ 1048576) : iText (blk n) = (nput n ++ blk n, false) := by
  rw [iText, blk_valid, blk_length, iNum_yes (by omega)]
  simp [ink]
theorem text_lim (n most : Nat) (hn : n ≤ 1048576) : rdText most (nput n ++ blk n, 0) = if most < n then ((blk n, 3), []) else (([], 0), blk n) := by
  obtain ⟨h1, _⟩ := trip_num (iNum_yes (n := n) (by omega)) (blk n)
  rw [Int.toNat_natCast] at h1
  rw [rdText, h1]
  simp only [if_true]
  have h2 : (blk n).take n = blk n := List.take_of_length_le (by rw [blk_length]; exact Nat.le_refl _)
  have h3 : (blk n).drop n = [] := List.drop_eq_nil_of_le (by rw [blk_length]; exact Nat.le_refl _)
  rw [if_neg (by rw [h2, blk_valid, blk_length]; simp), h2, h3]
end Go.Proofs.Ytkapfijokmajlaa
