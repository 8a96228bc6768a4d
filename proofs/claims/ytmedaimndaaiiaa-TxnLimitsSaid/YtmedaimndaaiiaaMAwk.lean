/- The contract of the statements' own awake: what the document fixes. No condition. (Merged of 4 texts.) -/
import Derived.Test.YtmedaimndaaiiaaMAl
import Derived.Test.YtmedaimndaaiiaaMBase
import Derived.Deep.OwnRows
import Derived.Test.YtmedaimndaaiiaaMKit
import Derived.Test.YtmedaimndaaiiaaMTxm
import Derived.Test.YtmedaimndaaiiaaMLand
import Derived.Test.YtmedaimndaaiiaaMTTreeOwn
import Derived.Test.YtmedaimndaaiiaaMCells
/- The contract of alike.Block, of any number: a text of so many small letters. Condition: no more than 2^20 of them. (XBlock has the number 1 alone.) -/
namespace Go.Proofs.Ytmedaimndaaiiaa
open Go.RowKit Go.Deep

/-- The letters of a number. -/
def letter (n : Int) (i : Nat) : Nat := 97 + rnd (IntKind.i64.wrap (IntKind.i64.wrap (n * 7) + (i : Int))) 26
def blks (size : Nat) (n : Int) : List Nat := (List.range size).map fun i : Nat => letter n i
theorem blks_length (size : Nat) (n : Int) : (blks size n).length = size := by simp [blks]
theorem letter_lt (n : Int) (i : Nat) : letter n i < 123 ∧ 97 ≤ letter n i := by
  have := rnd_lt (IntKind.i64.wrap (IntKind.i64.wrap (n * 7) + (i : Int))) (n := 26) (by omega)
  unfold letter
  omega
theorem blks_lt (size : Nat) (n : Int) : ∀ x ∈ blks size n, x < 123 ∧ 97 ≤ x := by
  intro x hx
  obtain ⟨i, _, rfl⟩ := List.mem_map.1 hx
  exact letter_lt n i
theorem blks_at (size : Nat) (n : Int) (i : Nat) (h : i < size) : (blks size n)[i]? = some (letter n i) := by
  rw [blks, List.getElem?_map, List.getElem?_range h]
  rfl

def BlocksRel (size : Nat) (n : Int) (w : World) (q : Nat) (wr : World) : Prop :=
  wr.rowIs w.heap.size 5 size (fun j => .int .u8 ((if j < q then letter n j else 0 : Nat) : Int)) ∧ Below w.heap.size w wr
set_option maxHeartbeats 1000000 in
set_option maxRecDepth 100000 in
theorem blocks_any (size : Nat) (hs : size ≤ 1048576) (n : Int) (w : World) :
    Calls Try.prog 6 #[.int .i64 (size : Int), .int .i64 n] w fun e w' => e = .returned (.string (bstr (blks size n))) ∧ Below w.heap.size w w' := by
  have hmk := run_make_row' (P := Try.prog) 40 5 (.int .u8 0) 1 Try.underlying40 u8_info rfl .i64 .i64 size (by omega) (by omega)
  obtain ⟨M, HM⟩ : ∃ M, Hid (IntKind.i64.wrap (n * 7) = M) := ⟨_, rfl⟩
  have em := HM.out
  go_enter Try.func6, Try.ntmps6
  go_wp2
  clear hmk
  go_loopw [6] (fun i wr => ∃ q : Nat, q ≤ size ∧ i = .int .i64 q ∧ BlocksRel size n w q wr) (fun i _ => size - (intOf i).toNat)
  case atStart =>
    refine ⟨0, Nat.zero_le _, rfl, (World.rowIs_made w (.int .u8 0) size 5).congr fun j hj => ?_, (Below.refl _ _).alloc (Nat.le_refl _) _⟩
    rw [if_neg (by omega)]; rfl
  case round =>
    obtain ⟨q, hq, rfl, hrel⟩ := hrel
    have HREL := Lib.hid hrel; clear hrel
    by_cases hlt : q < size
    · obtain ⟨X, HX⟩ : ∃ X, Hid (IntKind.i64.wrap (M + (q : Int)) = X) := ⟨_, rfl⟩
      have ex := HX.out
      have GR := Lib.hid (fun w => alikeRound_any X 26 (by omega) (by omega) w)
      have hrl := rnd_lt X (n := 26) (by omega)
      obtain ⟨r, HR⟩ : ∃ r, Hid (rnd X 26 = r) := ⟨_, Lib.hid rfl⟩
      have HLT : Hid (letter n q = 97 + r) := by show letter n q = 97 + r; rw [letter, em, ex, HR.out]
      rw [HR.out] at GR hrl
      have hcell := HREL.out.1.cell hlt
      have hfr := HREL.out.1.frozen q
      go_wp2_with fail
      refine (GR.out _).mono ?_
      rintro e w' ⟨rfl, rfl⟩
      go_wp2_with fail
      go_roundw
      case rel =>
        refine ⟨q + 1, by omega, by go_num, (HREL.out.1.set q _).congr fun j hj => ?_, HREL.out.2.setCell (Nat.le_refl _) _⟩
        by_cases e : j = q
        · subst e
          rw [if_pos rfl, if_pos (by omega), HLT.out]
          congr 1
        · rw [if_neg e]
          by_cases h1 : j < q
          · rw [if_pos h1, if_pos (by omega)]
          · rw [if_neg h1, if_neg (by omega)]
      case measure => simp [intOf]; omega
    · obtain rfl : q = size := by omega
      have HAT : Hid (BytesAt wr (some ⟨w.heap.size, 0, none⟩) (blks q n)) := by
        refine .inr ⟨w.heap.size, 0, rfl, HREL.out.1.lt, fun j c hj => ?_⟩
        have hjl : j < q := by have := (List.getElem?_eq_some_iff.1 hj).1; rwa [blks_length] at this
        rw [blks_at q n j hjl] at hj
        injection hj with hj
        rw [Nat.zero_add, HREL.out.1.cell hjl, if_pos hjl, ← hj]
      have hcv := HAT.out.conv q 9 Try.underlying9
      rw [blks_length] at hcv
      clear em
      go_wp2
      go_ret
      exact ⟨rfl, HREL.out.2⟩
end Go.Proofs.Ytmedaimndaaiiaa

/- Trees made of so many files, some of them full: what the document's Do makes of them. No condition. -/
namespace Go.Proofs.Ytmedaimndaaiiaa

/-- The name of a number. -/
def nmN (i : Nat) : List Nat := 110 :: (blks 1 (i : Int) ++ blks 2 ((i / 26 : Nat) : Int))
theorem wrap_fit {x : Int} (h : 0 ≤ x ∧ x ≤ 1000000) : IntKind.i64.wrap x = x := by rw [IntKind.wrap_i64]; omega
theorem letter_of {n i : Nat} (h : n ≤ 1000 ∧ i ≤ 1000) : letter (n : Int) i = 97 + (7 * n + i) % 26 := by
  unfold letter rnd
  rw [wrap_fit (x := (n : Int) * 7) (by omega), wrap_fit (by omega)]
  omega
theorem nmN_len (i : Nat) : (nmN i).length = 4 := by simp [nmN, blks_length]
theorem nmN_inj {i k : Nat} (hi : i < 104) (hk : k < 104) (h : nmN i = nmN k) : i = k := by
  unfold nmN at h
  injection h with _ h
  have h1 := congrArg (fun l => l[0]?) h
  have h2 := congrArg (fun l => l[1]?) h
  simp only [List.getElem?_append_left (show 0 < (blks 1 (i : Int)).length by rw [blks_length]; omega), List.getElem?_append_left (show 0 < (blks 1 (k : Int)).length by rw [blks_length]; omega), blks_at 1 _ 0 (by omega)] at h1
  simp only [List.getElem?_append_right (show (blks 1 (i : Int)).length ≤ 1 by rw [blks_length]; omega), List.getElem?_append_right (show (blks 1 (k : Int)).length ≤ 1 by rw [blks_length]; omega), blks_length, Nat.sub_self, blks_at 2 _ 0 (by omega)] at h2
  injection h1 with h1
  injection h2 with h2
  rw [letter_of (by omega), letter_of (by omega)] at h1 h2
  have d1 : ∀ a : Fin 26, ∀ b : Fin 26, (7 * a.val) % 26 = (7 * b.val) % 26 → a.val = b.val := by decide
  have e1 := d1 ⟨i % 26, Nat.mod_lt _ (by omega)⟩ ⟨k % 26, Nat.mod_lt _ (by omega)⟩ (by simp only; omega)
  have e2 := d1 ⟨i / 26, by omega⟩ ⟨k / 26, by omega⟩ (by simp only; omega)
  simp only at e1 e2
  omega
theorem nmN_is (i : Nat) : IsName (nmN i) := by
  rw [isName_iff]
  have hl := nmN_len i
  refine ⟨by omega, by omega, fun e => by rw [e] at hl; simp at hl, fun e => by rw [e] at hl; simp at hl, fun x hx => ?_⟩
  rw [okByte_iff]
  unfold nmN at hx
  rcases List.mem_cons.1 hx with rfl | hx
  · omega
  · rcases List.mem_append.1 hx with hx | hx
    · have := blks_lt _ _ x hx; omega
    · have := blks_lt _ _ x hx; omega
theorem nmN_lt (i : Nat) : ∀ x ∈ nmN i, x < 256 := fun x hx => by
  have := okByte_iff.1 ((isName_iff.1 (nmN_is i)).2.2.2.2 x hx)
  omega
/-- Small letters are a text. -/
theorem V_letters {t : List Nat} (h : ∀ x ∈ t, x < 123 ∧ 97 ≤ x) : V t t := by
  refine ⟨fun v hv => by have := h v hv; unfold May; omega, ?_⟩
  have : ∀ l : List Nat, (∀ x ∈ l, x < 128) → E l = l := by
    intro l
    induction l with
    | nil => exact fun _ => E_nil
    | cons x l ih =>
      intro hh
      rw [E_cons, ih fun y hy => hh y (by simp [hy])]
      have := hh x (by simp)
      unfold enc
      rw [if_pos this]
      rfl
  exact this t fun x hx => by have := h x hx; omega
/-- An insert into nothing. -/
theorem ins_ok {t : List Nat} (h : ∀ x ∈ t, x < 123 ∧ 97 ≤ x) (h0 : t ≠ []) (hl : t.length ≤ 2000) : Ok [⟨2, 0, t⟩] := by
  have hw : Wh ⟨2, 0, t⟩ := .inr ⟨rfl, rfl, h0, t, V_letters h⟩
  refine ok_mk (by simp) (Ch.nrm ⟨hw, by show (0 : Int) ≠ 2; decide, by simp, trivial⟩) ?_ ?_
  · rw [inS_cons, inS_nil, in_two rfl]
    omega
  · rw [outS_cons, outS_nil, out_two rfl, cps_of (V_letters h)]
    omega
theorem ins_err {t : List Nat} (h : ∀ x ∈ t, x < 123 ∧ 97 ≤ x) (h0 : t ≠ []) (hl : t.length ≤ 2000) : dErr [] [⟨2, 0, t⟩] = 0 ∧ dTxt [] [⟨2, 0, t⟩] = t := by
  have hok := ins_ok h h0 hl
  have hv : V [] [] := ⟨by simp, E_nil⟩
  have hb : (([] : List Nat).length : Int) = rBase [⟨2, 0, t⟩] := by
    rw [hok.base, inS_cons, inS_nil, in_two rfl]
    rfl
  refine ⟨dErr_ok hok.check hv hb, ?_⟩
  rw [dTxt_ed hok.check hv hb, ed_two rfl, ed_nil, List.append_nil]
  show E (cps t) = t
  rw [cps_of (V_letters h), (V_letters h).bytes]
def bigN (i : Nat) : List Nat := blks 2000 (i : Int)
def ndN (e i : Nat) : NodeV := ⟨(i : Int) + 1, 0, nmN i, false, if i < e then bigN i else []⟩
/-- n files, e of them full. -/
def stN (n e : Nat) : List NodeV := (List.range n).map (ndN e)
theorem stN_len (n e : Nat) : (stN n e).length = n := by simp [stN]
theorem stN_at {n e i : Nat} (h : i < (stN n e).length) : (stN n e)[i] = ndN e i := by simp [stN]
theorem stN_succ (n e : Nat) : stN (n + 1) e = stN n e ++ [ndN e n] := by simp [stN, List.range_succ]
theorem stN_mem {n e : Nat} {y : NodeV} (h : y ∈ stN n e) : ∃ i, i < n ∧ y = ndN e i := by
  obtain ⟨i, hi, rfl⟩ := List.mem_map.1 h
  exact ⟨i, List.mem_range.1 hi, rfl⟩
theorem stN_id {n e : Nat} {y : NodeV} (h : y ∈ stN n e) : y.id ≤ (n : Int) := by
  obtain ⟨i, hi, rfl⟩ := stN_mem h
  show (i : Int) + 1 ≤ n
  omega
theorem stN_find {n e i : Nat} (h : i < n) : rFind (stN n e) ((i : Int) + 1) = some i := by
  refine rFind_yes (by rw [stN_len]; exact h) (by rw [stN_at]; rfl) fun j hj hji => ?_
  rw [stN_at]
  show (j : Int) + 1 ≠ i + 1
  omega
def crN (i : Nat) : ActV := ⟨1, (i : Int) + 1, 0, nmN i, false, none, 0, []⟩
theorem stN_free {n k : Nat} (h : n ≤ k) (hk : k < 104) : rPlace (stN n 0) 0 (nmN k) 0 = 0 := place_free fun y hy g => by
  obtain ⟨i, hi, rfl⟩ := stN_mem hy
  have := nmN_inj (by omega) hk g.2
  omega
theorem do_st {k : Nat} (hk : k < 100) : rDo (stN k 0) (crN k) = (stN (k + 1) 0, 0) := by
  rw [do_last rfl ⟨⟨by show (1 : Int) ≤ (k : Int) + 1; omega, by show (k : Int) + 1 ≤ _; omega⟩, nmN_is k⟩ (fun y hy => by have := stN_id hy; show y.id < (k : Int) + 1; omega) (stN_free (Nat.le_refl _) (by omega)) (by rw [stN_len]; omega), stN_succ]
  rfl
theorem do_st_full {k : Nat} (h : 100 ≤ k) (hk : k < 104) : rDo (stN 100 0) (crN k) = (stN 100 0, 4) :=
  do_full rfl ⟨⟨by show (1 : Int) ≤ (k : Int) + 1; omega, by show (k : Int) + 1 ≤ _; omega⟩, nmN_is k⟩ (fun y hy => by have := stN_id hy; show y.id < (k : Int) + 1; omega) (stN_free h hk) (by rw [stN_len]; omega)
theorem stN_tree : ∀ (k : Nat), k ≤ 100 → TreeM (stN k 0)
  | 0, _ => TreeM.nil
  | k + 1, h => by
    have := (stN_tree k (by omega)).does (crN k)
    rw [do_st (by omega)] at this
    exact this
theorem bigN_ok (i : Nat) : ∀ x ∈ bigN i, x < 123 ∧ 97 ≤ x := blks_lt _ _
theorem bigN_len (i : Nat) : (bigN i).length = 2000 := blks_length _ _
theorem bigN_ne (i : Nat) : bigN i ≠ [] := fun h => by have := bigN_len i; rw [h] at this; simp at this
def edN (A : Option Go.Addr) (c i : Nat) : ActV := ⟨4, (i : Int) + 1, 0, [], false, A, c, [⟨2, 0, bigN i⟩]⟩
theorem stN_set {n i : Nat} : (stN n i).set i ⟨(i : Int) + 1, 0, nmN i, false, bigN i⟩ = stN n (i + 1) := by
  refine List.ext_getElem (by simp [stN_len]) fun j h1 h2 => ?_
  rw [List.getElem_set, stN_at h2]
  by_cases e : i = j
  · rw [if_pos e, ← e]
    unfold ndN
    rw [if_pos (by omega)]
  · rw [if_neg e, stN_at]
    unfold ndN
    by_cases g : j < i
    · rw [if_pos g, if_pos (by omega)]
    · rw [if_neg g, if_neg (by omega)]
theorem cps_big (i : Nat) : (cps (bigN i)).length = 2000 := by rw [cps_of (V_letters (bigN_ok i)), bigN_len]
theorem cps_mt : (cps []).length = 0 := by rw [cps_of (vs := []) ⟨by simp, E_nil⟩]; rfl
theorem total_st : ∀ (n e : Nat), rTotal (stN n e) = 2000 * min n e
  | 0, e => by rw [show stN 0 e = [] from rfl, Nat.zero_min, total_nil]
  | n + 1, e => by
    rw [stN_succ, total_app, total_one, total_st n e, total_nil]
    show _ + ((cps (if n < e then bigN n else [])).length + 0) = _
    by_cases h : n < e
    · rw [if_pos h, cps_big]; omega
    · rw [if_neg h, cps_mt]; omega
theorem do_ed {n i : Nat} (A : Option Go.Addr) (c : Nat) (h : i < n) (h5 : i < 5) : rDo (stN n i) (edN A c i) = (stN n (i + 1), 0) := by
  have hl : i < (stN n i).length := by rw [stN_len]; exact h
  have hat : (stN n i)[i] = ⟨(i : Int) + 1, 0, nmN i, false, []⟩ := by rw [stN_at]; unfold ndN; rw [if_neg (by omega)]
  obtain ⟨g1, g2⟩ := ins_err (bigN_ok i) (bigN_ne i) (by rw [bigN_len]; omega)
  rw [rDo_e rfl hl (stN_find h)]
  simp only [hat]
  rw [if_neg (by decide), if_neg (by rw [show (edN A c i).ops = [⟨2, 0, bigN i⟩] from rfl, g1]; simp), show (edN A c i).ops = [⟨2, 0, bigN i⟩] from rfl, g2, stN_set, if_neg (by rw [total_st]; omega)]
theorem do_ed_full {n i : Nat} (A : Option Go.Addr) (c : Nat) (h : i < n) (h5 : 5 ≤ i) : rDo (stN n 5) (edN A c i) = (stN n 5, 4) := by
  have hl : i < (stN n 5).length := by rw [stN_len]; exact h
  have hat : (stN n 5)[i] = ⟨(i : Int) + 1, 0, nmN i, false, []⟩ := by rw [stN_at]; unfold ndN; rw [if_neg (by omega)]
  obtain ⟨g1, g2⟩ := ins_err (bigN_ok i) (bigN_ne i) (by rw [bigN_len]; omega)
  have ht : rTotal ((stN n 5).set i ⟨(i : Int) + 1, 0, nmN i, false, bigN i⟩) = 2000 * min n 5 + 2000 := by
    have e1 : stN n 5 = (stN n 5).take i ++ (stN n 5)[i] :: (stN n 5).drop (i + 1) := by rw [← List.drop_eq_getElem_cons hl, List.take_append_drop]
    have e2 : rTotal (stN n 5) = rTotal ((stN n 5).take i) + (0 + rTotal ((stN n 5).drop (i + 1))) := by
      conv => lhs; rw [e1]
      rw [total_app, total_one, hat, cps_mt]
    rw [List.set_eq_take_append_cons_drop, if_pos hl, total_app, total_one]
    have e3 := cps_big i
    simp only
    generalize (cps (bigN i)).length = q at e3 ⊢
    rw [total_st] at e2
    omega
  rw [rDo_e rfl hl (stN_find h)]
  simp only [hat]
  rw [if_neg (by decide), if_neg (by rw [show (edN A c i).ops = [⟨2, 0, bigN i⟩] from rfl, g1]; simp), show (edN A c i).ops = [⟨2, 0, bigN i⟩] from rfl, g2, if_pos (by rw [ht]; omega)]
theorem stN_tree_e {n : Nat} (hn : n ≤ 100) : ∀ (e : Nat), e ≤ n → e ≤ 5 → TreeM (stN n e)
  | 0, _, _ => stN_tree n hn
  | e + 1, h, h5 => by
    have := (stN_tree_e hn e (by omega) (by omega)).does (edN none 1 e)
    rw [do_ed none 1 (by omega) (by omega)] at this
    exact this
/-- The first one is taken away. -/
def m1N (n e : Nat) : List NodeV := (stN n e).drop 1
theorem do_rm {n e : Nat} (h : 0 < n) : rDo (stN n e) ⟨2, 1, 0, [], false, none, 0, []⟩ = (m1N n e, 0) := by
  rw [rDo_r3 (k := 0) rfl (stN_find (i := 0) h) fun ⟨y, hy, g⟩ => by
    obtain ⟨i, hi, rfl⟩ := stN_mem hy
    revert g
    show (0 : Int) ≠ 1
    decide]
  rfl
theorem m1N_mem {n e : Nat} {y : NodeV} (h : y ∈ m1N n e) : ∃ i, i < n ∧ y = ndN e i := stN_mem (List.mem_of_mem_drop h)
theorem m1N_len {n e : Nat} : (m1N n e).length = n - 1 := by rw [m1N, List.length_drop, stN_len]
def zN : NodeV := ⟨500, 0, [122], false, []⟩
theorem do_z {n e : Nat} (h : 0 < n) (hn : n ≤ 100) : rDo (m1N n e) ⟨1, 500, 0, [122], false, none, 0, []⟩ = (m1N n e ++ [zN], 0) := by
  refine do_last rfl ⟨⟨by decide, by decide⟩, ?_⟩ (fun y hy => ?_) (place_free fun y hy g => ?_) (by rw [m1N_len]; omega)
  · rw [isName_iff]
    refine ⟨by simp, by simp, by simp, by simp, fun x hx => ?_⟩
    rw [List.mem_singleton.1 hx, okByte_iff]
    omega
  · obtain ⟨i, hi, rfl⟩ := m1N_mem hy
    show (i : Int) + 1 < 500
    omega
  · obtain ⟨i, hi, rfl⟩ := m1N_mem hy
    have := congrArg List.length (show nmN i = [122] from g.2)
    rw [nmN_len] at this
    simp at this
theorem m1N_total {n e : Nat} (h5 : e ≤ 5) : rTotal (m1N n e) ≤ 8000 := by
  by_cases h : 0 < n
  · have e1 : stN n e = ndN e 0 :: m1N n e := by
      have hl : 0 < (stN n e).length := by rw [stN_len]; exact h
      conv => lhs; rw [← List.drop_zero (l := stN n e), List.drop_eq_getElem_cons hl, stN_at]
      rfl
    have e2 := total_st n e
    rw [e1, total_one] at e2
    by_cases g : 0 < e
    · rw [show (ndN e 0).text = bigN 0 from if_pos g, cps_big] at e2
      omega
    · omega
  · have : m1N n e = [] := List.eq_nil_of_length_eq_zero (by rw [m1N_len]; omega)
    rw [this, total_nil]
    exact Nat.zero_le _
theorem do_za {n e : Nat} (A : Option Go.Addr) (c : Nat) (h : 0 < n) (hn : n ≤ 100) (h5 : e ≤ 5) : rDo (m1N n e ++ [zN]) ⟨4, 500, 0, [], false, A, c, [⟨2, 0, [97]⟩]⟩ = (m1N n e ++ [⟨500, 0, [122], false, [97]⟩], 0) := by
  have hl : (m1N n e).length < (m1N n e ++ [zN]).length := by simp
  have hat : (m1N n e ++ [zN])[(m1N n e).length] = zN := by simp
  have hf : rFind (m1N n e ++ [zN]) 500 = some (m1N n e).length := rFind_yes hl (by rw [hat]; rfl) fun j hj hjk => by
    rw [List.getElem_append_left hjk]
    obtain ⟨i, hi, g⟩ := m1N_mem (List.getElem_mem hjk)
    rw [g]
    show (i : Int) + 1 ≠ 500
    omega
  have h97 : ∀ x ∈ [97], x < 123 ∧ 97 ≤ x := fun x hx => by rw [List.mem_singleton.1 hx]; omega
  obtain ⟨g1, g2⟩ := ins_err h97 (by simp) (by simp)
  rw [rDo_e rfl hl hf]
  simp only [hat]
  have hs : (m1N n e ++ [zN]).set (m1N n e).length ⟨500, 0, [122], false, [97]⟩ = m1N n e ++ [⟨500, 0, [122], false, [97]⟩] := by
    rw [List.set_append_right _ _ (Nat.le_refl _), Nat.sub_self]
    rfl
  have ht : ¬ 10000 < rTotal (m1N n e ++ [⟨500, 0, [122], false, [97]⟩]) := by
    have := m1N_total (n := n) h5
    rw [total_app, total_one, cps_of (V_letters h97), total_nil]
    simp only [List.length_cons, List.length_nil]
    omega
  show (if false = true then _ else if dErr [] [⟨2, 0, [97]⟩] ≠ 0 then _ else if 10000 < rTotal ((m1N n e ++ [zN]).set (m1N n e).length ⟨500, 0, [122], false, dTxt [] [⟨2, 0, [97]⟩]⟩) then _ else ((m1N n e ++ [zN]).set (m1N n e).length ⟨500, 0, [122], false, dTxt [] [⟨2, 0, [97]⟩]⟩, (0 : Int))) = _
  rw [g2, hs, if_neg (by decide), if_neg (by rw [g1]; simp), if_neg ht]
attribute [irreducible] stN m1N nmN bigN
end Go.Proofs.Ytmedaimndaaiiaa

/- What the document fixes of transactions: two acts that are done, two of which one is refused, one of no Kind. No condition. -/
namespace Go.Proofs.Ytmedaimndaaiiaa

def tA1 : ActV := ⟨1, 1, 0, [97], false, none, 0, []⟩
def tA2 (A : Option Go.Addr) : ActV := ⟨4, 1, 0, [], false, A, 1, [⟨2, 0, [120]⟩]⟩
def tA3 : ActV := ⟨2, 2, 0, [], false, none, 0, []⟩
def tA9 : ActV := ⟨9, 1, 0, [], false, none, 0, []⟩
theorem tA1_ok : ¬ ABad tA1 := by
  rintro (h | h | h | h | h | h | h | h)
  · exact absurd h (by decide)
  · exact absurd h (by decide)
  · exact h (by rw [aPlain_1 rfl]; rfl)
  · exact absurd h (by decide)
  · exact absurd h (by decide)
  · exact absurd h (by decide)
  · exact absurd h (by decide)
  · have := h.2
    rw [show tA1.name = [97] from rfl, rName_yes (name_one 97 (by omega))] at this
    cases this
theorem tA2_ok (A : Option Go.Addr) : ¬ ABad (tA2 A) := by
  rintro (h | h | h | h | h | h | h | h)
  · exact absurd h (by show ¬ (4 : Int) < 1; decide)
  · exact absurd h (by show ¬ (4 : Int) < 4; decide)
  · exact h (by rw [aPlain_4 rfl]; rfl)
  · exact absurd h (by show ¬ (1 : Int) < 1; decide)
  · exact absurd h (by show ¬ (1099511627776 : Int) < 1; decide)
  · exact absurd h (by show ¬ (0 : Int) < 0; decide)
  · exact absurd h (by show ¬ (1099511627776 : Int) < 0; decide)
  · rcases h.1 with g | g
    · exact absurd g (by show ¬ (4 : Int) = 1; decide)
    · exact absurd g (by show ¬ (4 : Int) = 3; decide)
theorem tA3_ok : ¬ ABad tA3 := by
  rintro (h | h | h | h | h | h | h | h)
  · exact absurd h (by decide)
  · exact absurd h (by decide)
  · exact h (by rw [aPlain_2 rfl]; rfl)
  · exact absurd h (by decide)
  · exact absurd h (by decide)
  · exact absurd h (by decide)
  · exact absurd h (by decide)
  · rcases h.1 with g | g
    · exact absurd g (by decide)
    · exact absurd g (by decide)
theorem ins_x : rCheck [⟨2, 0, [120]⟩] = 0 := (ins_ok (t := [120]) (fun x hx => by rw [List.mem_singleton.1 hx]; omega) (by simp) (by simp)).check
theorem insT_x : insT [⟨2, 0, [120]⟩] ≤ 1 := by
  have := insT_le [⟨2, 0, [120]⟩]
  simpa [tlen] using this
theorem chk12 (A : Option Go.Addr) : rChk [tA1, tA2 A] = 0 := by
  rw [rChk_fit (by simp), chkR_skip tA1_ok (by decide), chkR_more (tA2_ok A) rfl ins_x (by
    rintro ⟨x, hx, h, _⟩
    rw [List.nil_append, List.mem_singleton] at hx
    rw [hx] at h
    exact absurd h (by decide)), chkR_end (by have := insT_x; show ¬ 2000 < 0 + insT [⟨2, 0, [120]⟩]; omega)]
theorem chk13 : rChk [tA1, tA3] = 0 := by
  rw [rChk_fit (by simp), chkR_skip tA1_ok (by decide), chkR_skip tA3_ok (by decide), chkR_end (by omega)]
theorem chk9 : rChk [tA9] = 1 := by
  rw [rChk_fit (by simp), chkR_bad (.inr (.inl (by decide)))]
theorem tdo2 (A : Option Go.Addr) : rDo [aw13] (tA2 A) = ([(⟨1, 0, [97], false, [120]⟩ : NodeV)], 0) := by
  obtain ⟨g1, g2⟩ := ins_err (t := [120]) (fun x hx => by rw [List.mem_singleton.1 hx]; omega) (by simp) (by simp)
  rw [rDo_e (k := 0) rfl (by simp) aw13_find]
  show (if false = true then _ else if dErr [] [⟨2, 0, [120]⟩] ≠ 0 then _ else if 10000 < rTotal [(⟨1, 0, [97], false, dTxt [] [⟨2, 0, [120]⟩]⟩ : NodeV)] then _ else ([(⟨1, 0, [97], false, dTxt [] [⟨2, 0, [120]⟩]⟩ : NodeV)], (0 : Int))) = _
  rw [if_neg (by decide), if_neg (by rw [g1]; simp), g2, if_neg]
  have := cps_le [120]
  simp [rTotal] at this ⊢
  omega
theorem tdo1 : rDo [] tA1 = ([aw13], 0) := aw13_do1
theorem tdo3 : rDo [aw13] tA3 = ([aw13], 5) := rDo_r1 rfl (rFind_no fun y hy => by rw [List.mem_singleton.1 hy]; decide)
theorem do12 (A : Option Go.Addr) : doAllV [] [tA1, tA2 A] = ([⟨1, 0, [97], false, [120]⟩], 2, 0) := by
  rw [doAllV, if_neg (fun g => g (chk12 A)), doR_step tdo1, doR_step (tdo2 A)]
  rfl
theorem do13 : doAllV [] [tA1, tA3] = ([], 1, 5) := by
  rw [doAllV, if_neg (fun g => g chk13), doR_step tdo1, doR_stop tdo3 (by decide)]
  rfl
end Go.Proofs.Ytmedaimndaaiiaa

/- The contract of the statements' own awake: what the document fixes. No condition. -/
namespace Go.Proofs.Ytmedaimndaaiiaa
open Go.RowKit Go.Deep

theorem act_cells_good (a : ActV) (h1 : a.name.length ≤ 1) (h2 : ∀ x ∈ a.name, x < 256) (hk : Fit64 a.kind) (hi : Fit64 a.id) (hp : Fit64 a.parent) (ho : a.ops = [] ∧ a.opsC = 0) : ActOk a := by
  refine ⟨⟨hk, hi, hp, ⟨h2, by unfold maxLen; omega⟩, by rw [ho.1]; simp, by rw [ho.1, ho.2]; simp, by rw [ho.2]; simp⟩, by omega, by rw [ho.1]; intro y hy; simp at hy, by rw [ho.1]; simp [tlen]⟩
theorem tA1_act : ActOk tA1 := act_cells_good tA1 (by simp [tA1]) (by simp [tA1]) (by show Fit64 1; unfold Fit64; omega) (by show Fit64 1; unfold Fit64; omega) (by show Fit64 0; unfold Fit64; omega) ⟨rfl, rfl⟩
theorem tA3_act : ActOk tA3 := act_cells_good tA3 (by simp [tA3]) (by simp [tA3]) (by show Fit64 2; unfold Fit64; omega) (by show Fit64 2; unfold Fit64; omega) (by show Fit64 0; unfold Fit64; omega) ⟨rfl, rfl⟩
theorem tA9_act : ActOk tA9 := act_cells_good tA9 (by simp [tA9]) (by simp [tA9]) (by show Fit64 9; unfold Fit64; omega) (by show Fit64 1; unfold Fit64; omega) (by show Fit64 0; unfold Fit64; omega) ⟨rfl, rfl⟩
theorem tA2_act (A : Option Addr) : ActOk (tA2 A) := actOk_one (k := 4) (id := 1) (p := 0) (d := false) (A := A) (c := ⟨2, 0, [120]⟩) (by unfold Fit64; omega) (by unfold Fit64; omega) (by unfold Fit64; omega) ⟨by unfold Fit64; decide, by unfold Fit64; decide, by simp, by unfold maxLen; simp⟩ (by simp)
theorem acts_two (x : World) : ActsAt ((x.alloc (.cells #[.int .i64 2, .int .i64 0, .string { data := #[120] }] 29)).alloc (.cells #[.int .i64 1, .int .i64 1, .int .i64 0, .string { data := #[97] }, .bool false, .slice none 0 0, .int .i64 4, .int .i64 1, .int .i64 0, .string { data := #[] }, .bool false, .slice (some ⟨x.heap.size, 0, none⟩) 1 1] 26)) (some ⟨x.heap.size + 1, 0, none⟩) [tA1, tA2 (some ⟨x.heap.size, 0, none⟩)] := by
  refine ⟨CellsAt.lit (fun j v h => by rw [← Array.getElem?_toList]; exact h) (by simp), fun y hy => ?_⟩
  have hy' : y = tA1 ∨ y = tA2 (some ⟨x.heap.size, 0, none⟩) := by simpa using hy
  rcases hy' with rfl | rfl
  · exact .inl rfl
  · exact CompsAt.below (w := x.alloc (.cells #[.int .i64 2, .int .i64 0, .string { data := #[120] }] 29)) (CellsAt.lit (fun j v h => by rw [← Array.getElem?_toList]; exact h) rfl) ((Below.refl _ _).alloc (Nat.le_refl _) _)
theorem acts_plain2 (x : World) : ActsAt (x.alloc (.cells #[.int .i64 1, .int .i64 1, .int .i64 0, .string { data := #[97] }, .bool false, .slice none 0 0, .int .i64 2, .int .i64 2, .int .i64 0, .string { data := #[] }, .bool false, .slice none 0 0] 26)) (some ⟨x.heap.size, 0, none⟩) [tA1, tA3] := by
  refine ⟨CellsAt.lit (fun j v h => by rw [← Array.getElem?_toList]; exact h) rfl, fun y hy => ?_⟩
  have hy' : y = tA1 ∨ y = tA3 := by simpa using hy
  rcases hy' with rfl | rfl
  · exact .inl rfl
  · exact .inl rfl
theorem acts_nine (x : World) : ActsAt (x.alloc (.cells #[.int .i64 9, .int .i64 1, .int .i64 0, .string { data := #[] }, .bool false, .slice none 0 0] 26)) (some ⟨x.heap.size, 0, none⟩) [tA9] := by
  refine ⟨CellsAt.lit (fun j v h => by rw [← Array.getElem?_toList]; exact h) rfl, fun y hy => ?_⟩
  obtain rfl := List.mem_singleton.1 hy
  exact .inl rfl
set_option maxHeartbeats 2000000 in
set_option maxRecDepth 100000 in
theorem tawake_any (w : World) : Calls Try.prog 4 #[] w fun e w' => e = .returned (.bool true) ∧ Below w.heap.size w w' := by
  have GN := Lib.hid (fun w => new_any w)
  go_enter Try.func4, Try.ntmps4
  go_wp2_with fail
  refine (GN.out _).mono ?_
  rintro e x1 ⟨rfl, ht, hb⟩
  have HT := Lib.hid ht
  have HB := Lib.hid hb
  clear ht hb GN
  have HA1 := Lib.hid (acts_two x1)
  have GD1 : Hid (∀ y : World, TreeAt y w.heap.size [] → ActsAt y (some ⟨x1.heap.size + 1, 0, none⟩) [tA1, tA2 (some ⟨x1.heap.size, 0, none⟩)] → Calls Try.prog 9 #[.pointer (some ⟨w.heap.size, 0, none⟩), .slice (some ⟨x1.heap.size + 1, 0, none⟩) 2 2] y fun e w' => TxnRes y w' ([⟨1, 0, [97], false, [120]⟩], 2, 0) e ∧ Below y.heap.size y w') := Lib.hid (fun y h hA => by
    have := txnDo_any TreeM.nil w.heap.size (some ⟨x1.heap.size + 1, 0, none⟩) 2 [tA1, tA2 (some ⟨x1.heap.size, 0, none⟩)] (by simp [maxLen]) (by simp) (fun a ha => by
      have ha' : a = tA1 ∨ a = tA2 (some ⟨x1.heap.size, 0, none⟩) := by simpa using ha
      rcases ha' with rfl | rfl
      · exact tA1_act
      · exact tA2_act _) y h hA
    rw [do12] at this
    exact this)
  have hbl := ((Below.refl x1.heap.size x1).alloc (Nat.le_refl _) (.cells #[.int .i64 2, .int .i64 0, .string { data := #[120] }] 29)).alloc (by simp) (.cells #[.int .i64 1, .int .i64 1, .int .i64 0, .string { data := #[97] }, .bool false, .slice none 0 0, .int .i64 4, .int .i64 1, .int .i64 0, .string { data := #[] }, .bool false, .slice (some ⟨x1.heap.size, 0, none⟩) 1 1] 26)
  replace HT := Lib.hid (HT.out.below hbl)
  replace HB := Lib.hid (HB.out.trans (hbl.mono HB.out.size))
  clear hbl
  go_wp2_with fail
  refine (GD1.out _ HT.out HA1.out).mono ?_
  rintro e x2 ⟨⟨p, rfl, h0, _⟩, hb⟩
  obtain ⟨g2, rfl, hg2, ht2⟩ := h0 rfl
  have HT2 := Lib.hid ht2
  replace HT := Lib.hid (HT.out.below hb)
  replace HB := Lib.hid (HB.out.trans (hb.mono HB.out.size))
  clear h0 ht2 hb GD1 HA1 hg2
  have HA2 := Lib.hid (acts_plain2 x2)
  have GD2 : Hid (∀ y : World, TreeAt y w.heap.size [] → ActsAt y (some ⟨x2.heap.size, 0, none⟩) [tA1, tA3] → Calls Try.prog 9 #[.pointer (some ⟨w.heap.size, 0, none⟩), .slice (some ⟨x2.heap.size, 0, none⟩) 2 2] y fun e w' => TxnRes y w' ([], 1, 5) e ∧ Below y.heap.size y w') := Lib.hid (fun y h hA => by
    have := txnDo_any TreeM.nil w.heap.size (some ⟨x2.heap.size, 0, none⟩) 2 [tA1, tA3] (by simp [maxLen]) (by simp) (fun a ha => by
      have ha' : a = tA1 ∨ a = tA3 := by simpa using ha
      rcases ha' with rfl | rfl
      · exact tA1_act
      · exact tA3_act) y h hA
    rw [do13] at this
    exact this)
  have hbl := (Below.refl x2.heap.size x2).alloc (Nat.le_refl _) (.cells #[.int .i64 1, .int .i64 1, .int .i64 0, .string { data := #[97] }, .bool false, .slice none 0 0, .int .i64 2, .int .i64 2, .int .i64 0, .string { data := #[] }, .bool false, .slice none 0 0] 26)
  replace HT := Lib.hid (HT.out.below hbl)
  replace HT2 := Lib.hid (HT2.out.below hbl)
  replace HB := Lib.hid (HB.out.trans (hbl.mono HB.out.size))
  clear hbl
  go_wp2_with fail
  refine (GD2.out _ HT.out HA2.out).mono ?_
  rintro e x3 ⟨⟨p, rfl, _, h0⟩, hb⟩
  obtain rfl := h0 (by decide)
  replace HT := Lib.hid (HT.out.below hb)
  replace HT2 := Lib.hid (HT2.out.below hb)
  replace HB := Lib.hid (HB.out.trans (hb.mono HB.out.size))
  clear h0 hb GD2 HA2
  have GS1 := Lib.hid (fun w h => nodes_any (some ⟨g2, 0, none⟩) [(⟨1, 0, [97], false, [120]⟩ : NodeV)] (by simp) (fun y hy => by rw [List.mem_singleton.1 hy]; exact ⟨by simp, by simp⟩) w h)
  have GS2 := Lib.hid (fun w' h => nodes_any (some ⟨w.heap.size, 0, none⟩) [] (by simp) (fun y hy => by simp at hy) w' h)
  go_wp2_with fail
  refine (GS1.out _ HT2.out.ptr).mono ?_
  rintro e x4 ⟨A4, c4, rfl, _, hb⟩
  replace HT := Lib.hid (HT.out.below hb)
  replace HB := Lib.hid (HB.out.trans (hb.mono HB.out.size))
  clear hb GS1 HT2
  go_wp2_with fail
  refine (GS2.out _ HT.out.ptr).mono ?_
  rintro e x5 ⟨A5, c5, rfl, _, hb⟩
  replace HB := Lib.hid (HB.out.trans (hb.mono HB.out.size))
  clear hb GS2 HT
  have HA3 := Lib.hid (acts_nine x5)
  have GK : Hid (∀ y : World, ActsAt y (some ⟨x5.heap.size, 0, none⟩) [tA9] → Calls Try.prog 7 #[.slice (some ⟨x5.heap.size, 0, none⟩) 1 1] y fun e w' => e = .returned (.int .i64 1) ∧ Below y.heap.size y w') := Lib.hid (fun y hA => by
    have := txnCheck_any (some ⟨x5.heap.size, 0, none⟩) 1 [tA9] (by simp [maxLen]) (by simp) (fun a ha => by rw [List.mem_singleton.1 ha]; exact tA9_act) y hA
    rw [chk9] at this
    exact this)
  have hbl := (Below.refl x5.heap.size x5).alloc (Nat.le_refl _) (.cells #[.int .i64 9, .int .i64 1, .int .i64 0, .string { data := #[] }, .bool false, .slice none 0 0] 26)
  replace HB := Lib.hid (HB.out.trans (hbl.mono HB.out.size))
  clear hbl
  go_wp2_with fail
  refine (GK.out _ HA3.out).mono ?_
  rintro e x6 ⟨rfl, hb⟩
  replace HB := Lib.hid (HB.out.trans (hb.mono HB.out.size))
  clear hb
  go_wp2
  go_ret
  exact ⟨rfl, HB.out⟩
end Go.Proofs.Ytmedaimndaaiiaa
