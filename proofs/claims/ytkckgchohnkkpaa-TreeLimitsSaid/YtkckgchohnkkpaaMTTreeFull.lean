/- Trees made of so many files, some of them full: what the document's Do makes of them. No condition. -/
import Derived.Test.YtkckgchohnkkpaaMTTreeKit
import Derived.Test.YtkckgchohnkkpaaMTBlocks
/- Trees made of so many files, some of them full: what the document's Do makes of them. No condition. -/
namespace Go.Proofs.Ytkckgchohnkkpaa

/-- The name of a number. -/
def nmN (i : Nat) : List Nat := 110 :: (blks 1 (i : Int) ++ blks 2 ((i / 26 : Nat) : Int))
theorem wrap_fit {x : Int} (h : 0 ≤ x ∧ x ≤ 1000000) : IntKind.i64.wrap x = x := by rw [IntKind.wrap_i64]; omega
theorem letter_of {n i : Nat} (h : n ≤ 1000 ∧ i ≤ 1000) : letter (n : Int) i = 97 + (7 * n + i) % 26 := by
  unfold letter rnd
  rw [wrap_fit (x := (n : Int) * 7) (by omega), wrap_fit (by omega)]
  omega
theorem nmN_len (i : Nat) : (nmN i).length = 4 := by simp [nmN, blks_length]
theorem nmN_inj {i k : Nat} (hi : i < 104) (hk : k < 104) (h : nmN i = nmN k) : i = k := by
  unfold nmN at h
  injection h with _ h
  have h1 := congrArg (fun l => l[0]?) h
  have h2 := congrArg (fun l => l[1]?) h
  simp only [List.getElem?_append_left (show 0 < (blks 1 (i : Int)).length by rw [blks_length]; omega), List.getElem?_append_left (show 0 < (blks 1 (k : Int)).length by rw [blks_length]; omega), blks_at 1 _ 0 (by omega)] at h1
  simp only [List.getElem?_append_right (show (blks 1 (i : Int)).length ≤ 1 by rw [blks_length]; omega), List.getElem?_append_right (show (blks 1 (k : Int)).length ≤ 1 by rw [blks_length]; omega), blks_length, Nat.sub_self, blks_at 2 _ 0 (by omega)] at h2
  injection h1 with h1
  injection h2 with h2
  rw [letter_of (by omega), letter_of (by omega)] at h1 h2
  have d1 : ∀ a : Fin 26, ∀ b : Fin 26, (7 * a.val) % 26 = (7 * b.val) % 26 → a.val = b.val := by decide
  have e1 := d1 ⟨i % 26, Nat.mod_lt _ (by omega)⟩ ⟨k % 26, Nat.mod_lt _ (by omega)⟩ (by simp only; omega)
  have e2 := d1 ⟨i / 26, by omega⟩ ⟨k / 26, by omega⟩ (by simp only; omega)
  simp only at e1 e2
  omega
theorem nmN_is (i : Nat) : IsName (nmN i) := by
  rw [isName_iff]
  have hl := nmN_len i
  refine ⟨by omega, by omega, fun e => by rw [e] at hl; simp at hl, fun e => by rw [e] at hl; simp at hl, fun x hx => ?_⟩
  rw [okByte_iff]
  unfold nmN at hx
  rcases List.mem_cons.1 hx with rfl | hx
  · omega
  · rcases List.mem_append.1 hx with hx | hx
    · have := blks_lt _ _ x hx; omega
    · have := blks_lt _ _ x hx; omega
theorem nmN_lt (i : Nat) : ∀ x ∈ nmN i, x < 256 := fun x hx => by
  have := okByte_iff.1 ((isName_iff.1 (nmN_is i)).2.2.2.2 x hx)
  omega
/-- Small letters are a text. -/
theorem V_letters {t : List Nat} (h : ∀ x ∈ t, x < 123 ∧ 97 ≤ x) : V t t := by
  refine ⟨fun v hv => by have := h v hv; unfold May; omega, ?_⟩
  have : ∀ l : List Nat, (∀ x ∈ l, x < 128) → E l = l := by
    intro l
    induction l with
    | nil => exact fun _ => E_nil
    | cons x l ih =>
      intro hh
      rw [E_cons, ih fun y hy => hh y (by simp [hy])]
      have := hh x (by simp)
      unfold enc
      rw [if_pos this]
      rfl
  exact this t fun x hx => by have := h x hx; omega
/-- An insert into nothing. -/
theorem ins_ok {t : List Nat} (h : ∀ x ∈ t, x < 123 ∧ 97 ≤ x) (h0 : t ≠ []) (hl : t.length ≤ 2000) : Ok [⟨2, 0, t⟩] := by
  have hw : Wh ⟨2, 0, t⟩ := .inr ⟨rfl, rfl, h0, t, V_letters h⟩
  refine ok_mk (by simp) (Ch.nrm ⟨hw, by show (0 : Int) ≠ 2; decide, by simp, trivial⟩) ?_ ?_
  · rw [inS_cons, inS_nil, in_two rfl]
    omega
  · rw [outS_cons, outS_nil, out_two rfl, cps_of (V_letters h)]
    omega
theorem ins_err {t : List Nat} (h : ∀ x ∈ t, x < 123 ∧ 97 ≤ x) (h0 : t ≠ []) (hl : t.length ≤ 2000) : dErr [] [⟨2, 0, t⟩] = 0 ∧ dTxt [] [⟨2, 0, t⟩] = t := by
  have hok := ins_ok h h0 hl
  have hv : V [] [] := ⟨by simp, E_nil⟩
  have hb : (([] : List Nat).length : Int) = rBase [⟨2, 0, t⟩] := by
    rw [hok.base, inS_cons, inS_nil, in_two rfl]
    rfl
  refine ⟨dErr_ok hok.check hv hb, ?_⟩
  rw [dTxt_ed hok.check hv hb, ed_two rfl, ed_nil, List.append_nil]
  show E (cps t) = t
  rw [cps_of (V_letters h), (V_letters h).bytes]
def bigN (i : Nat) : List Nat := blks 2000 (i : Int)
def ndN (e i : Nat) : NodeV := ⟨(i : Int) + 1, 0, nmN i, false, if i < e then bigN i else []⟩
/-- n files, e of them full. -/
def stN (n e : Nat) : List NodeV := (List.range n).map (ndN e)
theorem stN_len (n e : Nat) : (stN n e).length = n := by simp [stN]
theorem stN_at {n e i : Nat} (h : i < (stN n e).length) : (stN n e)[i] = ndN e i := by simp [stN]
theorem stN_succ (n e : Nat) : stN (n + 1) e = stN n e ++ [ndN e n] := by simp [stN, List.range_succ]
theorem stN_mem {n e : Nat} {y : NodeV} (h : y ∈ stN n e) : ∃ i, i < n ∧ y = ndN e i := by
  obtain ⟨i, hi, rfl⟩ := List.mem_map.1 h
  exact ⟨i, List.mem_range.1 hi, rfl⟩
theorem stN_id {n e : Nat} {y : NodeV} (h : y ∈ stN n e) : y.id ≤ (n : Int) := by
  obtain ⟨i, hi, rfl⟩ := stN_mem h
  show (i : Int) + 1 ≤ n
  omega
theorem stN_find {n e i : Nat} (h : i < n) : rFind (stN n e) ((i : Int) + 1) = some i := by
  refine rFind_yes (by rw [stN_len]; exact h) (by rw [stN_at]; rfl) fun j hj hji => ?_
  rw [stN_at]
  show (j : Int) + 1 ≠ i + 1
  omega
def crN (i : Nat) : ActV := ⟨1, (i : Int) + 1, 0, nmN i, false, none, 0, []⟩
theorem stN_free {n k : Nat} (h : n ≤ k) (hk : k < 104) : rPlace (stN n 0) 0 (nmN k) 0 = 0 := place_free fun y hy g => by
  obtain ⟨i, hi, rfl⟩ := stN_mem hy
  have := nmN_inj (by omega) hk g.2
  omega
theorem do_st {k : Nat} (hk : k < 100) : rDo (stN k 0) (crN k) = (stN (k + 1) 0, 0) := by
  rw [do_last rfl ⟨⟨by show (1 : Int) ≤ (k : Int) + 1; omega, by show (k : Int) + 1 ≤ _; omega⟩, nmN_is k⟩ (fun y hy => by have := stN_id hy; show y.id < (k : Int) + 1; omega) (stN_free (Nat.le_refl _) (by omega)) (by rw [stN_len]; omega), stN_succ]
  rfl
theorem do_st_full {k : Nat} (h : 100 ≤ k) (hk : k < 104) : rDo (stN 100 0) (crN k) = (stN 100 0, 4) :=
  do_full rfl ⟨⟨by show (1 : Int) ≤ (k : Int) + 1; omega, by show (k : Int) + 1 ≤ _; omega⟩, nmN_is k⟩ (fun y hy => by have := stN_id hy; show y.id < (k : Int) + 1; omega) (stN_free h hk) (by rw [stN_len]; omega)
theorem stN_tree : ∀ (k : Nat), k ≤ 100 → TreeM (stN k 0)
  | 0, _ => TreeM.nil
  | k + 1, h => by
    have := (stN_tree k (by omega)).does (crN k)
    rw [do_st (by omega)] at this
    exact this
theorem bigN_ok (i : Nat) : ∀ x ∈ bigN i, x < 123 ∧ 97 ≤ x := blks_lt _ _
theorem bigN_len (i : Nat) : (bigN i).length = 2000 := blks_length _ _
theorem bigN_ne (i : Nat) : bigN i ≠ [] := fun h => by have := bigN_len i; rw [h] at this; simp at this
def edN (A : Option Go.Addr) (c i : Nat) : ActV := ⟨4, (i : Int) + 1, 0, [], false, A, c, [⟨2, 0, bigN i⟩]⟩
theorem stN_set {n i : Nat} : (stN n i).set i ⟨(i : Int) + 1, 0, nmN i, false, bigN i⟩ = stN n (i + 1) := by
  refine List.ext_getElem (by simp [stN_len]) fun j h1 h2 => ?_
  rw [List.getElem_set, stN_at h2]
  by_cases e : i = j
  · rw [if_pos e, ← e]
    unfold ndN
    rw [if_pos (by omega)]
  · rw [if_neg e, stN_at]
    unfold ndN
    by_cases g : j < i
    · rw [if_pos g, if_pos (by omega)]
    · rw [if_neg g, if_neg (by omega)]
theorem cps_big (i : Nat) : (cps (bigN i)).length = 2000 := by rw [cps_of (V_letters (bigN_ok i)), bigN_len]
theorem cps_mt : (cps []).length = 0 := by rw [cps_of (vs := []) ⟨by simp, E_nil⟩]; rfl
theorem total_st : ∀ (n e : Nat), rTotal (stN n e) = 2000 * min n e
  | 0, e => by rw [show stN 0 e = [] from rfl, Nat.zero_min, total_nil]
  | n + 1, e => by
    rw [stN_succ, total_app, total_one, total_st n e, total_nil]
    show _ + ((cps (if n < e then bigN n else [])).length + 0) = _
    by_cases h : n < e
    · rw [if_pos h, cps_big]; omega
    · rw [if_neg h, cps_mt]; omega
theorem do_ed {n i : Nat} (A : Option Go.Addr) (c : Nat) (h : i < n) (h5 : i < 5) : rDo (stN n i) (edN A c i) = (stN n (i + 1), 0) := by
  have hl : i < (stN n i).length := by rw [stN_len]; exact h
  have hat : (stN n i)[i] = ⟨(i : Int) + 1, 0, nmN i, false, []⟩ := by rw [stN_at]; unfold ndN; rw [if_neg (by omega)]
  obtain ⟨g1, g2⟩ := ins_err (bigN_ok i) (bigN_ne i) (by rw [bigN_len]; omega)
  rw [rDo_e rfl hl (stN_find h)]
  simp only [hat]
  rw [if_neg (by decide), if_neg (by rw [show (edN A c i).ops = [⟨2, 0, bigN i⟩] from rfl, g1]; simp), show (edN A c i).ops = [⟨2, 0, bigN i⟩] from rfl, g2, stN_set, if_neg (by rw [total_st]; omega)]
theorem do_ed_full {n i : Nat} (A : Option Go.Addr) (c : Nat) (h : i < n) (h5 : 5 ≤ i) : rDo (stN n 5) (edN A c i) = (stN n 5, 4) := by
  have hl : i < (stN n 5).length := by rw [stN_len]; exact h
  have hat : (stN n 5)[i] = ⟨(i : Int) + 1, 0, nmN i, false, []⟩ := by rw [stN_at]; unfold ndN; rw [if_neg (by omega)]
  obtain ⟨g1, g2⟩ := ins_err (bigN_ok i) (bigN_ne i) (by rw [bigN_len]; omega)
  have ht : rTotal ((stN n 5).set i ⟨(i : Int) + 1, 0, nmN i, false, bigN i⟩) = 2000 * min n 5 + 2000 := by
    have e1 : stN n 5 = (stN n 5).take i ++ (stN n 5)[i] :: (stN n 5).drop (i + 1) := by rw [← List.drop_eq_getElem_cons hl, List.take_append_drop]
    have e2 : rTotal (stN n 5) = rTotal ((stN n 5).take i) + (0 + rTotal ((stN n 5).drop (i + 1))) := by
      conv => lhs; rw [e1]
      rw [total_app, total_one, hat, cps_mt]
    rw [List.set_eq_take_append_cons_drop, if_pos hl, total_app, total_one]
    have e3 := cps_big i
    simp only
    generalize (cps (bigN i)).length = q at e3 ⊢
    rw [total_st] at e2
    omega
  rw [rDo_e rfl hl (stN_find h)]
  simp only [hat]
  rw [if_neg (by decide), if_neg (by rw [show (edN A c i).ops = [⟨2, 0, bigN i⟩] from rfl, g1]; simp), show (edN A c i).ops = [⟨2, 0, bigN i⟩] from rfl, g2, if_pos (by rw [ht]; omega)]
theorem stN_tree_e {n : Nat} (hn : n ≤ 100) : ∀ (e : Nat), e ≤ n → e ≤ 5 → TreeM (stN n e)
  | 0, _, _ => stN_tree n hn
  | e + 1, h, h5 => by
    have := (stN_tree_e hn e (by omega) (by omega)).does (edN none 1 e)
    rw [do_ed none 1 (by omega) (by omega)] at this
    exact this
/-- The first one is taken away. -/
def m1N (n e : Nat) : List NodeV := (stN n e).drop 1
theorem do_rm {n e : Nat} (h : 0 < n) : rDo (stN n e) ⟨2, 1, 0, [], false, none, 0, []⟩ = (m1N n e, 0) := by
  rw [rDo_r3 (k := 0) rfl (stN_find (i := 0) h) fun ⟨y, hy, g⟩ => by
    obtain ⟨i, hi, rfl⟩ := stN_mem hy
    revert g
    show (0 : Int) ≠ 1
    decide]
  rfl
theorem m1N_mem {n e : Nat} {y : NodeV} (h : y ∈ m1N n e) : ∃ i, i < n ∧ y = ndN e i := stN_mem (List.mem_of_mem_drop h)
theorem m1N_len {n e : Nat} : (m1N n e).length = n - 1 := by rw [m1N, List.length_drop, stN_len]
def zN : NodeV := ⟨500, 0, [122], false, []⟩
theorem do_z {n e : Nat} (h : 0 < n) (hn : n ≤ 100) : rDo (m1N n e) ⟨1, 500, 0, [122], false, none, 0, []⟩ = (m1N n e ++ [zN], 0) := by
  refine do_last rfl ⟨⟨by decide, by decide⟩, ?_⟩ (fun y hy => ?_) (place_free fun y hy g => ?_) (by rw [m1N_len]; omega)
  · rw [isName_iff]
    refine ⟨by simp, by simp, by simp, by simp, fun x hx => ?_⟩
    rw [List.mem_singleton.1 hx, okByte_iff]
    omega
  · obtain ⟨i, hi, rfl⟩ := m1N_mem hy
    show (i : Int) + 1 < 500
    omega
  · obtain ⟨i, hi, rfl⟩ := m1N_mem hy
    have := congrArg List.length (show nmN i = [122] from g.2)
    rw [nmN_len] at this
    simp at this
theorem m1N_total {n e : Nat} (h5 : e ≤ 5) : rTotal (m1N n e) ≤ 8000 := by
  by_cases h : 0 < n
  · have e1 : stN n e = ndN e 0 :: m1N n e := by
      have hl : 0 < (stN n e).length := by rw [stN_len]; exact h
      conv => lhs; rw [← List.drop_zero (l := stN n e), List.drop_eq_getElem_cons hl, stN_at]
      rfl
    have e2 := total_st n e
    rw [e1, total_one] at e2
    by_cases g : 0 < e
    · rw [show (ndN e 0).text = bigN 0 from if_pos g, cps_big] at e2
      omega
    · omega
  · have : m1N n e = [] := List.eq_nil_of_length_eq_zero (by rw [m1N_len]; omega)
    rw [this, total_nil]
    exact Nat.zero_le _
theorem do_za {n e : Nat} (A : Option Go.Addr) (c : Nat) (h : 0 < n) (hn : n ≤ 100) (h5 : e ≤ 5) : rDo (m1N n e ++ [zN]) ⟨4, 500, 0, [], false, A, c, [⟨2, 0, [97]⟩]⟩ = (m1N n e ++ [⟨500, 0, [122], false, [97]⟩], 0) := by
  have hl : (m1N n e).length < (m1N n e ++ [zN]).length := by simp
  have hat : (m1N n e ++ [zN])[(m1N n e).length] = zN := by simp
  have hf : rFind (m1N n e ++ [zN]) 500 = some (m1N n e).length := rFind_yes hl (by rw [hat]; rfl) fun j hj hjk => by
    rw [List.getElem_append_left hjk]
    obtain ⟨i, hi, g⟩ := m1N_mem (List.getElem_mem hjk)
    rw [g]
    show (i : Int) + 1 ≠ 500
    omega
  have h97 : ∀ x ∈ [97], x < 123 ∧ 97 ≤ x := fun x hx => by rw [List.mem_singleton.1 hx]; omega
  obtain ⟨g1, g2⟩ := ins_err h97 (by simp) (by simp)
  rw [rDo_e rfl hl hf]
  simp only [hat]
  have hs : (m1N n e ++ [zN]).set (m1N n e).length ⟨500, 0, [122], false, [97]⟩ = m1N n e ++ [⟨500, 0, [122], false, [97]⟩] := by
    rw [List.set_append_right _ _ (Nat.le_refl _), Nat.sub_self]
    rfl
  have ht : ¬ 10000 < rTotal (m1N n e ++ [⟨500, 0, [122], false, [97]⟩]) := by
    have := m1N_total (n := n) h5
    rw [total_app, total_one, cps_of (V_letters h97), total_nil]
    simp only [List.length_cons, List.length_nil]
    omega
  show (if false = true then _ else if dErr [] [⟨2, 0, [97]⟩] ≠ 0 then _ else if 10000 < rTotal ((m1N n e ++ [zN]).set (m1N n e).length ⟨500, 0, [122], false, dTxt [] [⟨2, 0, [97]⟩]⟩) then _ else ((m1N n e ++ [zN]).set (m1N n e).length ⟨500, 0, [122], false, dTxt [] [⟨2, 0, [97]⟩]⟩, (0 : Int))) = _
  rw [g2, hs, if_neg (by decide), if_neg (by rw [g1]; simp), if_neg ht]
attribute [irreducible] stN m1N nmN bigN
end Go.Proofs.Ytkckgchohnkkpaa
