/- The landed tree: what is a name, a number, a tree that is empty; how many code points nodes have; whether their IDs rise; whether a node may have its text. Conditions: no more than 2^20 nodes, texts of at most 2^40 bytes. -/
import Derived.Test.YtmedaimndaaiiaaMFi
import Derived.Test.YtmedaimndaaiiaaMNd
import Derived.Test.YtmedaimndaaiiaaMTConv
import Derived.Test.YtmedaimndaaiiaaMUw
import Derived.Test.YtmedaimndaaiiaaMAw
import Derived.Test.YtmedaimndaaiiaaShelf
/- The landed tree: what is a name, a number, a tree that is empty; how many code points nodes have; whether their IDs rise; whether a node may have its text. Conditions: no more than 2^20 nodes, texts of at most 2^40 bytes. -/
namespace Go.Proofs.Ytmedaimndaaiiaa
open Go.RowKit Go.Deep

set_option maxRecDepth 100000 in
theorem letter_any (c : Nat) (w : World) :
    Calls Try.prog 35 #[.int .u8 (c : Int)] w fun e w' => e = .returned (.bool (decide (okByte c))) ∧ w = w' := by
  by_cases h : okByte c
  · rw [decide_eq_true h]
    rw [okByte_iff] at h
    rcases h with ⟨q1, q2⟩ | ⟨q1, q2⟩ | rfl | rfl | rfl
    · have r1 : (97 : Int) ≤ (c : Int) := by omega
      have r2 : (c : Int) ≤ 122 := by omega
      go_enter Try.func35, Try.ntmps35
      go_wp2
      go_ret
      exact ⟨rfl, rfl⟩
    · have r0 : ¬ 97 ≤ c := by omega
      have r1 : 48 ≤ c := by omega
      have r2 : c ≤ 57 := by omega
      go_enter Try.func35, Try.ntmps35
      go_wp2
      go_ret
      exact ⟨rfl, rfl⟩
    · go_enter Try.func35, Try.ntmps35
      go_wp2
      go_ret
      exact ⟨rfl, rfl⟩
    · go_enter Try.func35, Try.ntmps35
      go_wp2
      go_ret
      exact ⟨rfl, rfl⟩
    · go_enter Try.func35, Try.ntmps35
      go_wp2
      go_ret
      exact ⟨rfl, rfl⟩
  · rw [decide_eq_false h]
    rw [okByte_iff] at h
    have e1 : ((c : Int) == 46) = false := beq_eq_false_iff_ne.2 (by omega)
    have e2 : ((c : Int) == 45) = false := beq_eq_false_iff_ne.2 (by omega)
    have e3 : ((c : Int) == 95) = false := beq_eq_false_iff_ne.2 (by omega)
    by_cases h1 : 97 ≤ c
    · have h2 : decide ((c : Int) ≤ 122) = false := decide_eq_false (by omega)
      have h3 : 48 ≤ c := by omega
      have h4 : decide ((c : Int) ≤ 57) = false := decide_eq_false (by omega)
      clear h
      go_enter Try.func35, Try.ntmps35
      go_wp2
      go_ret
      exact ⟨rfl, rfl⟩
    · by_cases h3 : 48 ≤ c
      · have h4 : decide ((c : Int) ≤ 57) = false := decide_eq_false (by omega)
        clear h
        go_enter Try.func35, Try.ntmps35
        go_wp2
        go_ret
        exact ⟨rfl, rfl⟩
      · clear h
        go_enter Try.func35, Try.ntmps35
        go_wp2
        go_ret
        exact ⟨rfl, rfl⟩

instance (id : Int) : Decidable (IdOk id) := by unfold IdOk; infer_instance
set_option maxRecDepth 100000 in
theorem number_any (id : Int) (w : World) :
    Calls Try.prog 40 #[.int .i64 id] w fun e w' => e = .returned (.bool (decide (IdOk id))) ∧ w = w' := by
  by_cases h1 : 1 ≤ id
  · by_cases h2 : id ≤ 1099511627776
    · rw [decide_eq_true (show IdOk id from ⟨h1, h2⟩)]
      go_enter Try.func40, Try.ntmps40
      go_wp2
      go_ret
      exact ⟨rfl, rfl⟩
    · rw [decide_eq_false (show ¬ IdOk id from fun h => h2 h.2)]
      go_enter Try.func40, Try.ntmps40
      go_wp2
      go_ret
      exact ⟨rfl, rfl⟩
  · rw [decide_eq_false (show ¬ IdOk id from fun h => h1 h.1)]
    go_enter Try.func40, Try.ntmps40
    go_wp2
    go_ret
    exact ⟨rfl, rfl⟩

set_option maxHeartbeats 2000000 in
set_option maxRecDepth 100000 in
theorem name_any (s : List Nat) (hb : ∀ x ∈ s, x < 256) (hl : s.length ≤ maxLen) (w : World) :
    Calls Try.prog 23 #[.string (bstr s)] w fun e w' => e = .returned (.bool (rName s)) ∧ Below w.heap.size w w' := by
  have hsz := bstr_size s
  unfold maxLen at hl
  have HBB := Lib.hid hb
  have GC := Lib.hid (fun w => conv_str s hb w)
  have GL := Lib.hid (fun c w => letter_any c w)
  obtain ⟨T, HT⟩ : ∃ T, Hid (rName s = T) := ⟨_, Lib.hid rfl⟩
  have HNO : Hid (¬ IsName s → T = false) := fun h => by rw [← HT.out]; exact rName_no h
  have HYES : Hid (IsName s → T = true) := fun h => by rw [← HT.out]; exact rName_yes h
  rw [HT.out]
  clear HT
  by_cases h0 : s.length = 0
  · have HF : Hid (T = false) := HNO.out fun h => by rw [isName_iff] at h; omega
    rw [h0] at hsz
    clear hb
    go_enter Try.func23, Try.ntmps23
    go_wp2
    go_ret
    exact ⟨by rw [HF.out]; rfl, Below.refl _ _⟩
  by_cases h20 : 20 < s.length
  · have HF : Hid (T = false) := HNO.out fun h => by rw [isName_iff] at h; omega
    clear hb
    go_enter Try.func23, Try.ntmps23
    go_wp2
    go_ret
    exact ⟨by rw [HF.out]; rfl, Below.refl _ _⟩
  have e1 := bstr_list_eq hb (t := [46]) (by simp)
  have e2 := bstr_list_eq hb (t := [46, 46]) (by simp)
  rw [show (bstr [46]).toList = [46] by show ByteArray.toList { data := #[46] } = [46]; first | (decide +kernel) | simp | simp [go_sem]] at e1
  rw [show (bstr [46, 46]).toList = [46, 46] by show ByteArray.toList { data := #[46, 46] } = [46, 46]; first | (decide +kernel) | simp | simp [go_sem]] at e2
  have g0 : ¬ (s.length : Int) < 1 := by omega
  have g20 : ¬ (20 : Int) < (s.length : Int) := by omega
  by_cases d1 : s = [46]
  · have HF : Hid (T = false) := HNO.out fun h => by rw [isName_iff] at h; exact h.2.2.1 d1
    rw [decide_eq_true d1] at e1
    clear hb e2 d1
    go_enter Try.func23, Try.ntmps23
    go_wp2
    go_ret
    exact ⟨by rw [HF.out]; rfl, Below.refl _ _⟩
  rw [decide_eq_false d1] at e1
  by_cases d2 : s = [46, 46]
  · have HF : Hid (T = false) := HNO.out fun h => by rw [isName_iff] at h; exact h.2.2.2.1 d2
    rw [decide_eq_true d2] at e2
    clear hb d1 d2
    go_enter Try.func23, Try.ntmps23
    go_wp2
    go_ret
    exact ⟨by rw [HF.out]; rfl, Below.refl _ _⟩
  rw [decide_eq_false d2] at e2
  have HD : Hid (s ≠ [46] ∧ s ≠ [46, 46]) := ⟨d1, d2⟩
  have h20' : s.length ≤ 20 := by omega
  have h1' : 1 ≤ s.length := by omega
  clear hb d1 d2 h20 h0
  obtain ⟨cap, wc, hcv, hat, hbc⟩ := GC.out w
  have HAT := Lib.hid hat
  have HBC := Lib.hid hbc
  clear hat hbc
  go_enter Try.func23, Try.ntmps23
  go_wp2
  go_loopw [2, 4, 24] (fun r s4 i wr => ∃ k : Nat, k ≤ s.length ∧ r = .bool false ∧ s4 = s4 ∧ i = .int .i64 (k : Int) ∧ wr = wc ∧ Hid (∀ (j x : Nat), j < k → s[j]? = some x → okByte x)) (fun _ _ i _ => s.length - (intOf i).toNat)
  case atStart => exact ⟨0, Nat.zero_le _, rfl, rfl, rfl, rfl, Lib.hid (fun j x h => by omega)⟩
  case round =>
    obtain ⟨k, hk, rfl, _, rfl, rfl, HOK⟩ := hrel
    by_cases hlt : k < s.length
    · have hltI : (k : Int) < (s.length : Int) := by omega
      have hby := HAT.out.cell hlt
      rw [Nat.zero_add] at hby
      have hx : s[k]? = some s[k] := List.getElem?_eq_getElem hlt
      have GK := Lib.hid (GL.out s[k] wr)
      generalize s[k] = c at hby hx GK
      have HX := Lib.hid hx
      clear hx
      by_cases hok : okByte c
      · have HOK2 : Hid (∀ (j x : Nat), j < k + 1 → s[j]? = some x → okByte x) := by
          intro j x hj hjx
          rcases Nat.lt_or_ge j k with g | g
          · exact HOK.out j x g hjx
          · obtain rfl : j = k := by omega
            rw [HX.out] at hjx
            obtain rfl := Option.some.inj hjx
            exact hok
        rw [decide_eq_true hok] at GK
        clear hok
        go_wp2_with fail
        refine (GK.out).mono ?_
        rintro e w' ⟨rfl, rfl⟩
        go_wp2
        go_roundw
        case rel => exact ⟨k + 1, by omega, rfl, trivial, by go_num, trivial, HOK2⟩
        case measure => simp [intOf]; omega
      · have HF : Hid (T = false) := HNO.out fun h => by
          rw [isName_iff] at h
          exact hok (h.2.2.2.2 c (List.mem_of_getElem? HX.out))
        rw [decide_eq_false hok] at GK
        clear hok
        go_wp2_with fail
        refine (GK.out).mono ?_
        rintro e w' ⟨rfl, rfl⟩
        go_wp2
        go_ret
        exact ⟨by rw [HF.out]; rfl, HBC.out⟩
    · have HF : Hid (T = true) := HYES.out (by
        rw [isName_iff]
        refine ⟨h1', h20', HD.out.1, HD.out.2, fun x hx => ?_⟩
        obtain ⟨j, hj⟩ := List.getElem?_of_mem hx
        exact HOK.out j x (by have := (List.getElem?_eq_some_iff.1 hj).1; omega) hj)
      have hltI : ¬ (k : Int) < (s.length : Int) := by omega
      go_wp2
      go_ret
      exact ⟨by rw [HF.out]; rfl, HBC.out⟩

set_option maxRecDepth 100000 in
theorem new_any (w : World) :
    Calls Try.prog 8 #[] w fun e w' => e = .returned (.pointer (some ⟨w.heap.size, 0, none⟩)) ∧ TreeAt w' w.heap.size [] ∧ Below w.heap.size w w' := by
  have HT := Lib.hid (TreeAt.new (w := w) (A := none) (c := 0) (l := []) ⟨.inl rfl, Nat.le_refl _⟩ rfl)
  go_enter Try.func8, Try.ntmps8
  go_wp2
  go_ret
  exact ⟨rfl, HT.out, (Below.refl _ _).alloc (Nat.le_refl _) _⟩

theorem runes_from {l vs : List Nat} (h : V l vs) : ∀ (n j : Nat), j + n = vs.length → ∀ f, n ≤ f → Lib.runeCountFrom (bstr l) f (E (vs.take j)).length = n
  | 0, j, hj, f, _ => by
    obtain rfl : j = vs.length := by omega
    refine Lib.runeCountFrom_end _ _ _ ?_
    rw [List.take_length, h.bytes, bstr_size]
    omega
  | n + 1, j, hj, f, hf => by
    obtain ⟨f, rfl⟩ : ∃ f', f = f' + 1 := ⟨f - 1, by omega⟩
    have hjl : j < vs.length := by omega
    have hd := decode_val h hjl
    have hE : (E (vs.take (j + 1))).length = (E (vs.take j)).length + (enc vs[j]).length := by
      rw [List.take_succ_eq_append_getElem hjl, E_append, List.length_append]; simp [E]
    have hlt : (E (vs.take j)).length < (bstr l).size := by
      rw [bstr_size]
      have h2 : (E (vs.take (j + 1))).length ≤ l.length := by
        conv => rhs; rw [← h.bytes]
        have := congrArg List.length (congrArg E (List.take_append_drop (j + 1) vs))
        rw [E_append, List.length_append] at this
        omega
      have h3 : 0 < (enc vs[j]).length := enc_pos _
      omega
    rw [Lib.runeCountFrom, if_pos hlt, hd, ← hE, runes_from h n (j + 1) (by omega) f (by omega)]
    omega
theorem runeCount_val {l vs : List Nat} (h : V l vs) : Lib.runeCount (bstr l) = vs.length := by
  have := runes_from h vs.length 0 (by omega) (bstr l).size (by
    rw [bstr_size, ← h.bytes]
    exact E_length_le vs)
  rw [List.take_zero, E_nil] at this
  exact this
end Go.Proofs.Ytmedaimndaaiiaa
