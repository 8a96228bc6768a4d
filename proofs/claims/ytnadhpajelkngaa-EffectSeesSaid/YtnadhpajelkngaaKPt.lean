/- The contract of the document's own Valid, over any bytes. Condition: no more than 2^40 bytes. (Merged of 5 texts.) -/
import Derived.Test.YtnadhpajelkngaaKUm
import Derived.Test.YtnadhpajelkngaaKBase
/- The contract of the document's own reader of one code point, ropewalkref1.point: what 'st' says of the bytes from there on. Condition: no more than 2^40 bytes; the place is within. -/
namespace Go.Proofs.Ytnadhpajelkngaa
open Go.RowKit Go.Deep

theorem fur_len : ∀ (n p le : Nat) (t : List Nat) (x : Nat × List Nat), fur n p le t = some x → n ≤ t.length := by
  intro n p le t x h
  obtain ⟨ds, h1, h2, _⟩ := fur_some n p le t x.1 x.2 h
  have := congrArg List.length h2
  rw [List.length_append] at this
  omega
theorem fur_short {n p le : Nat} {t : List Nat} (h : t.length < n) : fur n p le t = none := by
  cases hx : fur n p le t with
  | none => rfl
  | some x => have := fur_len _ _ _ _ _ hx; omega
theorem fur_low {p : Nat} {t : List Nat} (h : p < 2) : fur 1 p 128 t = none := by
  cases t with
  | nil => exact fur_nil _ _ _
  | cons d t =>
    rw [fur_cons]
    split
    · rw [fur_zero, if_pos (.inl (by omega))]
    · rfl
theorem fur_high {p : Nat} {t : List Nat} (h : 5 ≤ p) : fur 3 p 65536 t = none := by
  cases hx : fur 3 p 65536 t with
  | none => rfl
  | some x =>
    obtain ⟨ds, h1, _, h3, h4, _, hm⟩ := fur_some _ _ _ _ _ _ hx
    match ds, h1 with
    | [d, e, f], _ =>
      simp only [List.foldl_cons, List.foldl_nil] at h4
      have := hm.le
      omega
/-- What is told of a code point. -/
def PointEnd (r : List Nat) (e : Ending) : Prop :=
  (∃ v t, st r = some (v, t) ∧ e = .returned (.tuple #[.int .i64 ((v : Nat) : Int), .int .i64 (((enc v).length : Nat) : Int)])) ∨ (st r = none ∧ e = .returned (.tuple #[.int .i64 0, .int .i64 0]))

set_option maxHeartbeats 4000000 in
set_option maxRecDepth 100000 in
theorem refPoint_any (l : List Nat) (hb : ∀ x ∈ l, x < 256) (hl : l.length ≤ 1099511627776) (i : Nat) (hi : i < l.length) (w : World) :
    Calls Try.prog 52 #[.string (bstr l), .int .i64 (i : Int)] w fun e w' => PointEnd (l.drop i) e ∧ w = w' := by
  have HB := Lib.hid hb; clear hb
  have HD := Lib.hid (bstr_size l)
  obtain ⟨c, t, hd0⟩ : ∃ c t, l.drop i = c :: t := ⟨l[i], l.drop (i + 1), List.drop_eq_getElem_cons hi⟩
  have hix := fun w => byte_at HB.out hd0 w
  have hc256 : c < 256 := HB.out c (List.mem_of_mem_drop (by rw [hd0]; exact List.mem_cons_self ..))
  have HDR : Hid (l.drop (i + 1) = t) := by show l.drop (i + 1) = t; rw [← List.drop_drop, hd0]; rfl
  have HLT : Hid (t.length + i + 1 = l.length) := by
    show t.length + i + 1 = l.length
    have := congrArg List.length hd0
    rw [List.length_drop, List.length_cons] at this
    omega
  rw [hd0]
  have HD0 := Lib.hid hd0; clear hd0
  have hsz := HD.out
  by_cases h1 : c < 128
  · by_cases h0 : 1 ≤ c
    · have HS : Hid (st (c :: t) = some (c, t)) := by show _ = _; rw [st_cons, if_pos h1, fur_zero, if_neg (fur_ok (by unfold May; omega) (by omega))]
      have HE : Hid ((enc c).length = 1) := by show _ = _; rw [enc_length, if_pos h1]
      go_enter Try.func52, Try.ntmps52
      go_wp2
      go_ret2
      exact ⟨.inl ⟨c, t, HS.out, by rw [HE.out]; rfl⟩, rfl⟩
    · obtain rfl : c = 0 := by omega
      have HS : Hid (st (0 :: t) = none) := by show _ = _; rw [st_cons, if_pos h1, fur_zero, if_pos (.inr (by unfold May; omega))]
      go_enter Try.func52, Try.ntmps52
      go_wp2
      go_ret2
      exact ⟨.inr ⟨HS.out, rfl⟩, rfl⟩
  by_cases h2 : c < 194
  · have HS : Hid (st (c :: t) = none) := by
      show _ = _
      rw [st_cons, if_neg h1]
      split
      · rfl
      · rw [if_pos (by omega), fur_low (by omega)]
    have h3 : ¬ 224 ≤ c := by omega
    have h4 : ¬ 240 ≤ c := by omega
    go_enter Try.func52, Try.ntmps52
    go_wp2
    go_ret2
    exact ⟨.inr ⟨HS.out, rfl⟩, rfl⟩
  by_cases h5 : 245 ≤ c
  · have HS : Hid (st (c :: t) = none) := by
      show _ = _
      rw [st_cons, if_neg h1, if_neg (by omega), if_neg (by omega), if_neg (by omega)]
      split
      · rw [fur_high (by omega)]
      · rfl
    have h3 : ¬ c < 224 := by omega
    have h4 : ¬ c < 240 := by omega
    go_enter Try.func52, Try.ntmps52
    go_wp2
    go_ret2
    exact ⟨.inr ⟨HS.out, rfl⟩, rfl⟩
  by_cases h6 : c < 224
  · have HS : Hid (st (c :: t) = fur 1 (c % 32) 128 t) := by show _ = _; rw [st_cons, if_neg (by omega), if_neg (by omega), if_pos (by omega)]
    have hcl : 194 ≤ c := by omega
    have hcu : c < 245 := by omega
    obtain ⟨z, HZ⟩ : ∃ z, Hid (z = c % 32) := ⟨_, rfl⟩
    have hand0 : bits BinOp.and IntKind.i64 (c : Int) 31 = (z : Int) := by rw [HZ.out]; exact band64 c 5 (by omega) (by omega)
    by_cases hsh : t.length < 1
    · have HN : Hid (st (c :: t) = none) := by show _ = _; rw [HS.out, fur_short hsh]
      have hsh2 : l.length - i < 2 := by have := HLT.out; omega
      go_enter Try.func52, Try.ntmps52
      go_wp2
      go_ret2
      exact ⟨.inr ⟨HN.out, rfl⟩, rfl⟩
    have hsh2 : ¬ l.length - i < 2 := by have := HLT.out; omega
    have hin : i + 2 ≤ l.length := by omega
    go_enter Try.func52, Try.ntmps52
    go_wp2
    clear hix hand0
    go_loop [4, 5, 8, 10] (fun _ _ v k => ∃ (q p : Nat), 1 ≤ q ∧ q ≤ 2 ∧ k = .int .i64 (q : Int) ∧ v = .int .i64 (p : Int) ∧ (p + 1) * 64 ^ (2 - q) ≤ 2097152 ∧ Hid (st (c :: t) = fur (2 - q) p 128 (l.drop (i + q)))) (fun _ _ _ k => 2 - (intOf k).toNat)
    case atStart => exact ⟨1, z, by omega, by omega, rfl, rfl, by rw [HZ.out]; simp only [Nat.reduceSub, Nat.reducePow]; omega, by show _ = _; rw [HS.out, HDR.out, HZ.out]⟩
    case round =>
      obtain ⟨q, p, hq1, hqn, rfl, rfl, hp, HQ⟩ := hrel
      by_cases hq : q < 2
      · obtain ⟨m, HM⟩ : ∃ m, Hid (2 - q = m + 1) := ⟨2 - q - 1, by show 2 - q = 2 - q - 1 + 1; omega⟩
        have hp3 : p < 32768 := by
          have e : 64 ^ (2 - q) = 64 * 64 ^ m := by rw [HM.out, Nat.pow_succ, Nat.mul_comm]
          rw [e] at hp
          have : 0 < 64 ^ m := Nat.pow_pos (by omega)
          have h64 : (p + 1) * 64 ≤ (p + 1) * (64 * 64 ^ m) := Nat.mul_le_mul_left _ (by omega)
          omega
        obtain ⟨d, u, hdu⟩ : ∃ d u, l.drop (i + q) = d :: u := ⟨l[i + q], l.drop (i + q + 1), List.drop_eq_getElem_cons (by omega)⟩
        have hid := fun w => byte_at HB.out hdu w
        have hid' : ∀ w, (Instr.index 9 (.string (bstr l)) (.int .i64 ((i : Int) + (q : Int)))).run Try.prog w = .ok (.int .u8 (d : Int)) w := by
          intro w
          have := hid w
          rw [Int.natCast_add] at this
          exact this
        clear hid
        have hd256 : d < 256 := HB.out d (List.mem_of_mem_drop (by rw [hdu]; exact List.mem_cons_self ..))
        rw [HM.out, hdu, fur_cons] at HQ
        have HU : Hid (l.drop (i + (q + 1)) = u) := by show l.drop (i + (q + 1)) = u; rw [← Nat.add_assoc, ← List.drop_drop, hdu]; rfl
        clear hdu
        by_cases hd : d / 64 = 2
        · obtain ⟨x, HX⟩ : ∃ x, Hid (x = p * 64 + d % 64) := ⟨_, rfl⟩
          obtain ⟨y, HY⟩ : ∃ y, Hid (y = d % 64) := ⟨_, rfl⟩
          have hand : bits BinOp.and IntKind.i64 (d : Int) 63 = (y : Int) := by rw [HY.out]; exact band64 d 6 (by omega) (by omega)
          have hor := bor6 p d hp3
          rw [show ((d : Int) % 64) = (y : Int) by rw [HY.out]; omega, ← HX.out] at hor
          have hd1 : 128 ≤ d := by omega
          have hd2 : d ≤ 191 := by omega
          have HP : Hid ((x + 1) * 64 ^ (2 - (q + 1)) ≤ 2097152) := by
            show (x + 1) * 64 ^ (2 - (q + 1)) ≤ 2097152
            have e : 2 - (q + 1) = m := by have := HM.out; omega
            rw [e]
            rw [HM.out, Nat.pow_succ] at hp
            have h1 : (x + 1) * 64 ^ m ≤ ((p + 1) * 64) * 64 ^ m := Nat.mul_le_mul_right _ (by rw [HX.out]; omega)
            have h2 : ((p + 1) * 64) * 64 ^ m = (p + 1) * (64 ^ m * 64) := by rw [Nat.mul_assoc, Nat.mul_comm 64]
            omega
          have HQ2 : Hid (st (c :: t) = fur (2 - (q + 1)) x 128 (l.drop (i + (q + 1)))) := by
            show _ = _
            rw [HQ.out, if_pos hd, ← HX.out, HU.out, show 2 - (q + 1) = m by have := HM.out; omega]
          clear hp
          go_wp2
          go_round
          case rel => exact ⟨_, _, _, _, ⟨q + 1, by omega, by omega, rfl, x, rfl, HP.out, HQ2.out⟩, rfl, rfl, rfl, by simp⟩
          case measure => simp [intOf]; omega
        · have HN : Hid (st (c :: t) = none) := by show _ = _; rw [HQ.out, if_neg hd]
          clear hp
          by_cases hd1 : d < 128
          · go_wp2
            go_ret2
            exact ⟨.inr ⟨HN.out, rfl⟩, rfl⟩
          · have hd2 : 191 < d := by omega
            go_wp2
            go_ret2
            exact ⟨.inr ⟨HN.out, rfl⟩, rfl⟩
      · obtain rfl : q = 2 := by omega
        rw [Nat.sub_self, fur_zero] at HQ
        have hp2 : p ≤ 2097152 := by rw [Nat.sub_self] at hp; omega
        clear hp
        by_cases hpl : p < 128
        · have HN : Hid (st (c :: t) = none) := by show _ = _; rw [HQ.out, if_pos (.inl hpl)]
          go_wp2
          go_ret2
          exact ⟨.inr ⟨HN.out, rfl⟩, rfl⟩
        by_cases hps : 55296 ≤ p
        · by_cases hps2 : p < 57344
          · have HN : Hid (st (c :: t) = none) := by show _ = _; rw [HQ.out, if_pos (.inr (by unfold May; omega))]
            go_wp2
            go_ret2
            exact ⟨.inr ⟨HN.out, rfl⟩, rfl⟩
          · by_cases hpm : 1114111 < p
            · have HN : Hid (st (c :: t) = none) := by show _ = _; rw [HQ.out, if_pos (.inr (by unfold May; omega))]
              go_wp2
              go_ret2
              exact ⟨.inr ⟨HN.out, rfl⟩, rfl⟩
            · have HN : Hid (st (c :: t) = some (p, l.drop (i + 2))) := by show _ = _; rw [HQ.out, if_neg (fur_ok (by unfold May; omega) (by omega))]
              have HE : Hid ((enc p).length = 2) := by
                show _ = _
                have h3 := congrArg List.length (st_some HN.out).2
                rw [List.length_append, List.length_cons, List.length_drop] at h3
                have := HLT.out
                omega
              go_wp2
              go_ret2
              exact ⟨.inl ⟨p, _, HN.out, by rw [HE.out]; rfl⟩, rfl⟩
        · have hpm : ¬ 1114111 < p := by omega
          have HN : Hid (st (c :: t) = some (p, l.drop (i + 2))) := by show _ = _; rw [HQ.out, if_neg (fur_ok (by unfold May; omega) (by omega))]
          have HE : Hid ((enc p).length = 2) := by
            show _ = _
            have h3 := congrArg List.length (st_some HN.out).2
            rw [List.length_append, List.length_cons, List.length_drop] at h3
            have := HLT.out
            omega
          go_wp2
          go_ret2
          exact ⟨.inl ⟨p, _, HN.out, by rw [HE.out]; rfl⟩, rfl⟩
  by_cases h7 : c < 240
  · have HS : Hid (st (c :: t) = fur 2 (c % 16) 2048 t) := by show _ = _; rw [st_cons, if_neg (by omega), if_neg (by omega), if_neg (by omega), if_pos (by omega)]
    have hcl : 194 ≤ c := by omega
    have hcu : c < 245 := by omega
    have h8 : 224 ≤ c := by omega
    obtain ⟨z, HZ⟩ : ∃ z, Hid (z = c % 16) := ⟨_, rfl⟩
    have hand0 : bits BinOp.and IntKind.i64 (c : Int) 15 = (z : Int) := by rw [HZ.out]; exact band64 c 4 (by omega) (by omega)
    by_cases hsh : t.length < 2
    · have HN : Hid (st (c :: t) = none) := by show _ = _; rw [HS.out, fur_short hsh]
      have hsh2 : l.length - i < 3 := by have := HLT.out; omega
      go_enter Try.func52, Try.ntmps52
      go_wp2
      go_ret2
      exact ⟨.inr ⟨HN.out, rfl⟩, rfl⟩
    have hsh2 : ¬ l.length - i < 3 := by have := HLT.out; omega
    have hin : i + 3 ≤ l.length := by omega
    go_enter Try.func52, Try.ntmps52
    go_wp2
    clear hix hand0
    go_loop [4, 5, 8, 10] (fun _ _ v k => ∃ (q p : Nat), 1 ≤ q ∧ q ≤ 3 ∧ k = .int .i64 (q : Int) ∧ v = .int .i64 (p : Int) ∧ (p + 1) * 64 ^ (3 - q) ≤ 2097152 ∧ Hid (st (c :: t) = fur (3 - q) p 2048 (l.drop (i + q)))) (fun _ _ _ k => 3 - (intOf k).toNat)
    case atStart => exact ⟨1, z, by omega, by omega, rfl, rfl, by rw [HZ.out]; simp only [Nat.reduceSub, Nat.reducePow]; omega, by show _ = _; rw [HS.out, HDR.out, HZ.out]⟩
    case round =>
      obtain ⟨q, p, hq1, hqn, rfl, rfl, hp, HQ⟩ := hrel
      by_cases hq : q < 3
      · obtain ⟨m, HM⟩ : ∃ m, Hid (3 - q = m + 1) := ⟨3 - q - 1, by show 3 - q = 3 - q - 1 + 1; omega⟩
        have hp3 : p < 32768 := by
          have e : 64 ^ (3 - q) = 64 * 64 ^ m := by rw [HM.out, Nat.pow_succ, Nat.mul_comm]
          rw [e] at hp
          have : 0 < 64 ^ m := Nat.pow_pos (by omega)
          have h64 : (p + 1) * 64 ≤ (p + 1) * (64 * 64 ^ m) := Nat.mul_le_mul_left _ (by omega)
          omega
        obtain ⟨d, u, hdu⟩ : ∃ d u, l.drop (i + q) = d :: u := ⟨l[i + q], l.drop (i + q + 1), List.drop_eq_getElem_cons (by omega)⟩
        have hid := fun w => byte_at HB.out hdu w
        have hid' : ∀ w, (Instr.index 9 (.string (bstr l)) (.int .i64 ((i : Int) + (q : Int)))).run Try.prog w = .ok (.int .u8 (d : Int)) w := by
          intro w
          have := hid w
          rw [Int.natCast_add] at this
          exact this
        clear hid
        have hd256 : d < 256 := HB.out d (List.mem_of_mem_drop (by rw [hdu]; exact List.mem_cons_self ..))
        rw [HM.out, hdu, fur_cons] at HQ
        have HU : Hid (l.drop (i + (q + 1)) = u) := by show l.drop (i + (q + 1)) = u; rw [← Nat.add_assoc, ← List.drop_drop, hdu]; rfl
        clear hdu
        by_cases hd : d / 64 = 2
        · obtain ⟨x, HX⟩ : ∃ x, Hid (x = p * 64 + d % 64) := ⟨_, rfl⟩
          obtain ⟨y, HY⟩ : ∃ y, Hid (y = d % 64) := ⟨_, rfl⟩
          have hand : bits BinOp.and IntKind.i64 (d : Int) 63 = (y : Int) := by rw [HY.out]; exact band64 d 6 (by omega) (by omega)
          have hor := bor6 p d hp3
          rw [show ((d : Int) % 64) = (y : Int) by rw [HY.out]; omega, ← HX.out] at hor
          have hd1 : 128 ≤ d := by omega
          have hd2 : d ≤ 191 := by omega
          have HP : Hid ((x + 1) * 64 ^ (3 - (q + 1)) ≤ 2097152) := by
            show (x + 1) * 64 ^ (3 - (q + 1)) ≤ 2097152
            have e : 3 - (q + 1) = m := by have := HM.out; omega
            rw [e]
            rw [HM.out, Nat.pow_succ] at hp
            have h1 : (x + 1) * 64 ^ m ≤ ((p + 1) * 64) * 64 ^ m := Nat.mul_le_mul_right _ (by rw [HX.out]; omega)
            have h2 : ((p + 1) * 64) * 64 ^ m = (p + 1) * (64 ^ m * 64) := by rw [Nat.mul_assoc, Nat.mul_comm 64]
            omega
          have HQ2 : Hid (st (c :: t) = fur (3 - (q + 1)) x 2048 (l.drop (i + (q + 1)))) := by
            show _ = _
            rw [HQ.out, if_pos hd, ← HX.out, HU.out, show 3 - (q + 1) = m by have := HM.out; omega]
          clear hp
          go_wp2
          go_round
          case rel => exact ⟨_, _, _, _, ⟨q + 1, by omega, by omega, rfl, x, rfl, HP.out, HQ2.out⟩, rfl, rfl, rfl, by simp⟩
          case measure => simp [intOf]; omega
        · have HN : Hid (st (c :: t) = none) := by show _ = _; rw [HQ.out, if_neg hd]
          clear hp
          by_cases hd1 : d < 128
          · go_wp2
            go_ret2
            exact ⟨.inr ⟨HN.out, rfl⟩, rfl⟩
          · have hd2 : 191 < d := by omega
            go_wp2
            go_ret2
            exact ⟨.inr ⟨HN.out, rfl⟩, rfl⟩
      · obtain rfl : q = 3 := by omega
        rw [Nat.sub_self, fur_zero] at HQ
        have hp2 : p ≤ 2097152 := by rw [Nat.sub_self] at hp; omega
        clear hp
        by_cases hpl : p < 2048
        · have HN : Hid (st (c :: t) = none) := by show _ = _; rw [HQ.out, if_pos (.inl hpl)]
          go_wp2
          go_ret2
          exact ⟨.inr ⟨HN.out, rfl⟩, rfl⟩
        by_cases hps : 55296 ≤ p
        · by_cases hps2 : p < 57344
          · have HN : Hid (st (c :: t) = none) := by show _ = _; rw [HQ.out, if_pos (.inr (by unfold May; omega))]
            go_wp2
            go_ret2
            exact ⟨.inr ⟨HN.out, rfl⟩, rfl⟩
          · by_cases hpm : 1114111 < p
            · have HN : Hid (st (c :: t) = none) := by show _ = _; rw [HQ.out, if_pos (.inr (by unfold May; omega))]
              go_wp2
              go_ret2
              exact ⟨.inr ⟨HN.out, rfl⟩, rfl⟩
            · have HN : Hid (st (c :: t) = some (p, l.drop (i + 3))) := by show _ = _; rw [HQ.out, if_neg (fur_ok (by unfold May; omega) (by omega))]
              have HE : Hid ((enc p).length = 3) := by
                show _ = _
                have h3 := congrArg List.length (st_some HN.out).2
                rw [List.length_append, List.length_cons, List.length_drop] at h3
                have := HLT.out
                omega
              go_wp2
              go_ret2
              exact ⟨.inl ⟨p, _, HN.out, by rw [HE.out]; rfl⟩, rfl⟩
        · have hpm : ¬ 1114111 < p := by omega
          have HN : Hid (st (c :: t) = some (p, l.drop (i + 3))) := by show _ = _; rw [HQ.out, if_neg (fur_ok (by unfold May; omega) (by omega))]
          have HE : Hid ((enc p).length = 3) := by
            show _ = _
            have h3 := congrArg List.length (st_some HN.out).2
            rw [List.length_append, List.length_cons, List.length_drop] at h3
            have := HLT.out
            omega
          go_wp2
          go_ret2
          exact ⟨.inl ⟨p, _, HN.out, by rw [HE.out]; rfl⟩, rfl⟩
  · have HS : Hid (st (c :: t) = fur 3 (c % 8) 65536 t) := by show _ = _; rw [st_cons, if_neg (by omega), if_neg (by omega), if_neg (by omega), if_neg (by omega), if_pos (by omega)]
    have hcl : 194 ≤ c := by omega
    have hcu : c < 245 := by omega
    have h8 : 240 ≤ c := by omega
    obtain ⟨z, HZ⟩ : ∃ z, Hid (z = c % 8) := ⟨_, rfl⟩
    have hand0 : bits BinOp.and IntKind.i64 (c : Int) 7 = (z : Int) := by rw [HZ.out]; exact band64 c 3 (by omega) (by omega)
    by_cases hsh : t.length < 3
    · have HN : Hid (st (c :: t) = none) := by show _ = _; rw [HS.out, fur_short hsh]
      have hsh2 : l.length - i < 4 := by have := HLT.out; omega
      go_enter Try.func52, Try.ntmps52
      go_wp2
      go_ret2
      exact ⟨.inr ⟨HN.out, rfl⟩, rfl⟩
    have hsh2 : ¬ l.length - i < 4 := by have := HLT.out; omega
    have hin : i + 4 ≤ l.length := by omega
    go_enter Try.func52, Try.ntmps52
    go_wp2
    clear hix hand0
    go_loop [4, 5, 8, 10] (fun _ _ v k => ∃ (q p : Nat), 1 ≤ q ∧ q ≤ 4 ∧ k = .int .i64 (q : Int) ∧ v = .int .i64 (p : Int) ∧ (p + 1) * 64 ^ (4 - q) ≤ 2097152 ∧ Hid (st (c :: t) = fur (4 - q) p 65536 (l.drop (i + q)))) (fun _ _ _ k => 4 - (intOf k).toNat)
    case atStart => exact ⟨1, z, by omega, by omega, rfl, rfl, by rw [HZ.out]; simp only [Nat.reduceSub, Nat.reducePow]; omega, by show _ = _; rw [HS.out, HDR.out, HZ.out]⟩
    case round =>
      obtain ⟨q, p, hq1, hqn, rfl, rfl, hp, HQ⟩ := hrel
      by_cases hq : q < 4
      · obtain ⟨m, HM⟩ : ∃ m, Hid (4 - q = m + 1) := ⟨4 - q - 1, by show 4 - q = 4 - q - 1 + 1; omega⟩
        have hp3 : p < 32768 := by
          have e : 64 ^ (4 - q) = 64 * 64 ^ m := by rw [HM.out, Nat.pow_succ, Nat.mul_comm]
          rw [e] at hp
          have : 0 < 64 ^ m := Nat.pow_pos (by omega)
          have h64 : (p + 1) * 64 ≤ (p + 1) * (64 * 64 ^ m) := Nat.mul_le_mul_left _ (by omega)
          omega
        obtain ⟨d, u, hdu⟩ : ∃ d u, l.drop (i + q) = d :: u := ⟨l[i + q], l.drop (i + q + 1), List.drop_eq_getElem_cons (by omega)⟩
        have hid := fun w => byte_at HB.out hdu w
        have hid' : ∀ w, (Instr.index 9 (.string (bstr l)) (.int .i64 ((i : Int) + (q : Int)))).run Try.prog w = .ok (.int .u8 (d : Int)) w := by
          intro w
          have := hid w
          rw [Int.natCast_add] at this
          exact this
        clear hid
        have hd256 : d < 256 := HB.out d (List.mem_of_mem_drop (by rw [hdu]; exact List.mem_cons_self ..))
        rw [HM.out, hdu, fur_cons] at HQ
        have HU : Hid (l.drop (i + (q + 1)) = u) := by show l.drop (i + (q + 1)) = u; rw [← Nat.add_assoc, ← List.drop_drop, hdu]; rfl
        clear hdu
        by_cases hd : d / 64 = 2
        · obtain ⟨x, HX⟩ : ∃ x, Hid (x = p * 64 + d % 64) := ⟨_, rfl⟩
          obtain ⟨y, HY⟩ : ∃ y, Hid (y = d % 64) := ⟨_, rfl⟩
          have hand : bits BinOp.and IntKind.i64 (d : Int) 63 = (y : Int) := by rw [HY.out]; exact band64 d 6 (by omega) (by omega)
          have hor := bor6 p d hp3
          rw [show ((d : Int) % 64) = (y : Int) by rw [HY.out]; omega, ← HX.out] at hor
          have hd1 : 128 ≤ d := by omega
          have hd2 : d ≤ 191 := by omega
          have HP : Hid ((x + 1) * 64 ^ (4 - (q + 1)) ≤ 2097152) := by
            show (x + 1) * 64 ^ (4 - (q + 1)) ≤ 2097152
            have e : 4 - (q + 1) = m := by have := HM.out; omega
            rw [e]
            rw [HM.out, Nat.pow_succ] at hp
            have h1 : (x + 1) * 64 ^ m ≤ ((p + 1) * 64) * 64 ^ m := Nat.mul_le_mul_right _ (by rw [HX.out]; omega)
            have h2 : ((p + 1) * 64) * 64 ^ m = (p + 1) * (64 ^ m * 64) := by rw [Nat.mul_assoc, Nat.mul_comm 64]
            omega
          have HQ2 : Hid (st (c :: t) = fur (4 - (q + 1)) x 65536 (l.drop (i + (q + 1)))) := by
            show _ = _
            rw [HQ.out, if_pos hd, ← HX.out, HU.out, show 4 - (q + 1) = m by have := HM.out; omega]
          clear hp
          go_wp2
          go_round
          case rel => exact ⟨_, _, _, _, ⟨q + 1, by omega, by omega, rfl, x, rfl, HP.out, HQ2.out⟩, rfl, rfl, rfl, by simp⟩
          case measure => simp [intOf]; omega
        · have HN : Hid (st (c :: t) = none) := by show _ = _; rw [HQ.out, if_neg hd]
          clear hp
          by_cases hd1 : d < 128
          · go_wp2
            go_ret2
            exact ⟨.inr ⟨HN.out, rfl⟩, rfl⟩
          · have hd2 : 191 < d := by omega
            go_wp2
            go_ret2
            exact ⟨.inr ⟨HN.out, rfl⟩, rfl⟩
      · obtain rfl : q = 4 := by omega
        rw [Nat.sub_self, fur_zero] at HQ
        have hp2 : p ≤ 2097152 := by rw [Nat.sub_self] at hp; omega
        clear hp
        by_cases hpl : p < 65536
        · have HN : Hid (st (c :: t) = none) := by show _ = _; rw [HQ.out, if_pos (.inl hpl)]
          go_wp2
          go_ret2
          exact ⟨.inr ⟨HN.out, rfl⟩, rfl⟩
        have hps : 55296 ≤ p := by omega
        have hps2 : ¬ p < 57344 := by omega
        by_cases hpm : 1114111 < p
        · have HN : Hid (st (c :: t) = none) := by show _ = _; rw [HQ.out, if_pos (.inr (by unfold May; omega))]
          go_wp2
          go_ret2
          exact ⟨.inr ⟨HN.out, rfl⟩, rfl⟩
        · have HN : Hid (st (c :: t) = some (p, l.drop (i + 4))) := by show _ = _; rw [HQ.out, if_neg (fur_ok (by unfold May; omega) (by omega))]
          have HE : Hid ((enc p).length = 4) := by
            show _ = _
            have h3 := congrArg List.length (st_some HN.out).2
            rw [List.length_append, List.length_cons, List.length_drop] at h3
            have := HLT.out
            omega
          go_wp2
          go_ret2
          exact ⟨.inl ⟨p, _, HN.out, by rw [HE.out]; rfl⟩, rfl⟩
end Go.Proofs.Ytnadhpajelkngaa

/- The contract of the document's own Points, over any bytes. Condition: no more than 2^40 bytes. -/
namespace Go.Proofs.Ytnadhpajelkngaa
open Go.RowKit Go.Deep

theorem wpList_append_int {w : World} {ops : Array Oper} {rest : List Oper} {o : Oper} {a : Act} {Q : Exit → Act → World → Prop} (hgd : o.guard = none) (s x : Operand)
    (ho : o.op = .call { callee := .builtin .append, args := #[s, x], argTypes := #[75, 75] })
    (base : Nat) (v : Value) (vs : List Nat) (hs : a.eval s = v) (hown : w.ownsRow base 3 1 v vs.length (is64 (nz vs))) (g : Nat) (y : Nat) (hx : a.eval x = .slice (some ⟨g, 0, none⟩) 1 1) (hg : w.cell? ⟨g, 0, none⟩ = some (.int .i64 (y : Int)))
    (hlen : vs.length ≤ 1099511627776) (hbase : base ≤ w.heap.size)
    (h : ∀ v' w', w'.ownsRow base 3 1 v' (vs ++ [y]).length (is64 (nz (vs ++ [y]))) → w.grownBy w' v.ownBlock → wpList Try.prog ops Q rest (a.put o.dst v') w') : wpList Try.prog ops Q (o :: rest) a w := by
  obtain ⟨i0, hi0, hz0, hz1, hz2⟩ := info_parts int_info
  refine wpList_append_own _ hgd s x 75 ho base 3 i0 (.int .i64 0) 1 8 Try.underlying75 hi0 hz0 hz1 hz2 rfl (by omega) v vs.length (is64 (nz vs)) hs hown ⟨g, 0, none⟩ 1 1 [.int .i64 (y : Int)] hx rfl ?_ ?_ (by simp only [maxLen]; omega) (by omega) hbase ?_
  · intro j u hj
    match j, hj with
    | 0, hj => simp at hj; subst hj; simp [Addr.add]; exact hg
    | (j + 1), hj => simp at hj
  · intro u hu; simp at hu; subst hu; rfl
  · intro v' w1 hown1 hgr _
    refine h v' w1 ?_ hgr
    rw [nz_snoc, is64_append, List.length_append]
    exact hown1

/-- What the loop of the document's Points holds. -/
def PtsRel (w : World) (l : List Nat) (i : Nat) (v : Value) (wr : World) : Prop :=
  ∃ vs r, (∀ v ∈ vs, May v) ∧ l = E vs ++ r ∧ i = (E vs).length ∧ wr.ownsRow w.heap.size 3 1 v vs.length (is64 (nz vs)) ∧ Below w.heap.size w wr
theorem PtsRel.start (w : World) (l : List Nat) : PtsRel w l 0 (.slice none 0 0) w := ⟨[], l, by simp, by rw [E_nil]; rfl, by rw [E_nil]; rfl, by simpa [is64, nz] using World.ownsRow_nil _ _ _ _, Below.refl _ _⟩

set_option maxRecDepth 100000 in
theorem refPoints_any (l : List Nat) (hb : ∀ x ∈ l, x < 256) (hl : l.length ≤ 1099511627776) (w : World) :
    Calls Try.prog 40 #[.string (bstr l)] w fun e w' =>
      ((∃ vs, V l vs ∧ ∃ A c, e = .returned (.tuple #[.slice A (nz vs).length c, .bool true]) ∧ IntsAt w' A (nz vs)) ∨ ((¬ ∃ vs, V l vs) ∧ e = .returned (.tuple #[.slice none 0 0, .bool false]))) ∧ Below w.heap.size w w' := by
  have HP := Lib.hid (fun i hi w => refPoint_any l hb hl i hi w)
  have HB := Lib.hid hb; clear hb
  have hsz := bstr_size l
  go_enter Try.func40, Try.ntmps40
  go_wp2
  go_loopw [4, 5] (fun v i wr => ∃ k : Nat, k ≤ l.length ∧ i = .int .i64 k ∧ PtsRel w l k v wr) (fun _ i _ => l.length - (intOf i).toNat)
  case atStart => exact ⟨0, Nat.zero_le _, rfl, PtsRel.start w l⟩
  case round =>
    obtain ⟨k, hk, rfl, vs, r, hvs, hlr, hke, hown, hbel⟩ := hrel
    have HOWN := Lib.hid hown; clear hown
    have HBEL := Lib.hid hbel; clear hbel
    have HVS := Lib.hid hvs; clear hvs
    have HLR := Lib.hid hlr; clear hlr
    have HKE := Lib.hid hke; clear hke
    obtain ⟨A4, c4, rfl⟩ := own_slice HOWN.out
    by_cases hlt : k < l.length
    · have HR : Hid (l.drop k = r) := by show l.drop k = r; rw [HLR.out, HKE.out, List.drop_left' rfl]
      have HRN : Hid (r ≠ []) := by
        show r ≠ []
        intro h
        have h1 := congrArg List.length HLR.out
        rw [h, List.append_nil, ← HKE.out] at h1
        omega
      have HP1 := Lib.hid (fun w => HP.out k hlt w)
      rw [HR.out] at HP1
      go_wp2_with fail
      refine (HP1.out _).mono ?_
      rintro e w1 ⟨hpe, rfl⟩
      rcases hpe with ⟨v, t, hst, rfl⟩ | ⟨hst, rfl⟩
      · obtain ⟨hmay, hrt⟩ := st_some hst
        have HST := Lib.hid hrt
        have HMAY := Lib.hid hmay
        have hn1 := enc_pos v
        have hn2 := enc_le v
        have HKN : Hid (k + (enc v).length + t.length = l.length) := by
          show k + (enc v).length + t.length = l.length
          rw [HLR.out, HST.out, List.length_append, List.length_append, ← HKE.out, Nat.add_assoc]
        obtain ⟨n, HN⟩ : ∃ n, Hid (n = (enc v).length) := ⟨_, rfl⟩
        rw [← HN.out] at hn1 hn2 HKN
        rw [← HN.out]
        have hne : ((n : Int) == 0) = false := beq_eq_false_iff_ne.2 (by omega)
        have hkn := HKN.out
        have hvl : Hid (vs.length ≤ 1099511627776) := by
          show vs.length ≤ 1099511627776
          have h1 := E_length_le vs
          rw [← HKE.out] at h1
          omega
        clear hst hmay hrt
        go_wp2_with (at_builtin
                     refine wpList_append_int rfl (.tmp 20) (.tmp 22) rfl w.heap.size (.slice A4 vs.length c4) vs rfl (HOWN.out.alloc _) wr.heap.size v rfl (by simp) hvl.out (by have := HBEL.out.size; simp; omega) ?_
                     intro v1 w1 hown1 hgr
                     have HOWN1 := Lib.hid hown1
                     have HB1 : Hid (Below w.heap.size w w1) := (HBEL.out.alloc HBEL.out.size _).grown hgr (by have := HBEL.out.size; simp; omega) (fun j hj => (HOWN.out.lt j hj).1)
                     clear hown1 hgr)
        go_roundw
        case rel =>
          refine ⟨k + n, by omega, by go_num, vs ++ [v], t, ?_, by rw [E_snoc, List.append_assoc, ← HST.out, ← HLR.out], by rw [E_snoc, List.length_append, ← HN.out, ← HKE.out], HOWN1.out, HB1.out⟩
          intro x hx
          rcases List.mem_append.1 hx with hx | hx
          · exact HVS.out x hx
          · rw [List.mem_singleton.1 hx]; exact HMAY.out
        case measure => simp [intOf]; omega
      · have HNO : Hid (¬ ∃ vs, V l vs) := by
          show ¬ ∃ vs, V l vs
          rw [HLR.out]
          exact none_behind HVS.out HRN.out hst
        clear hst
        go_wp2
        go_ret2
        exact ⟨.inr ⟨HNO.out, rfl⟩, HBEL.out⟩
    · have HV : Hid (V l vs) := by
        refine ⟨HVS.out, ?_⟩
        have h1 := congrArg List.length HLR.out
        rw [List.length_append, ← HKE.out] at h1
        have h2 : r = [] := List.eq_nil_of_length_eq_zero (by omega)
        rw [HLR.out, h2, List.append_nil]
      go_wp2
      go_ret2
      exact ⟨.inl ⟨vs, HV.out, A4, c4, by rw [nz_length]; rfl, IntsAt.of_own HOWN.out (nz_length _).symm⟩, HBEL.out⟩

end Go.Proofs.Ytnadhpajelkngaa

/- The contract of the document's own Count, over texts. Condition: no more than 2^40 bytes. -/
namespace Go.Proofs.Ytnadhpajelkngaa
open Go.RowKit Go.Deep

theorem refCount_yes {l vs : List Nat} (h : V l vs) (hl : l.length ≤ 1099511627776) (w : World) :
    Calls Try.prog 23 #[.string (bstr l)] w fun e w' => e = .returned (.int .i64 ((vs.length : Nat) : Int)) ∧ Below w.heap.size w w' := by
  have HP := Lib.hid (refPoints_any l (by rw [← h.bytes]; exact E_lt h.may) hl w)
  have HL : Hid (vs.length ≤ 1099511627776) := by show vs.length ≤ _; have := h.length_le; omega
  have hl2 := HL.out
  have H := Lib.hid h; clear h
  go_enter Try.func23, Try.ntmps23
  go_wp2_with fail
  refine HP.out.mono ?_
  rintro e w1 ⟨⟨ws, hv, A, c, rfl, _⟩ | ⟨hn, _⟩, hbel⟩
  · obtain rfl := hv.uniq H.out
    rw [nz_length]
    go_wp2
    go_ret
    exact ⟨rfl, hbel⟩
  · exact absurd ⟨vs, H.out⟩ hn
end Go.Proofs.Ytnadhpajelkngaa

/- The contracts of the document's own Offset, Slice, over texts, within. Condition: no more than 2^40 bytes. -/
namespace Go.Proofs.Ytnadhpajelkngaa
open Go.RowKit Go.Deep

set_option maxRecDepth 100000 in
theorem refOffset_yes {l vs : List Nat} (h : V l vs) (hl : l.length ≤ 1099511627776) (n : Nat) (hn : n ≤ vs.length) (w : World) :
    Calls Try.prog 42 #[.string (bstr l), .int .i64 (n : Int)] w fun e w' => e = .returned (.int .i64 (((E (vs.take n)).length : Nat) : Int)) ∧ w = w' := by
  have HP := Lib.hid (fun i hi w => refPoint_any l (by rw [← h.bytes]; exact E_lt h.may) hl i hi w)
  have hsz := bstr_size l
  have HL : Hid (vs.length ≤ 1099511627776) := by show vs.length ≤ _; have := h.length_le; omega
  have hl2 := HL.out
  have H := Lib.hid h; clear h
  go_enter Try.func42, Try.ntmps42
  go_wp2
  go_loopw [1, 5] (fun m at_ wr => ∃ j i : Nat, j ≤ n ∧ i = (E (vs.take j)).length ∧ m = .int .i64 ((n - j : Nat) : Int) ∧ at_ = .int .i64 (i : Int) ∧ wr = w) (fun m _ _ => (intOf m).toNat)
  case atStart => exact ⟨0, 0, Nat.zero_le _, by rw [List.take_zero, E_nil]; rfl, rfl, rfl, rfl⟩
  case round =>
    obtain ⟨j, i, hj, hi, rfl, rfl, rfl⟩ := hrel
    have HI := Lib.hid hi; clear hi
    obtain ⟨m, HM⟩ : ∃ m, Hid (m = n - j) := ⟨_, rfl⟩
    rw [← HM.out]
    have hmn : m ≤ n := by rw [HM.out]; omega
    by_cases hlt : j < n
    · have hjv : j < vs.length := by omega
      obtain ⟨v, HV⟩ : ∃ v, Hid (v = vs[j]) := ⟨vs[j], Lib.hid rfl⟩
      have HMAY : Hid (May v) := by show May v; rw [HV.out]; exact H.out.may _ (List.getElem_mem hjv)
      have HT : Hid (vs.take (j + 1) = vs.take j ++ [v]) := by show _ = _; rw [List.take_succ_eq_append_getElem hjv, HV.out]
      have HL2 : Hid (l = E (vs.take j) ++ (enc v ++ E (vs.drop (j + 1)))) := by
        show l = _
        rw [← List.append_assoc, ← E_snoc, ← HT.out, ← E_append, List.take_append_drop, H.out.bytes]
      have HDR : Hid (l.drop i = enc v ++ E (vs.drop (j + 1))) := by show _ = _; rw [HI.out, HL2.out, List.drop_left' rfl]
      have hp := enc_pos v
      have hle := enc_le v
      obtain ⟨q, HQ⟩ : ∃ q, Hid (q = (enc v).length) := ⟨_, rfl⟩
      have HIL : Hid (i + q ≤ l.length) := by
        show i + q ≤ l.length
        have h1 := congrArg List.length HL2.out
        rw [List.length_append, List.length_append, ← HI.out, ← HQ.out] at h1
        omega
      have hil := HIL.out
      rw [← HQ.out] at hp hle
      have hi2 : i < l.length := by omega
      have hm1 : 0 < m := by rw [HM.out]; omega
      have HP1 := Lib.hid (fun w => HP.out i hi2 w)
      rw [HDR.out] at HP1
      have HST := Lib.hid (st_enc HMAY.out (E (vs.drop (j + 1))))
      have hmax : max (q : Int) 1 = (q : Int) := by omega
      go_wp2_with fail
      refine (HP1.out _).mono ?_
      rintro e w1 ⟨⟨v', t, hst, rfl⟩ | ⟨hst, _⟩, rfl⟩
      · rw [HST.out] at hst
        injection hst with hst
        injection hst with h1 h2
        subst h1
        clear h2
        rw [← HQ.out]
        go_wp2
        go_roundw
        case rel => exact ⟨j + 1, i + q, by omega, by rw [HT.out, E_snoc, List.length_append, ← HI.out, ← HQ.out], by congr 1; have := HM.out; omega, by go_num, trivial⟩
        case measure => simp [intOf]; omega
      · rw [HST.out] at hst
        cases hst
    · have hm0 : m = 0 := by rw [HM.out]; omega
      have hjn : j = n := by omega
      subst hjn
      subst hm0
      go_wp2
      go_ret
      exact ⟨by rw [← HI.out]; rfl, rfl⟩

theorem refSlice_yes {l vs : List Nat} (h : V l vs) (hl : l.length ≤ 1099511627776) (a b : Nat) (hab : a ≤ b) (hb : b ≤ vs.length) (w : World) :
    Calls Try.prog 25 #[.string (bstr l), .int .i64 (a : Int), .int .i64 (b : Int)] w fun e w' => e = .returned (.string (bstr (E ((vs.take b).drop a)))) ∧ w = w' := by
  have G1 := Lib.hid (fun w => refOffset_yes h hl a (by omega) w)
  have G2 := Lib.hid (fun w => refOffset_yes h hl b hb w)
  have h1 : (E (vs.take a)).length ≤ (E (vs.take b)).length := E_len_take vs a b hab
  have h2 : (E (vs.take b)).length ≤ l.length := by
    have := E_len_take vs b vs.length hb
    rw [List.take_length, h.bytes] at this
    exact this
  have hs := slice_bstr l _ _ h1 h2
  rw [← h.bytes, E_piece vs a b hab, h.bytes] at hs
  obtain ⟨p, HP⟩ : ∃ p, Hid ((E (vs.take a)).length = p) := ⟨_, rfl⟩
  obtain ⟨q, HQ⟩ : ∃ q, Hid ((E (vs.take b)).length = q) := ⟨_, rfl⟩
  rw [HP.out] at G1 hs h1
  rw [HQ.out] at G2 hs h2 h1
  clear h
  go_enter Try.func25, Try.ntmps25
  go_wp2_with fail
  refine (G1.out _).mono ?_
  rintro e w1 ⟨rfl, rfl⟩
  go_wp2_with fail
  refine (G2.out _).mono ?_
  rintro e w1 ⟨rfl, rfl⟩
  go_wp2
  go_ret
  exact ⟨rfl, rfl⟩
end Go.Proofs.Ytnadhpajelkngaa

/- The contract of the document's own Valid, over any bytes. Condition: no more than 2^40 bytes. -/
namespace Go.Proofs.Ytnadhpajelkngaa
open Go.RowKit Go.Deep

theorem refValid_any (l : List Nat) (hb : ∀ x ∈ l, x < 256) (hl : l.length ≤ 1099511627776) (w : World) :
    Calls Try.prog 22 #[.string (bstr l)] w fun e w' => e = .returned (.bool (validB l)) ∧ Below w.heap.size w w' := by
  have HP := Lib.hid (refPoints_any l hb hl w)
  obtain ⟨F, HF⟩ : ∃ F, Hid (validB l = F) := ⟨_, rfl⟩
  rw [HF.out]
  go_enter Try.func22, Try.ntmps22
  go_wp2_with fail
  refine HP.out.mono ?_
  rintro e w1 ⟨⟨vs, hv, A, c, rfl, _⟩ | ⟨hn, rfl⟩, hbel⟩
  · have e1 : Hid (F = true) := by show F = true; rw [← HF.out]; exact validB_yes hv
    clear hv
    go_wp2
    go_ret
    exact ⟨by rw [e1.out]; rfl, hbel⟩
  · have e1 : Hid (F = false) := by show F = false; rw [← HF.out]; exact validB_no hn
    clear hn
    go_wp2
    go_ret
    exact ⟨by rw [e1.out]; rfl, hbel⟩
end Go.Proofs.Ytnadhpajelkngaa
