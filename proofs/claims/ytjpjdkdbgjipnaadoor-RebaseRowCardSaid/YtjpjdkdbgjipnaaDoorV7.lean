/- The contract of the document's own reader of one code point, ropewalkref1.point: what 'st' says of the bytes from there on. Condition: no more than 2^40 bytes; the place is within. (Merged of 2 texts.) -/
import Derived.Test.YtjpjdkdbgjipnaaDoorV1
import Derived.Test.YtjpjdkdbgjipnaaDoorV45
namespace Go.Proofs.YtjpjdkdbgjipnaaDoor
open Go.RowKit Go.Deep
def nz (vs : List Nat) : List Int := vs.map fun v : Nat => (v : Int)
theorem yy173 (vs : List Nat) : (nz vs).length = vs.length := by simp [nz]
theorem yy722 (vs : List Nat) (v : Nat) : nz (vs ++ [v]) = nz vs ++ [(v : Int)] := by simp [nz]
theorem yy318 (vs : List Nat) : (E vs).length ≤ 4 * vs.length := by
 induction vs with
 | nil => rw [E_nil]; simp
 | cons v vs ih => rw [E_cons, List.length_append, List.length_cons]; have := enc_le v; omega
theorem V.length_le {l vs : List Nat} (h : V l vs) : vs.length ≤ l.length := by rw [← h.bytes]; exact yy149 vs
theorem yy723 : ∀ (n p le : Nat) (t : List Nat) (x : Nat × List Nat), fur n p le t = some x → n ≤ t.length := by
 intro n p le t x h
 obtain ⟨ds, h1, h2, _⟩ := yy181 n p le t x.1 x.2 h
 have := congrArg List.length h2
 rw [List.length_append] at this
 omega
theorem yy248 {n p le : Nat} {t : List Nat} (h : t.length < n) : fur n p le t = none := by
 cases hx : fur n p le t with
 | none => rfl
 | some x => have := yy723 _ _ _ _ _ hx; omega
theorem yy724 {p : Nat} {t : List Nat} (h : p < 2) : fur 1 p 128 t = none := by
 cases t with
 | nil => exact yy216 _ _ _
 | cons d t =>
  rw [yy58]
  split
  ·rw [yy43, if_pos (.inl (by omega))]
  ·rfl
theorem yy667 {p : Nat} {t : List Nat} (h : 5 ≤ p) : fur 3 p 65536 t = none := by
 cases hx : fur 3 p 65536 t with
 | none => rfl
 | some x =>
  obtain ⟨ds, h1, _, h3, h4, _, hm⟩ := yy181 _ _ _ _ _ _ hx
  match ds, h1 with
  | [d, e, f], _ =>
   simp only [List.foldl_cons, List.foldl_nil] at h4
   have := hm.le
   omega
def yy668 (r : List Nat) (e : Ending) : Prop :=
 (∃ v t, st r = some (v, t) ∧ e = .returned (.tuple #[.int .i64 ((v : Nat) : Int), .int .i64 (((enc v).length : Nat) : Int)])) ∨ (st r = none ∧ e = .returned (.tuple #[.int .i64 0, .int .i64 0]))
set_option maxHeartbeats 4000000 in
set_option maxRecDepth 100000 in
theorem yy124 (l : List Nat) (hb : ∀ x ∈ l, x < 256) (hl : l.length ≤ 1099511627776) (i : Nat) (hi : i < l.length) (w : World) :
  Calls Tryd.prog 70 #[.string (bstr l), .int .i64 (i : Int)] w fun e w' => yy668 (l.drop i) e ∧ w = w' := by
 have HB := xh hb; clear hb
 have HD := xh (bstr_size l)
 obtain ⟨c, t, hd0⟩ : ∃ c t, l.drop i = c :: t := ⟨l[i], l.drop (i + 1), List.drop_eq_getElem_cons hi⟩
 have hix := fun w => byte_at HB.out hd0 w
 have hc256 : c < 256 := HB.out c (List.mem_of_mem_drop (by rw [hd0]; exact List.mem_cons_self ..))
 have HDR : Hid (l.drop (i + 1) = t) := by show l.drop (i + 1) = t; rw [← List.drop_drop, hd0]; rfl
 have HLT : Hid (t.length + i + 1 = l.length) := by
  show t.length + i + 1 = l.length
  have := congrArg List.length hd0
  rw [List.length_drop, List.length_cons] at this
  omega
 rw [hd0]
 have HD0 := xh hd0; clear hd0
 have hsz := HD.out
 by_cases h1 : c < 128
 ·by_cases h0 : 1 ≤ c
  ·have HS : Hid (st (c :: t) = some (c, t)) := by show _ = _; rw [yy46, if_pos h1, yy43, if_neg (fur_ok (by unfold May; omega) (by omega))]
   have HE : Hid ((enc c).length = 1) := by show _ = _; rw [yy128, if_pos h1]
   go_enter Tryd.func70, Tryd.ntmps70
   go_wp2
   go_ret2
   exact ⟨.inl ⟨c, t, HS.out, by rw [HE.out]; rfl⟩, rfl⟩
  ·obtain rfl : c = 0 := by omega
   have HS : Hid (st (0 :: t) = none) := by show _ = _; rw [yy46, if_pos h1, yy43, if_pos (.inr (by unfold May; omega))]
   go_enter Tryd.func70, Tryd.ntmps70
   go_wp2
   go_ret2
   exact ⟨.inr ⟨HS.out, rfl⟩, rfl⟩
 by_cases h2 : c < 194
 ·have HS : Hid (st (c :: t) = none) := by
   show _ = _
   rw [yy46, if_neg h1]
   split
   ·rfl
   ·rw [if_pos (by omega), yy724 (by omega)]
  have h3 : ¬ 224 ≤ c := by omega
  have h4 : ¬ 240 ≤ c := by omega
  go_enter Tryd.func70, Tryd.ntmps70
  go_wp2
  go_ret2
  exact ⟨.inr ⟨HS.out, rfl⟩, rfl⟩
 by_cases h5 : 245 ≤ c
 ·have HS : Hid (st (c :: t) = none) := by
   show _ = _
   rw [yy46, if_neg h1, if_neg (by omega), if_neg (by omega), if_neg (by omega)]
   split
   ·rw [yy667 (by omega)]
   ·rfl
  have h3 : ¬ c < 224 := by omega
  have h4 : ¬ c < 240 := by omega
  go_enter Tryd.func70, Tryd.ntmps70
  go_wp2
  go_ret2
  exact ⟨.inr ⟨HS.out, rfl⟩, rfl⟩
 by_cases h6 : c < 224
 ·have HS : Hid (st (c :: t) = fur 1 (c % 32) 128 t) := by show _ = _; rw [yy46, if_neg (by omega), if_neg (by omega), if_pos (by omega)]
  have hcl : 194 ≤ c := by omega
  have hcu : c < 245 := by omega
  obtain ⟨z, HZ⟩ : ∃ z, Hid (z = c % 32) := ⟨_, rfl⟩
  have hand0 : bits BinOp.and IntKind.i64 (c : Int) 31 = (z : Int) := by rw [HZ.out]; exact band64 c 5 (by omega) (by omega)
  by_cases hsh : t.length < 1
  ·have HN : Hid (st (c :: t) = none) := by show _ = _; rw [HS.out, yy248 hsh]
   have hsh2 : l.length - i < 2 := by have := HLT.out; omega
   go_enter Tryd.func70, Tryd.ntmps70
   go_wp2
   go_ret2
   exact ⟨.inr ⟨HN.out, rfl⟩, rfl⟩
  have hsh2 : ¬ l.length - i < 2 := by have := HLT.out; omega
  have hin : i + 2 ≤ l.length := by omega
  go_enter Tryd.func70, Tryd.ntmps70
  go_wp2
  clear hix hand0
  go_loop [4, 5, 8, 10] (fun _ _ v k => ∃ (q p : Nat), 1 ≤ q ∧ q ≤ 2 ∧ k = .int .i64 (q : Int) ∧ v = .int .i64 (p : Int) ∧ (p + 1) * 64 ^ (2 - q) ≤ 2097152 ∧ Hid (st (c :: t) = fur (2 - q) p 128 (l.drop (i + q)))) (fun _ _ _ k => 2 - (intOf k).toNat)
  case atStart => exact ⟨1, z, by omega, by omega, rfl, rfl, by rw [HZ.out]; simp only [Nat.reduceSub, Nat.reducePow]; omega, by show _ = _; rw [HS.out, HDR.out, HZ.out]⟩
  case round =>
   obtain ⟨q, p, hq1, hqn, rfl, rfl, hp, HQ⟩ := hrel
   by_cases hq : q < 2
   ·obtain ⟨m, HM⟩ : ∃ m, Hid (2 - q = m + 1) := ⟨2 - q - 1, by show 2 - q = 2 - q - 1 + 1; omega⟩
    have hp3 : p < 32768 := by
     have e : 64 ^ (2 - q) = 64 * 64 ^ m := by rw [HM.out, Nat.pow_succ, Nat.mul_comm]
     rw [e] at hp
     have : 0 < 64 ^ m := Nat.pow_pos (by omega)
     have h64 : (p + 1) * 64 ≤ (p + 1) * (64 * 64 ^ m) := Nat.mul_le_mul_left _ (by omega)
     omega
    obtain ⟨d, u, hdu⟩ : ∃ d u, l.drop (i + q) = d :: u := ⟨l[i + q], l.drop (i + q + 1), List.drop_eq_getElem_cons (by omega)⟩
    have hid := fun w => byte_at HB.out hdu w
    have hid' : ∀ w, (Instr.index 9 (.string (bstr l)) (.int .i64 ((i : Int) + (q : Int)))).run Tryd.prog w = .ok (.int .u8 (d : Int)) w := by
     intro w
     have := hid w
     rw [Int.natCast_add] at this
     exact this
    clear hid
    have hd256 : d < 256 := HB.out d (List.mem_of_mem_drop (by rw [hdu]; exact List.mem_cons_self ..))
    rw [HM.out, hdu, yy58] at HQ
    have HU : Hid (l.drop (i + (q + 1)) = u) := by show l.drop (i + (q + 1)) = u; rw [← Nat.add_assoc, ← List.drop_drop, hdu]; rfl
    clear hdu
    by_cases hd : d / 64 = 2
    ·obtain ⟨x, HX⟩ : ∃ x, Hid (x = p * 64 + d % 64) := ⟨_, rfl⟩
     obtain ⟨y, HY⟩ : ∃ y, Hid (y = d % 64) := ⟨_, rfl⟩
     have hand : bits BinOp.and IntKind.i64 (d : Int) 63 = (y : Int) := by rw [HY.out]; exact band64 d 6 (by omega) (by omega)
     have hor := bor6 p d hp3
     rw [show ((d : Int) % 64) = (y : Int) by rw [HY.out]; omega, ← HX.out] at hor
     have hd1 : 128 ≤ d := by omega
     have hd2 : d ≤ 191 := by omega
     have HP : Hid ((x + 1) * 64 ^ (2 - (q + 1)) ≤ 2097152) := by
      show (x + 1) * 64 ^ (2 - (q + 1)) ≤ 2097152
      have e : 2 - (q + 1) = m := by have := HM.out; omega
      rw [e]
      rw [HM.out, Nat.pow_succ] at hp
      have h1 : (x + 1) * 64 ^ m ≤ ((p + 1) * 64) * 64 ^ m := Nat.mul_le_mul_right _ (by rw [HX.out]; omega)
      have h2 : ((p + 1) * 64) * 64 ^ m = (p + 1) * (64 ^ m * 64) := by rw [Nat.mul_assoc, Nat.mul_comm 64]
      omega
     have HQ2 : Hid (st (c :: t) = fur (2 - (q + 1)) x 128 (l.drop (i + (q + 1)))) := by
      show _ = _
      rw [HQ.out, if_pos hd, ← HX.out, HU.out, show 2 - (q + 1) = m by have := HM.out; omega]
     clear hp
     go_wp2
     go_round
     case rel => exact ⟨_, _, _, _, ⟨q + 1, by omega, by omega, rfl, x, rfl, HP.out, HQ2.out⟩, rfl, rfl, rfl, by simp⟩
     case measure => simp [intOf]; omega
    ·have HN : Hid (st (c :: t) = none) := by show _ = _; rw [HQ.out, if_neg hd]
     clear hp
     by_cases hd1 : d < 128
     ·go_wp2
      go_ret2
      exact ⟨.inr ⟨HN.out, rfl⟩, rfl⟩
     ·have hd2 : 191 < d := by omega
      go_wp2
      go_ret2
      exact ⟨.inr ⟨HN.out, rfl⟩, rfl⟩
   ·obtain rfl : q = 2 := by omega
    rw [Nat.sub_self, yy43] at HQ
    have hp2 : p ≤ 2097152 := by rw [Nat.sub_self] at hp; omega
    clear hp
    by_cases hpl : p < 128
    ·have HN : Hid (st (c :: t) = none) := by show _ = _; rw [HQ.out, if_pos (.inl hpl)]
     go_wp2
     go_ret2
     exact ⟨.inr ⟨HN.out, rfl⟩, rfl⟩
    by_cases hps : 55296 ≤ p
    ·by_cases hps2 : p < 57344
     ·have HN : Hid (st (c :: t) = none) := by show _ = _; rw [HQ.out, if_pos (.inr (by unfold May; omega))]
      go_wp2
      go_ret2
      exact ⟨.inr ⟨HN.out, rfl⟩, rfl⟩
     ·by_cases hpm : 1114111 < p
      ·have HN : Hid (st (c :: t) = none) := by show _ = _; rw [HQ.out, if_pos (.inr (by unfold May; omega))]
       go_wp2
       go_ret2
       exact ⟨.inr ⟨HN.out, rfl⟩, rfl⟩
      ·have HN : Hid (st (c :: t) = some (p, l.drop (i + 2))) := by show _ = _; rw [HQ.out, if_neg (fur_ok (by unfold May; omega) (by omega))]
       have HE : Hid ((enc p).length = 2) := by
        show _ = _
        have h3 := congrArg List.length (yy129 HN.out).2
        rw [List.length_append, List.length_cons, List.length_drop] at h3
        have := HLT.out
        omega
       go_wp2
       go_ret2
       exact ⟨.inl ⟨p, _, HN.out, by rw [HE.out]; rfl⟩, rfl⟩
    ·have hpm : ¬ 1114111 < p := by omega
     have HN : Hid (st (c :: t) = some (p, l.drop (i + 2))) := by show _ = _; rw [HQ.out, if_neg (fur_ok (by unfold May; omega) (by omega))]
     have HE : Hid ((enc p).length = 2) := by
      show _ = _
      have h3 := congrArg List.length (yy129 HN.out).2
      rw [List.length_append, List.length_cons, List.length_drop] at h3
      have := HLT.out
      omega
     go_wp2
     go_ret2
     exact ⟨.inl ⟨p, _, HN.out, by rw [HE.out]; rfl⟩, rfl⟩
 by_cases h7 : c < 240
 ·have HS : Hid (st (c :: t) = fur 2 (c % 16) 2048 t) := by show _ = _; rw [yy46, if_neg (by omega), if_neg (by omega), if_neg (by omega), if_pos (by omega)]
  have hcl : 194 ≤ c := by omega
  have hcu : c < 245 := by omega
  have h8 : 224 ≤ c := by omega
  obtain ⟨z, HZ⟩ : ∃ z, Hid (z = c % 16) := ⟨_, rfl⟩
  have hand0 : bits BinOp.and IntKind.i64 (c : Int) 15 = (z : Int) := by rw [HZ.out]; exact band64 c 4 (by omega) (by omega)
  by_cases hsh : t.length < 2
  ·have HN : Hid (st (c :: t) = none) := by show _ = _; rw [HS.out, yy248 hsh]
   have hsh2 : l.length - i < 3 := by have := HLT.out; omega
   go_enter Tryd.func70, Tryd.ntmps70
   go_wp2
   go_ret2
   exact ⟨.inr ⟨HN.out, rfl⟩, rfl⟩
  have hsh2 : ¬ l.length - i < 3 := by have := HLT.out; omega
  have hin : i + 3 ≤ l.length := by omega
  go_enter Tryd.func70, Tryd.ntmps70
  go_wp2
  clear hix hand0
  go_loop [4, 5, 8, 10] (fun _ _ v k => ∃ (q p : Nat), 1 ≤ q ∧ q ≤ 3 ∧ k = .int .i64 (q : Int) ∧ v = .int .i64 (p : Int) ∧ (p + 1) * 64 ^ (3 - q) ≤ 2097152 ∧ Hid (st (c :: t) = fur (3 - q) p 2048 (l.drop (i + q)))) (fun _ _ _ k => 3 - (intOf k).toNat)
  case atStart => exact ⟨1, z, by omega, by omega, rfl, rfl, by rw [HZ.out]; simp only [Nat.reduceSub, Nat.reducePow]; omega, by show _ = _; rw [HS.out, HDR.out, HZ.out]⟩
  case round =>
   obtain ⟨q, p, hq1, hqn, rfl, rfl, hp, HQ⟩ := hrel
   by_cases hq : q < 3
   ·obtain ⟨m, HM⟩ : ∃ m, Hid (3 - q = m + 1) := ⟨3 - q - 1, by show 3 - q = 3 - q - 1 + 1; omega⟩
    have hp3 : p < 32768 := by
     have e : 64 ^ (3 - q) = 64 * 64 ^ m := by rw [HM.out, Nat.pow_succ, Nat.mul_comm]
     rw [e] at hp
     have : 0 < 64 ^ m := Nat.pow_pos (by omega)
     have h64 : (p + 1) * 64 ≤ (p + 1) * (64 * 64 ^ m) := Nat.mul_le_mul_left _ (by omega)
     omega
    obtain ⟨d, u, hdu⟩ : ∃ d u, l.drop (i + q) = d :: u := ⟨l[i + q], l.drop (i + q + 1), List.drop_eq_getElem_cons (by omega)⟩
    have hid := fun w => byte_at HB.out hdu w
    have hid' : ∀ w, (Instr.index 9 (.string (bstr l)) (.int .i64 ((i : Int) + (q : Int)))).run Tryd.prog w = .ok (.int .u8 (d : Int)) w := by
     intro w
     have := hid w
     rw [Int.natCast_add] at this
     exact this
    clear hid
    have hd256 : d < 256 := HB.out d (List.mem_of_mem_drop (by rw [hdu]; exact List.mem_cons_self ..))
    rw [HM.out, hdu, yy58] at HQ
    have HU : Hid (l.drop (i + (q + 1)) = u) := by show l.drop (i + (q + 1)) = u; rw [← Nat.add_assoc, ← List.drop_drop, hdu]; rfl
    clear hdu
    by_cases hd : d / 64 = 2
    ·obtain ⟨x, HX⟩ : ∃ x, Hid (x = p * 64 + d % 64) := ⟨_, rfl⟩
     obtain ⟨y, HY⟩ : ∃ y, Hid (y = d % 64) := ⟨_, rfl⟩
     have hand : bits BinOp.and IntKind.i64 (d : Int) 63 = (y : Int) := by rw [HY.out]; exact band64 d 6 (by omega) (by omega)
     have hor := bor6 p d hp3
     rw [show ((d : Int) % 64) = (y : Int) by rw [HY.out]; omega, ← HX.out] at hor
     have hd1 : 128 ≤ d := by omega
     have hd2 : d ≤ 191 := by omega
     have HP : Hid ((x + 1) * 64 ^ (3 - (q + 1)) ≤ 2097152) := by
      show (x + 1) * 64 ^ (3 - (q + 1)) ≤ 2097152
      have e : 3 - (q + 1) = m := by have := HM.out; omega
      rw [e]
      rw [HM.out, Nat.pow_succ] at hp
      have h1 : (x + 1) * 64 ^ m ≤ ((p + 1) * 64) * 64 ^ m := Nat.mul_le_mul_right _ (by rw [HX.out]; omega)
      have h2 : ((p + 1) * 64) * 64 ^ m = (p + 1) * (64 ^ m * 64) := by rw [Nat.mul_assoc, Nat.mul_comm 64]
      omega
     have HQ2 : Hid (st (c :: t) = fur (3 - (q + 1)) x 2048 (l.drop (i + (q + 1)))) := by
      show _ = _
      rw [HQ.out, if_pos hd, ← HX.out, HU.out, show 3 - (q + 1) = m by have := HM.out; omega]
     clear hp
     go_wp2
     go_round
     case rel => exact ⟨_, _, _, _, ⟨q + 1, by omega, by omega, rfl, x, rfl, HP.out, HQ2.out⟩, rfl, rfl, rfl, by simp⟩
     case measure => simp [intOf]; omega
    ·have HN : Hid (st (c :: t) = none) := by show _ = _; rw [HQ.out, if_neg hd]
     clear hp
     by_cases hd1 : d < 128
     ·go_wp2
      go_ret2
      exact ⟨.inr ⟨HN.out, rfl⟩, rfl⟩
     ·have hd2 : 191 < d := by omega
      go_wp2
      go_ret2
      exact ⟨.inr ⟨HN.out, rfl⟩, rfl⟩
   ·obtain rfl : q = 3 := by omega
    rw [Nat.sub_self, yy43] at HQ
    have hp2 : p ≤ 2097152 := by rw [Nat.sub_self] at hp; omega
    clear hp
    by_cases hpl : p < 2048
    ·have HN : Hid (st (c :: t) = none) := by show _ = _; rw [HQ.out, if_pos (.inl hpl)]
     go_wp2
     go_ret2
     exact ⟨.inr ⟨HN.out, rfl⟩, rfl⟩
    by_cases hps : 55296 ≤ p
    ·by_cases hps2 : p < 57344
     ·have HN : Hid (st (c :: t) = none) := by show _ = _; rw [HQ.out, if_pos (.inr (by unfold May; omega))]
      go_wp2
      go_ret2
      exact ⟨.inr ⟨HN.out, rfl⟩, rfl⟩
     ·by_cases hpm : 1114111 < p
      ·have HN : Hid (st (c :: t) = none) := by show _ = _; rw [HQ.out, if_pos (.inr (by unfold May; omega))]
       go_wp2
       go_ret2
       exact ⟨.inr ⟨HN.out, rfl⟩, rfl⟩
      ·have HN : Hid (st (c :: t) = some (p, l.drop (i + 3))) := by show _ = _; rw [HQ.out, if_neg (fur_ok (by unfold May; omega) (by omega))]
       have HE : Hid ((enc p).length = 3) := by
        show _ = _
        have h3 := congrArg List.length (yy129 HN.out).2
        rw [List.length_append, List.length_cons, List.length_drop] at h3
        have := HLT.out
        omega
       go_wp2
       go_ret2
       exact ⟨.inl ⟨p, _, HN.out, by rw [HE.out]; rfl⟩, rfl⟩
    ·have hpm : ¬ 1114111 < p := by omega
     have HN : Hid (st (c :: t) = some (p, l.drop (i + 3))) := by show _ = _; rw [HQ.out, if_neg (fur_ok (by unfold May; omega) (by omega))]
     have HE : Hid ((enc p).length = 3) := by
      show _ = _
      have h3 := congrArg List.length (yy129 HN.out).2
      rw [List.length_append, List.length_cons, List.length_drop] at h3
      have := HLT.out
      omega
     go_wp2
     go_ret2
     exact ⟨.inl ⟨p, _, HN.out, by rw [HE.out]; rfl⟩, rfl⟩
 ·have HS : Hid (st (c :: t) = fur 3 (c % 8) 65536 t) := by show _ = _; rw [yy46, if_neg (by omega), if_neg (by omega), if_neg (by omega), if_neg (by omega), if_pos (by omega)]
  have hcl : 194 ≤ c := by omega
  have hcu : c < 245 := by omega
  have h8 : 240 ≤ c := by omega
  obtain ⟨z, HZ⟩ : ∃ z, Hid (z = c % 8) := ⟨_, rfl⟩
  have hand0 : bits BinOp.and IntKind.i64 (c : Int) 7 = (z : Int) := by rw [HZ.out]; exact band64 c 3 (by omega) (by omega)
  by_cases hsh : t.length < 3
  ·have HN : Hid (st (c :: t) = none) := by show _ = _; rw [HS.out, yy248 hsh]
   have hsh2 : l.length - i < 4 := by have := HLT.out; omega
   go_enter Tryd.func70, Tryd.ntmps70
   go_wp2
   go_ret2
   exact ⟨.inr ⟨HN.out, rfl⟩, rfl⟩
  have hsh2 : ¬ l.length - i < 4 := by have := HLT.out; omega
  have hin : i + 4 ≤ l.length := by omega
  go_enter Tryd.func70, Tryd.ntmps70
  go_wp2
  clear hix hand0
  go_loop [4, 5, 8, 10] (fun _ _ v k => ∃ (q p : Nat), 1 ≤ q ∧ q ≤ 4 ∧ k = .int .i64 (q : Int) ∧ v = .int .i64 (p : Int) ∧ (p + 1) * 64 ^ (4 - q) ≤ 2097152 ∧ Hid (st (c :: t) = fur (4 - q) p 65536 (l.drop (i + q)))) (fun _ _ _ k => 4 - (intOf k).toNat)
  case atStart => exact ⟨1, z, by omega, by omega, rfl, rfl, by rw [HZ.out]; simp only [Nat.reduceSub, Nat.reducePow]; omega, by show _ = _; rw [HS.out, HDR.out, HZ.out]⟩
  case round =>
   obtain ⟨q, p, hq1, hqn, rfl, rfl, hp, HQ⟩ := hrel
   by_cases hq : q < 4
   ·obtain ⟨m, HM⟩ : ∃ m, Hid (4 - q = m + 1) := ⟨4 - q - 1, by show 4 - q = 4 - q - 1 + 1; omega⟩
    have hp3 : p < 32768 := by
     have e : 64 ^ (4 - q) = 64 * 64 ^ m := by rw [HM.out, Nat.pow_succ, Nat.mul_comm]
     rw [e] at hp
     have : 0 < 64 ^ m := Nat.pow_pos (by omega)
     have h64 : (p + 1) * 64 ≤ (p + 1) * (64 * 64 ^ m) := Nat.mul_le_mul_left _ (by omega)
     omega
    obtain ⟨d, u, hdu⟩ : ∃ d u, l.drop (i + q) = d :: u := ⟨l[i + q], l.drop (i + q + 1), List.drop_eq_getElem_cons (by omega)⟩
    have hid := fun w => byte_at HB.out hdu w
    have hid' : ∀ w, (Instr.index 9 (.string (bstr l)) (.int .i64 ((i : Int) + (q : Int)))).run Tryd.prog w = .ok (.int .u8 (d : Int)) w := by
     intro w
     have := hid w
     rw [Int.natCast_add] at this
     exact this
    clear hid
    have hd256 : d < 256 := HB.out d (List.mem_of_mem_drop (by rw [hdu]; exact List.mem_cons_self ..))
    rw [HM.out, hdu, yy58] at HQ
    have HU : Hid (l.drop (i + (q + 1)) = u) := by show l.drop (i + (q + 1)) = u; rw [← Nat.add_assoc, ← List.drop_drop, hdu]; rfl
    clear hdu
    by_cases hd : d / 64 = 2
    ·obtain ⟨x, HX⟩ : ∃ x, Hid (x = p * 64 + d % 64) := ⟨_, rfl⟩
     obtain ⟨y, HY⟩ : ∃ y, Hid (y = d % 64) := ⟨_, rfl⟩
     have hand : bits BinOp.and IntKind.i64 (d : Int) 63 = (y : Int) := by rw [HY.out]; exact band64 d 6 (by omega) (by omega)
     have hor := bor6 p d hp3
     rw [show ((d : Int) % 64) = (y : Int) by rw [HY.out]; omega, ← HX.out] at hor
     have hd1 : 128 ≤ d := by omega
     have hd2 : d ≤ 191 := by omega
     have HP : Hid ((x + 1) * 64 ^ (4 - (q + 1)) ≤ 2097152) := by
      show (x + 1) * 64 ^ (4 - (q + 1)) ≤ 2097152
      have e : 4 - (q + 1) = m := by have := HM.out; omega
      rw [e]
      rw [HM.out, Nat.pow_succ] at hp
      have h1 : (x + 1) * 64 ^ m ≤ ((p + 1) * 64) * 64 ^ m := Nat.mul_le_mul_right _ (by rw [HX.out]; omega)
      have h2 : ((p + 1) * 64) * 64 ^ m = (p + 1) * (64 ^ m * 64) := by rw [Nat.mul_assoc, Nat.mul_comm 64]
      omega
     have HQ2 : Hid (st (c :: t) = fur (4 - (q + 1)) x 65536 (l.drop (i + (q + 1)))) := by
      show _ = _
      rw [HQ.out, if_pos hd, ← HX.out, HU.out, show 4 - (q + 1) = m by have := HM.out; omega]
     clear hp
     go_wp2
     go_round
     case rel => exact ⟨_, _, _, _, ⟨q + 1, by omega, by omega, rfl, x, rfl, HP.out, HQ2.out⟩, rfl, rfl, rfl, by simp⟩
     case measure => simp [intOf]; omega
    ·have HN : Hid (st (c :: t) = none) := by show _ = _; rw [HQ.out, if_neg hd]
     clear hp
     by_cases hd1 : d < 128
     ·go_wp2
      go_ret2
      exact ⟨.inr ⟨HN.out, rfl⟩, rfl⟩
     ·have hd2 : 191 < d := by omega
      go_wp2
      go_ret2
      exact ⟨.inr ⟨HN.out, rfl⟩, rfl⟩
   ·obtain rfl : q = 4 := by omega
    rw [Nat.sub_self, yy43] at HQ
    have hp2 : p ≤ 2097152 := by rw [Nat.sub_self] at hp; omega
    clear hp
    by_cases hpl : p < 65536
    ·have HN : Hid (st (c :: t) = none) := by show _ = _; rw [HQ.out, if_pos (.inl hpl)]
     go_wp2
     go_ret2
     exact ⟨.inr ⟨HN.out, rfl⟩, rfl⟩
    have hps : 55296 ≤ p := by omega
    have hps2 : ¬ p < 57344 := by omega
    by_cases hpm : 1114111 < p
    ·have HN : Hid (st (c :: t) = none) := by show _ = _; rw [HQ.out, if_pos (.inr (by unfold May; omega))]
     go_wp2
     go_ret2
     exact ⟨.inr ⟨HN.out, rfl⟩, rfl⟩
    ·have HN : Hid (st (c :: t) = some (p, l.drop (i + 4))) := by show _ = _; rw [HQ.out, if_neg (fur_ok (by unfold May; omega) (by omega))]
     have HE : Hid ((enc p).length = 4) := by
      show _ = _
      have h3 := congrArg List.length (yy129 HN.out).2
      rw [List.length_append, List.length_cons, List.length_drop] at h3
      have := HLT.out
      omega
     go_wp2
     go_ret2
     exact ⟨.inl ⟨p, _, HN.out, by rw [HE.out]; rfl⟩, rfl⟩
end Go.Proofs.YtjpjdkdbgjipnaaDoor
