/- The statement's own 'named': the edit whose Inserts have characters of their own. Condition: a checked edit, what memory may hold. (Merged of 2 texts.) -/
import Derived.Test.YtakdcfjlhpponaaKUm
import Derived.Test.YtakdcfjlhpponaaKBase
import Derived.Test.YtakdcfjlhpponaaKXk
import Derived.Test.YtakdcfjlhpponaaKKm
import Derived.Test.YtakdcfjlhpponaaKTm
/- The contract of the document's own Text, over any ints. Condition: no more than 2^30 ints. -/
namespace Go.Proofs.Ytakdcfjlhpponaa
open Go.RowKit Go.Deep

set_option maxHeartbeats 1000000 in
set_option maxRecDepth 100000 in
theorem refText_any {A : Option Addr} {l : List Int} (c : Nat) (hl : l.length ≤ 1073741824) (w : World) (hA : IntsAt w A l) :
    Calls Try.prog 19 #[.slice A l.length c] w fun e w' =>
      ((∃ vs, VZ l vs ∧ e = .returned (.tuple #[.string (bstr (E vs)), .bool true])) ∨ ((¬ ∃ vs, VZ l vs) ∧ e = .returned (.tuple #[.string (bstr []), .bool false]))) ∧ Below w.heap.size w w' := by
  have HA := Lib.hid hA; clear hA
  go_enter Try.func19, Try.ntmps19
  go_wp2
  go_loopw [4, 5] (fun v i wr => ∃ k : Nat, k ≤ l.length ∧ i = .int .i64 k ∧ TextRel w l k v wr) (fun _ i _ => l.length - (intOf i).toNat)
  case atStart => exact ⟨0, Nat.zero_le _, rfl, TextRel.start w l⟩
  case round =>
    obtain ⟨k, hk, rfl, vs, hvs, hown, hbel⟩ := hrel
    have HOWN := Lib.hid hown; clear hown
    have HBEL := Lib.hid hbel; clear hbel
    have HVS := Lib.hid hvs; clear hvs
    obtain ⟨A4, c4, rfl⟩ := own_slice HOWN.out
    by_cases hlt : k < l.length
    · obtain ⟨b, bo, rfl, _⟩ := HA.out.form (by omega)
      have hcell := (HA.out.below HBEL.out).cell hlt
      obtain ⟨x, HX⟩ : ∃ x, Hid (l[k] = x) := ⟨l[k], Lib.hid rfl⟩
      rw [HX.out] at hcell
      by_cases hx : 0 < x ∧ x ≤ 1114111 ∧ (x < 55296 ∨ 57343 < x)
      · obtain ⟨p, hxp⟩ := Int.eq_ofNat_of_zero_le (show 0 ≤ x by omega)
        have HXP := Lib.hid hxp
        have HP : Hid (May p) := by show May p; unfold May; omega
        have hp0 : ¬ x < 1 := by omega
        have hp1 : ¬ 1114111 < x := by omega
        have HSUR : Hid (p < 55296 ∨ 57344 ≤ p) := by show _ ∨ _; omega
        have hpm : p ≤ 1114111 := by omega
        clear hx hxp
        have HL4 : Hid ((E vs).length + 4 ≤ 70368744177664) := by
          show (E vs).length + 4 ≤ 70368744177664
          have h1 := E_length_le4 vs
          have h2 := HVS.out.length
          rw [List.length_take] at h2
          omega
        have HN : Hid (VZ (l.take (k + 1)) (vs ++ [p])) := by
          show VZ (l.take (k + 1)) (vs ++ [p])
          rw [List.take_succ_eq_append_getElem hlt, HX.out, HXP.out]
          exact HVS.out.snoc HP.out
        by_cases h1 : p < 128
        · have hsur : p < 55296 := by omega
          obtain rfl := HXP.out
          have HE : Hid (enc p = [p]) := by
            show _ = _
            rw [enc_def, if_pos h1]
          go_wp2_with (at_builtin
                       refine wpList_append_bytes rfl (.tmp 56) (.tmp 59) rfl w.heap.size (.slice A4 (E vs).length c4) (E vs).length (E vs) rfl (HOWN.out.alloc _) (some ⟨wr.heap.size, 0, none⟩) [p] 1 rfl (BytesAt.lit (fun j x hj => ?_) rfl) (by have := HL4.out; simp; omega) (by have := HBEL.out.size; simp; omega) ?_)
          · match j, hj with
            | 0, hj => simp at hj; subst hj; rfl
            | (j + 1), hj => simp at hj
          intro v1 w1 hap
          have HB1 := Lib.hid (hap.below ((HBEL.out.alloc HBEL.out.size _)) (by have := HBEL.out.size; simp; omega) (fun j hj => (HOWN.out.lt j hj).1)).1
          have HOWN1 := Lib.hid hap.1
          rw [← HE.out, ← E_snoc, show (E vs).length + (enc p).length = (E (vs ++ [p])).length by rw [E_snoc, List.length_append]] at HOWN1
          clear hap
          go_wp2
          go_roundw
          case rel => exact ⟨k + 1, by omega, by go_num, vs ++ [p], HN.out, HOWN1.out, HB1.out⟩
          case measure => simp [intOf]; omega
        by_cases h2 : p < 2048
        · have hsur : p < 55296 := by omega
          obtain rfl := HXP.out
          obtain ⟨x1, HX1⟩ : ∃ x, Hid (x = 192 + p / 64) := ⟨_, rfl⟩
          have o1 : bits BinOp.or IntKind.i64 192 ((p : Int) / 64) = (x1 : Int) := by rw [HX1.out, ← or192 (p / 64) (by omega)]; rfl
          obtain ⟨m1, HM1⟩ : ∃ x, Hid (x = p % 64) := ⟨_, rfl⟩
          have a1 : bits BinOp.and IntKind.i64 (p : Int) 63 = (m1 : Int) := by rw [HM1.out]; exact and63 p (by omega)
          obtain ⟨x2, HX2⟩ : ∃ x, Hid (x = 128 + m1) := ⟨_, rfl⟩
          have o2 : bits BinOp.or IntKind.i64 128 (m1 : Int) = (x2 : Int) := by rw [HX2.out]; exact or128 m1 (by rw [HM1.out]; omega)
          have b1 : x1 < 256 := by rw [HX1.out]; omega
          have b2 : x2 < 256 := by rw [HX2.out, HM1.out]; omega
          have HE : Hid (enc p = [x1, x2]) := by
            show _ = _
            rw [enc_def, if_neg h1, if_pos h2, HX1.out, HX2.out, HM1.out]
          go_wp2_with (at_builtin
                       refine wpList_append_bytes rfl (.tmp 64) (.tmp 73) rfl w.heap.size (.slice A4 (E vs).length c4) (E vs).length (E vs) rfl (HOWN.out.alloc _) (some ⟨wr.heap.size, 0, none⟩) [x1, x2] 2 rfl (BytesAt.lit (fun j x hj => ?_) rfl) (by have := HL4.out; simp; omega) (by have := HBEL.out.size; simp; omega) ?_)
          · match j, hj with
            | 0, hj => simp at hj; subst hj; rfl
            | 1, hj => simp at hj; subst hj; rfl
            | (j + 2), hj => simp at hj
          intro v1 w1 hap
          have HB1 := Lib.hid (hap.below ((HBEL.out.alloc HBEL.out.size _)) (by have := HBEL.out.size; simp; omega) (fun j hj => (HOWN.out.lt j hj).1)).1
          have HOWN1 := Lib.hid hap.1
          rw [← HE.out, ← E_snoc, show (E vs).length + (enc p).length = (E (vs ++ [p])).length by rw [E_snoc, List.length_append]] at HOWN1
          clear hap
          go_wp2
          go_roundw
          case rel => exact ⟨k + 1, by omega, by go_num, vs ++ [p], HN.out, HOWN1.out, HB1.out⟩
          case measure => simp [intOf]; omega
        by_cases h3 : p < 65536
        · by_cases hsur : p < 55296
          · have gx0 : x < 55296 := by rw [HXP.out]; omega
            have gx1 : ¬ x < 128 := by rw [HXP.out]; omega
            have gx2 : ¬ x < 2048 := by rw [HXP.out]; omega
            have gx3 : x < 65536 := by rw [HXP.out]; omega
            obtain ⟨x1, HX1⟩ : ∃ x, Hid (x = 224 + p / 4096) := ⟨_, rfl⟩
            have o1 : bits BinOp.or IntKind.i64 224 (x / 4096) = (x1 : Int) := by rw [HX1.out, ← or224 (p / 4096) (by omega), HXP.out]; rfl
            obtain ⟨m1, HM1⟩ : ∃ x, Hid (x = p / 64 % 64) := ⟨_, rfl⟩
            have a1 : bits BinOp.and IntKind.i64 (x / 64) 63 = (m1 : Int) := by rw [HM1.out, HXP.out]; exact and63 (p / 64) (by omega)
            obtain ⟨x2, HX2⟩ : ∃ x, Hid (x = 128 + m1) := ⟨_, rfl⟩
            have o2 : bits BinOp.or IntKind.i64 128 (m1 : Int) = (x2 : Int) := by rw [HX2.out]; exact or128 m1 (by rw [HM1.out]; omega)
            obtain ⟨m2, HM2⟩ : ∃ x, Hid (x = p % 64) := ⟨_, rfl⟩
            have a2 : bits BinOp.and IntKind.i64 x 63 = (m2 : Int) := by rw [HM2.out, HXP.out]; exact and63 p (by omega)
            obtain ⟨x3, HX3⟩ : ∃ x, Hid (x = 128 + m2) := ⟨_, rfl⟩
            have o3 : bits BinOp.or IntKind.i64 128 (m2 : Int) = (x3 : Int) := by rw [HX3.out]; exact or128 m2 (by rw [HM2.out]; omega)
            have b1 : x1 < 256 := by rw [HX1.out]; omega
            have b2 : x2 < 256 := by rw [HX2.out, HM1.out]; omega
            have b3 : x3 < 256 := by rw [HX3.out, HM2.out]; omega
            have HE : Hid (enc p = [x1, x2, x3]) := by
              show _ = _
              rw [enc_def, if_neg h1, if_neg h2, if_pos h3, HX1.out, HX2.out, HM1.out, HX3.out, HM2.out]
            go_wp2_with (at_builtin
                         refine wpList_append_bytes rfl (.tmp 78) (.tmp 92) rfl w.heap.size (.slice A4 (E vs).length c4) (E vs).length (E vs) rfl (HOWN.out.alloc _) (some ⟨wr.heap.size, 0, none⟩) [x1, x2, x3] 3 rfl (BytesAt.lit (fun j x hj => ?_) rfl) (by have := HL4.out; simp; omega) (by have := HBEL.out.size; simp; omega) ?_)
            · match j, hj with
              | 0, hj => simp at hj; subst hj; rfl
              | 1, hj => simp at hj; subst hj; rfl
              | 2, hj => simp at hj; subst hj; rfl
              | (j + 3), hj => simp at hj
            intro v1 w1 hap
            have HB1 := Lib.hid (hap.below ((HBEL.out.alloc HBEL.out.size _)) (by have := HBEL.out.size; simp; omega) (fun j hj => (HOWN.out.lt j hj).1)).1
            have HOWN1 := Lib.hid hap.1
            rw [← HE.out, ← E_snoc, show (E vs).length + (enc p).length = (E (vs ++ [p])).length by rw [E_snoc, List.length_append]] at HOWN1
            clear hap
            go_wp2
            go_roundw
            case rel => exact ⟨k + 1, by omega, by go_num, vs ++ [p], HN.out, HOWN1.out, HB1.out⟩
            case measure => simp [intOf]; omega
          · have gx0 : ¬ x < 57344 := by have := HSUR.out; rw [HXP.out]; omega
            have gx1 : ¬ x < 128 := by rw [HXP.out]; omega
            have gx2 : ¬ x < 2048 := by rw [HXP.out]; omega
            have gx3 : x < 65536 := by rw [HXP.out]; omega
            obtain ⟨x1, HX1⟩ : ∃ x, Hid (x = 224 + p / 4096) := ⟨_, rfl⟩
            have o1 : bits BinOp.or IntKind.i64 224 (x / 4096) = (x1 : Int) := by rw [HX1.out, ← or224 (p / 4096) (by omega), HXP.out]; rfl
            obtain ⟨m1, HM1⟩ : ∃ x, Hid (x = p / 64 % 64) := ⟨_, rfl⟩
            have a1 : bits BinOp.and IntKind.i64 (x / 64) 63 = (m1 : Int) := by rw [HM1.out, HXP.out]; exact and63 (p / 64) (by omega)
            obtain ⟨x2, HX2⟩ : ∃ x, Hid (x = 128 + m1) := ⟨_, rfl⟩
            have o2 : bits BinOp.or IntKind.i64 128 (m1 : Int) = (x2 : Int) := by rw [HX2.out]; exact or128 m1 (by rw [HM1.out]; omega)
            obtain ⟨m2, HM2⟩ : ∃ x, Hid (x = p % 64) := ⟨_, rfl⟩
            have a2 : bits BinOp.and IntKind.i64 x 63 = (m2 : Int) := by rw [HM2.out, HXP.out]; exact and63 p (by omega)
            obtain ⟨x3, HX3⟩ : ∃ x, Hid (x = 128 + m2) := ⟨_, rfl⟩
            have o3 : bits BinOp.or IntKind.i64 128 (m2 : Int) = (x3 : Int) := by rw [HX3.out]; exact or128 m2 (by rw [HM2.out]; omega)
            have b1 : x1 < 256 := by rw [HX1.out]; omega
            have b2 : x2 < 256 := by rw [HX2.out, HM1.out]; omega
            have b3 : x3 < 256 := by rw [HX3.out, HM2.out]; omega
            have HE : Hid (enc p = [x1, x2, x3]) := by
              show _ = _
              rw [enc_def, if_neg h1, if_neg h2, if_pos h3, HX1.out, HX2.out, HM1.out, HX3.out, HM2.out]
            go_wp2_with (at_builtin
                         refine wpList_append_bytes rfl (.tmp 78) (.tmp 92) rfl w.heap.size (.slice A4 (E vs).length c4) (E vs).length (E vs) rfl (HOWN.out.alloc _) (some ⟨wr.heap.size, 0, none⟩) [x1, x2, x3] 3 rfl (BytesAt.lit (fun j x hj => ?_) rfl) (by have := HL4.out; simp; omega) (by have := HBEL.out.size; simp; omega) ?_)
            · match j, hj with
              | 0, hj => simp at hj; subst hj; rfl
              | 1, hj => simp at hj; subst hj; rfl
              | 2, hj => simp at hj; subst hj; rfl
              | (j + 3), hj => simp at hj
            intro v1 w1 hap
            have HB1 := Lib.hid (hap.below ((HBEL.out.alloc HBEL.out.size _)) (by have := HBEL.out.size; simp; omega) (fun j hj => (HOWN.out.lt j hj).1)).1
            have HOWN1 := Lib.hid hap.1
            rw [← HE.out, ← E_snoc, show (E vs).length + (enc p).length = (E (vs ++ [p])).length by rw [E_snoc, List.length_append]] at HOWN1
            clear hap
            go_wp2
            go_roundw
            case rel => exact ⟨k + 1, by omega, by go_num, vs ++ [p], HN.out, HOWN1.out, HB1.out⟩
            case measure => simp [intOf]; omega
        · have gx0 : ¬ x < 57344 := by rw [HXP.out]; omega
          have gx1 : ¬ x < 128 := by rw [HXP.out]; omega
          have gx2 : ¬ x < 2048 := by rw [HXP.out]; omega
          have gx3 : ¬ x < 65536 := by rw [HXP.out]; omega
          obtain ⟨x1, HX1⟩ : ∃ x, Hid (x = 240 + p / 262144) := ⟨_, rfl⟩
          have o1 : bits BinOp.or IntKind.i64 240 (x / 262144) = (x1 : Int) := by rw [HX1.out, ← or240 (p / 262144) (by omega), HXP.out]; rfl
          obtain ⟨m0, HM0⟩ : ∃ x, Hid (x = p / 4096 % 64) := ⟨_, rfl⟩
          have a0 : bits BinOp.and IntKind.i64 (x / 4096) 63 = (m0 : Int) := by rw [HM0.out, HXP.out]; exact and63 (p / 4096) (by omega)
          obtain ⟨x0, HX0⟩ : ∃ x, Hid (x = 128 + m0) := ⟨_, rfl⟩
          have o0 : bits BinOp.or IntKind.i64 128 (m0 : Int) = (x0 : Int) := by rw [HX0.out]; exact or128 m0 (by rw [HM0.out]; omega)
          obtain ⟨m1, HM1⟩ : ∃ x, Hid (x = p / 64 % 64) := ⟨_, rfl⟩
          have a1 : bits BinOp.and IntKind.i64 (x / 64) 63 = (m1 : Int) := by rw [HM1.out, HXP.out]; exact and63 (p / 64) (by omega)
          obtain ⟨x2, HX2⟩ : ∃ x, Hid (x = 128 + m1) := ⟨_, rfl⟩
          have o2 : bits BinOp.or IntKind.i64 128 (m1 : Int) = (x2 : Int) := by rw [HX2.out]; exact or128 m1 (by rw [HM1.out]; omega)
          obtain ⟨m2, HM2⟩ : ∃ x, Hid (x = p % 64) := ⟨_, rfl⟩
          have a2 : bits BinOp.and IntKind.i64 x 63 = (m2 : Int) := by rw [HM2.out, HXP.out]; exact and63 p (by omega)
          obtain ⟨x3, HX3⟩ : ∃ x, Hid (x = 128 + m2) := ⟨_, rfl⟩
          have o3 : bits BinOp.or IntKind.i64 128 (m2 : Int) = (x3 : Int) := by rw [HX3.out]; exact or128 m2 (by rw [HM2.out]; omega)
          have b1 : x1 < 256 := by rw [HX1.out]; omega
          have b0 : x0 < 256 := by rw [HX0.out, HM0.out]; omega
          have b2 : x2 < 256 := by rw [HX2.out, HM1.out]; omega
          have b3 : x3 < 256 := by rw [HX3.out, HM2.out]; omega
          have HE : Hid (enc p = [x1, x0, x2, x3]) := by
            show _ = _
            rw [enc_def, if_neg h1, if_neg h2, if_neg h3, HX1.out, HX0.out, HM0.out, HX2.out, HM1.out, HX3.out, HM2.out]
          go_wp2_with (at_builtin
                       refine wpList_append_bytes rfl (.tmp 17) (.tmp 36) rfl w.heap.size (.slice A4 (E vs).length c4) (E vs).length (E vs) rfl (HOWN.out.alloc _) (some ⟨wr.heap.size, 0, none⟩) [x1, x0, x2, x3] 4 rfl (BytesAt.lit (fun j x hj => ?_) rfl) (by have := HL4.out; simp; omega) (by have := HBEL.out.size; simp; omega) ?_)
          · match j, hj with
            | 0, hj => simp at hj; subst hj; rfl
            | 1, hj => simp at hj; subst hj; rfl
            | 2, hj => simp at hj; subst hj; rfl
            | 3, hj => simp at hj; subst hj; rfl
            | (j + 4), hj => simp at hj
          intro v1 w1 hap
          have HB1 := Lib.hid (hap.below ((HBEL.out.alloc HBEL.out.size _)) (by have := HBEL.out.size; simp; omega) (fun j hj => (HOWN.out.lt j hj).1)).1
          have HOWN1 := Lib.hid hap.1
          rw [← HE.out, ← E_snoc, show (E vs).length + (enc p).length = (E (vs ++ [p])).length by rw [E_snoc, List.length_append]] at HOWN1
          clear hap
          go_wp2
          go_roundw
          case rel => exact ⟨k + 1, by omega, by go_num, vs ++ [p], HN.out, HOWN1.out, HB1.out⟩
          case measure => simp [intOf]; omega
      · have HN := Lib.hid (VZ.not hlt (by rw [HX.out]; exact hx))
        by_cases h1 : x < 1
        · clear hx
          go_wp2
          go_ret2
          exact ⟨.inr ⟨HN.out, rfl⟩, HBEL.out⟩
        by_cases h2 : 1114111 < x
        · clear hx
          go_wp2
          go_ret2
          first | exact ⟨.inr ⟨HN.out, rfl⟩, HBEL.out⟩ | exact ⟨.inr ⟨not_exists.1 HN.out, rfl⟩, HBEL.out⟩
        · have h3 : 55296 ≤ x := by omega
          have h4 : x < 57344 := by omega
          clear hx
          go_wp2
          go_ret2
          first | exact ⟨.inr ⟨HN.out, rfl⟩, HBEL.out⟩ | exact ⟨.inr ⟨not_exists.1 HN.out, rfl⟩, HBEL.out⟩
    · obtain rfl : k = l.length := by omega
      rw [List.take_length] at HVS
      have hcv := (BytesAt.of_own HOWN.out rfl).conv c4 9 Try.underlying9
      go_wp2
      go_ret2
      exact ⟨.inl ⟨vs, HVS.out, rfl⟩, HBEL.out⟩
end Go.Proofs.Ytakdcfjlhpponaa

/- The statement's own 'named': the edit whose Inserts have characters of their own. Condition: a checked edit, what memory may hold. -/
namespace Go.Proofs.Ytakdcfjlhpponaa
open Go.RowKit Go.Deep

theorem VZ_mk {vs : List Nat} (h : ∀ v ∈ vs, May v) : VZ (nz vs) vs := ⟨h, rfl⟩
/-- Text of numbers that may be. -/
theorem text_range {A : Option Addr} {n k : Nat} (c : Nat) (hk : k ≤ 1073741824) (hm : ∀ v ∈ List.range' n k, May v) (w : World) (hA : IntsAt w A (nz (List.range' n k))) :
    Calls Try.prog 19 #[.slice A k c] w fun e w' => e = .returned (.tuple #[.string (bstr (E (List.range' n k))), .bool true]) ∧ Below w.heap.size w w' := by
  have hl : (nz (List.range' n k)).length = k := by rw [nz_length, List.length_range']
  have h := refText_any c (by rw [hl]; exact hk) w hA
  rw [hl] at h
  refine h.mono ?_
  rintro e w' ⟨⟨vs, hv, rfl⟩ | ⟨hn, _⟩, hb⟩
  · rw [hv.uniq (VZ_mk hm)]
    exact ⟨rfl, hb⟩
  · exact absurd ⟨_, VZ_mk hm⟩ hn
/-- What memory holds of a checked edit. -/
theorem ok_held {L : List CompV} (h : Ok L) : Held1 L := by
  have hw := h.wh
  have htl := h.tlen
  have hl := h.len
  refine ⟨fun y hy => ?_, by omega, by omega⟩
  rcases (hw y hy).cases with ⟨hk, hn, ht⟩ | ⟨hk, hn, ht⟩ | ⟨hk, hn, _, vs, hv⟩
  · have hb1 := h.base1
    have hin := in_le_mem hy
    rw [in_one hk] at hin
    exact ⟨by unfold Fit64; omega, by unfold Fit64; omega, by rw [ht]; exact ⟨by simp, by simp⟩⟩
  · have hb1 := h.base1
    have hin := in_le_mem hy
    rw [in_three hk] at hin
    exact ⟨by unfold Fit64; omega, by unfold Fit64; omega, by rw [ht]; exact ⟨by simp, by simp⟩⟩
  · have := tlen_mem hy
    exact ⟨by unfold Fit64; omega, by unfold Fit64; omega, hv.lt, by unfold maxLen; omega⟩

set_option maxHeartbeats 8000000 in
set_option maxRecDepth 100000 in
theorem xfNamed_any (n0 : Nat) (hn0 : 0 < n0 ∧ n0 ≤ 50000) (A : Option Addr) (c : Nat) (l : List CompV) (hok : Ok l) (hh : Held1 l) (w : World) (hAc : CompsC w A c l) :
    Calls Try.prog 20 #[.slice A l.length c, .int .i64 (n0 : Int)] w fun e w' => (∃ M m, e = .returned (.tuple #[.slice M (lab l n0).length m, .int .i64 ((n0 + insN l : Nat) : Int)]) ∧ CompsC w' M m (lab l n0)) ∧ Below w.heap.size w w' := by
  have HA := Lib.hid hAc.1
  have HOK := Lib.hid hok
  have HFL := Lib.hid hh.fine
  have hln : l.length ≤ 100 := hok.len
  clear hAc hok hh
  by_cases h0 : l.length = 0
  · have hl0 : l = [] := List.eq_nil_of_length_eq_zero h0
    subst hl0
    simp only [List.length_nil]
    cases A with
    | none =>
      have hsc : ∀ (a : Addr) (w : World), (storeCells a []).run Try.prog w = .ok () w := fun _ _ => rfl
      have hpu : ∀ (w : World), (pure #[] : Sem (Array Value)).run Try.prog w = .ok #[] w := fun _ => rfl
      have HW6 : Hid (Below w.heap.size w (w.alloc (.cells #[] 60))) := (Below.refl _ w).alloc (Nat.le_refl _) _
      go_enter Try.func20, Try.ntmps20
      go_wp2
      generalize w.alloc (.cells #[] 60) = w6 at HW6 ⊢
      go_loopw [1, 7] (fun nx i wr => i = .int .i64 0 ∧ nx = .int .i64 (n0 : Int) ∧ w6 = wr) (fun _ _ _ => 0)
      case atStart => exact ⟨rfl, rfl, rfl⟩
      case round =>
        obtain ⟨rfl, rfl, rfl⟩ := hrel
        go_wp2
        go_ret2
        exact ⟨⟨_, _, by rw [lab_nil, insN_nil]; rfl, .inl rfl, Nat.zero_le _⟩, HW6.out⟩
    | some ad =>
      obtain ⟨i0, hi0, hz0, hz1, hz2⟩ := info_parts part_info
      have hown0 : (w.alloc (.cells #[] 60)).ownsRow w.heap.size 60 3 (.slice (some ⟨w.heap.size, 0, none⟩) 0 0) 0 [] := ⟨rfl, .inr ⟨w.heap.size, 0, #[], rfl, Nat.le_refl _, heap_alloc_new w _, Nat.le_refl _, Nat.zero_le _, rfl, rfl⟩⟩
      have HO0 := Lib.hid hown0
      clear hown0
      go_enter Try.func20, Try.ntmps20
      go_wp2_with (at_builtin
                   refine wpList_append_own_wide _ rfl (.tmp 10) (.tmp 11) 22 rfl w.heap.size 60 i0 (.agg #[.int .i64 0, .int .i64 0, .string { data := #[] }]) 3 32 Try.underlying22 hi0 hz0 hz1 hz2 rfl (by omega) _ 0 [] rfl HO0.out ad 0 c [] rfl rfl (by simp) (by simp) (by simp) (by omega) (by simp) ?_
                   intro v' w6 hown6 hgr6 _
                   have HW6 : Hid (Below w.heap.size w w6) := ((Below.refl _ w).alloc (Nat.le_refl _) _).grown hgr6 (by simp) (fun k hk => (HO0.out.lt k hk).1)
                   have HO6 : Hid (w6.ownsRow w.heap.size 60 3 v' 0 []) := hown6
                   clear hown6 hgr6)
      obtain ⟨A6, c6, rfl⟩ := own_slice HO6.out
      go_wp2
      go_loopw [1, 7] (fun nx i wr => i = .int .i64 0 ∧ nx = .int .i64 (n0 : Int) ∧ w6 = wr) (fun _ _ _ => 0)
      case atStart => exact ⟨rfl, rfl, rfl⟩
      case round =>
        obtain ⟨rfl, rfl, rfl⟩ := hrel
        go_wp2
        go_ret2
        exact ⟨⟨_, _, by rw [lab_nil, insN_nil]; rfl, .inl rfl, Nat.zero_le _⟩, HW6.out⟩
  · obtain ⟨b0, off, rfl, _⟩ := HA.out.form (by omega)
    obtain ⟨i0, hi0, hz0, hz1, hz2⟩ := info_parts part_info
    have hown0 : (w.alloc (.cells #[] 60)).ownsRow w.heap.size 60 3 (.slice (some ⟨w.heap.size, 0, none⟩) 0 0) 0 [] := ⟨rfl, .inr ⟨w.heap.size, 0, #[], rfl, Nat.le_refl _, heap_alloc_new w _, Nat.le_refl _, Nat.zero_le _, rfl, rfl⟩⟩
    have HO0 := Lib.hid hown0
    have HAC : Hid (∀ j u, (l.flatMap compCells)[j]? = some u → (w.alloc (.cells #[] 60)).cell? ((⟨b0, off, none⟩ : Addr).add j) = some u) := fun j u hj => by
      rw [Go.WideShapes.add_plain]
      exact CellsAt.cell (HA.out.below ((Below.refl _ w).alloc (Nat.le_refl _) _)) hj
    have HONE : Hid (∀ u ∈ l.flatMap compCells, u.oneCell' = true) := fun u hu => by
      obtain ⟨y, _, hy⟩ := List.mem_flatMap.1 hu
      simp [compCells] at hy
      rcases hy with rfl | rfl | rfl <;> rfl
    clear hown0
    go_enter Try.func20, Try.ntmps20
    go_wp2_with (at_builtin
                 refine wpList_append_own_wide _ rfl (.tmp 10) (.tmp 11) 22 rfl w.heap.size 60 i0 (.agg #[.int .i64 0, .int .i64 0, .string { data := #[] }]) 3 32 Try.underlying22 hi0 hz0 hz1 hz2 rfl (by omega) _ 0 [] rfl HO0.out ⟨b0, off, none⟩ l.length c (l.flatMap compCells) rfl (flat_length compCells 3 compCells_length l) HAC.out HONE.out (by simp only [maxLen]; omega) (by omega) (by simp) ?_
                 intro v' w6 hown6 hgr6 _
                 rw [Nat.zero_add, List.nil_append] at hown6
                 have HB6 : Hid (Below w.heap.size w w6) := ((Below.refl _ w).alloc (Nat.le_refl _) _).grown hgr6 (by simp) (fun k hk => (HO0.out.lt k hk).1)
                 have HO6 := Lib.hid hown6
                 clear hown6 hgr6)
    obtain ⟨gm, c2, rfl, hgm, _⟩ := HO6.out.form (by omega)
    have HGM := Lib.hid hgm
    clear hgm hi0 hz0 hz1 hz2 HONE HAC HO0
    go_wp2
    go_loopw [1, 7] (fun nx i wr => ∃ m : Nat, m ≤ l.length ∧ i = .int .i64 m ∧ nx = .int .i64 ((n0 + insN (l.take m) : Nat) : Int) ∧ wr.ownsRow w.heap.size 60 3 (.slice (some ⟨gm, 0, none⟩) l.length c2) l.length ((half l n0 m).flatMap compCells) ∧ Below w.heap.size w wr) (fun _ i _ => l.length - (intOf i).toNat)
    case atStart => exact ⟨0, Nat.zero_le _, rfl, by rw [List.take_zero, insN_nil]; rfl, by rw [half_zero]; exact HO6.out, HB6.out⟩
    case round =>
      obtain ⟨wq, hwq⟩ : ∃ x, x = wr := ⟨wr, rfl⟩
      subst hwq
      obtain ⟨m, hm, rfl, rfl, ho, hb⟩ := hrel
      have HOQ := Lib.hid ho
      have HBQ := Lib.hid hb
      clear ho hb
      by_cases hlt : m < l.length
      · have hho : CompsAt wq (some ⟨gm, 0, none⟩) (half l n0 m) := CellsAt.of_own HOQ.out
        obtain ⟨y0, _, y2⟩ := hho.at_ (i := m) (by rw [half_len]; exact hlt)
        rw [half_get hlt] at y0 y2
        rw [Nat.zero_add] at y0 y2
        clear hho
        by_cases hk2 : l[m].kind = 2
        · have hwh := HOK.out.wh _ (List.getElem_mem hlt)
          have htx : ∃ vs, V l[m].text vs := by
            rcases hwh.cases with ⟨h, _⟩ | ⟨h, _⟩ | ⟨_, _, _, h⟩
            · omega
            · omega
            · exact h
          have hvc := cps_V htx
          have htl : l[m].text.length ≤ 1099511627776 := (HFL.out _ (List.getElem_mem hlt)).2
          have GCt := Lib.hid (fun w => refCount_yes hvc htl w)
          obtain ⟨x0, x1, x2⟩ := (HA.out.below HBQ.out).at_ hlt
          have hh := half_two (nx := n0) hlt hk2
          have HH := Lib.hid hh
          have hget : (half l n0 m)[m]? = some l[m] := by rw [List.getElem?_eq_getElem (by rw [half_len]; exact hlt), half_get hlt]
          have HGET := Lib.hid hget
          have hins : insN (l.take (m + 1)) ≤ 2000 := by
            have h1 := insN_out l HOK.out.wh
            have h2 := HOK.out.out1
            have h3 : insN l = insN (l.take (m + 1)) + insN (l.drop (m + 1)) := by rw [← insN_append, List.take_append_drop]
            omega
          have g2 : (l[m].kind != 2) = false := by rw [bne_eq_false_iff_eq]; exact hk2
          obtain ⟨P, HP⟩ : ∃ x, Hid (l[m] = x) := ⟨_, Lib.hid rfl⟩
          simp only [HP.out] at HH HGET g2 x2 y0 y2 GCt
          obtain ⟨kd, n, tx⟩ := P
          simp only at HH HGET g2 x2 y0 y2 GCt
          obtain ⟨ct, HCT⟩ : ∃ x, Hid ((cps tx).length = x) := ⟨_, Lib.hid rfl⟩
          rw [HCT.out] at GCt HH
          obtain ⟨nx, HNX⟩ : ∃ x, Hid (n0 + insN (l.take m) = x) := ⟨_, Lib.hid rfl⟩
          rw [HNX.out] at HH ⊢
          have hnx : 0 < nx ∧ nx + ct ≤ 52000 := by have := HNX.out; have := HH.out.2; omega
          clear hh hget hwh htx hvc htl hins x0 x1 hk2
          go_wp2
          go_loopw [1, 8, 9] (fun nn q j wr => ∃ i : Nat, i ≤ ct ∧ j = .int .i64 i ∧ nn = .int .i64 ((nx + i : Nat) : Int) ∧ wr.ownsRow wq.heap.size 3 1 q (List.range' nx i).length (is64 (nz (List.range' nx i))) ∧ Below wq.heap.size wq wr) (fun _ _ j _ => ct - (intOf j).toNat)
          case atStart => exact ⟨0, Nat.zero_le _, rfl, rfl, by simpa [is64, nz] using World.ownsRow_nil _ _ _ _, Below.refl _ _⟩
          case round =>
            obtain ⟨i, hi, rfl, rfl, ho, hb⟩ := hrel
            have HOI := Lib.hid ho
            have HBI := Lib.hid hb
            clear ho hb
            have x3 : wr.cell? ⟨b0, off + m * 3 + 2, none⟩ = some (.string (bstr tx)) := by
              have := ((HA.out.below HBQ.out).below HBI.out).at_ hlt
              simp only [HP.out] at this
              exact this.2.2
            go_wp2_with fail
            refine (GCt.out _).mono ?_
            rintro e w7 ⟨rfl, hb7⟩
            have HO7 : Hid (w7.ownsRow wq.heap.size 3 1 _ (List.range' nx i).length (is64 (nz (List.range' nx i)))) := own_below HOI.out hb7
            have HB7 : Hid (Below wq.heap.size wq w7) := HBI.out.trans (hb7.mono HBI.out.size)
            clear hb7 x3
            by_cases hlt2 : i < ct
            · have hsz := HB7.out.size
              go_wp2_with (at_builtin
                           refine wpList_append_int rfl (.tmp 35) (.tmp 37) rfl wq.heap.size _ (List.range' nx i) rfl (HO7.out.alloc _) w7.heap.size (nx + i) rfl (by rw [cell_of_row _ _ _ _ _ _ (heap_alloc_new w7 _)]; rfl) (by rw [List.length_range']; omega) (by simp; omega) ?_
                           intro v' w8 hown8 hgr8
                           have HO8 : Hid (w8.ownsRow wq.heap.size 3 1 v' (List.range' nx (i + 1)).length (is64 (nz (List.range' nx (i + 1))))) := by rw [List.range'_1_concat]; exact hown8
                           have HB8 : Hid (Below wq.heap.size wq w8) := (HB7.out.alloc hsz _).grown hgr8 (by simp; omega) (fun k hk => (HO7.out.lt k hk).1)
                           clear hown8 hgr8)
              go_wp2
              go_roundw
              case rel => exact ⟨i + 1, by omega, by go_num, by go_num, HO8.out, HB8.out⟩
              case measure => simp [intOf]; omega
            · have hie : i = ct := by omega
              subst hie
              obtain ⟨A7, c7, rfl⟩ := own_slice HO7.out
              have HI7 : Hid (IntsAt w7 A7 (nz (List.range' nx i))) := IntsAt.of_own HO7.out (by rw [nz_length])
              have GT2 := Lib.hid (fun c w h => text_range (A := A7) (n := nx) (k := i) c (by omega) (may_range (by omega) (by omega)) w h)
              rw [List.length_range']
              have HOM : Hid (w7.ownsRow w.heap.size 60 3 (.slice (some ⟨gm, 0, none⟩) l.length c2) l.length ((half l n0 m).flatMap compCells)) := own_below HOQ.out HB7.out
              have HBM : Hid (Below w.heap.size w w7) := HBQ.out.trans (HB7.out.mono HBQ.out.size)
              go_wp2_with fail
              refine (GT2.out _ _ HI7.out).mono ?_
              rintro e w8 ⟨rfl, hb8⟩
              have HOM8 : Hid (w8.ownsRow w.heap.size 60 3 (.slice (some ⟨gm, 0, none⟩) l.length c2) l.length ((half l n0 m).flatMap compCells)) := own_below HOM.out hb8
              have HBM8 : Hid (Below w.heap.size w w8) := HBM.out.trans (hb8.mono HBM.out.size)
              have hfz := HOM8.out.frozenAt (m * 3 + 2)
              have hcl : w8.cell? ⟨gm, m * 3 + 2, none⟩ = some (.string (bstr tx)) := by
                have hho : CompsAt w8 (some ⟨gm, 0, none⟩) (half l n0 m) := CellsAt.of_own HOM8.out
                obtain ⟨_, _, z2⟩ := hho.at_ (i := m) (by rw [half_len]; exact hlt)
                rw [half_get hlt] at z2
                simp only [HP.out] at z2
                rw [Nat.zero_add] at z2
                exact z2
              have HST : Hid ((w8.setCell ⟨gm, m * 3 + 2, none⟩ (.string (bstr (E (List.range' nx i))))).ownsRow w.heap.size 60 3 (.slice (some ⟨gm, 0, none⟩) l.length c2) l.length ((half l n0 (m + 1)).flatMap compCells)) := by
                have := (HOM8.out.stored (m * 3 + 2) (.string (bstr (E (List.range' nx i))))).1
                rw [flat_set _ _ _ _ _ _ HGET.out, ← HH.out.1] at this
                exact this
              have HBS : Hid (Below w.heap.size w (w8.setCell ⟨gm, m * 3 + 2, none⟩ (.string (bstr (E (List.range' nx i)))))) := HBM8.out.setCell (p := ⟨gm, m * 3 + 2, none⟩) HGM.out _
              clear hb8
              generalize bstr (E (List.range' nx i)) = Z at HST HBS ⊢
              go_wp2
              go_roundw
              case rel => exact ⟨m + 1, by omega, by go_num, by rw [HH.out.2, ← Nat.add_assoc, HNX.out]; rfl, HST.out, HBS.out⟩
              case measure => simp [intOf]; omega
        · have g2 : (l[m].kind != 2) = true := bne_iff_ne.2 hk2
          have hh := half_not (nx := n0) hlt hk2
          have HH := Lib.hid hh
          clear hh hk2
          generalize l[m].kind = kd at y0 g2
          go_wp2
          go_roundw
          case rel => exact ⟨m + 1, by omega, by go_num, by rw [HH.out.2], by rw [HH.out.1]; exact HOQ.out, HBQ.out⟩
          case measure => simp [intOf]; omega
      · have hml : m = l.length := by omega
        subst hml
        have ho2 := HOQ.out
        rw [half_all] at ho2
        have HNXT : Hid (insN (l.take l.length) = insN l) := by show _ = _; rw [List.take_length]
        rw [HNXT.out]
        have HE : Hid (CompsC wq (some ⟨gm, 0, none⟩) c2 (lab l n0)) := CompsC.of_own (by rw [lab_len]; exact ho2)
        clear ho2
        go_wp2
        go_ret2
        exact ⟨⟨some ⟨gm, 0, none⟩, c2, by rw [lab_len]; rfl, HE.out⟩, HBQ.out⟩
end Go.Proofs.Ytakdcfjlhpponaa
