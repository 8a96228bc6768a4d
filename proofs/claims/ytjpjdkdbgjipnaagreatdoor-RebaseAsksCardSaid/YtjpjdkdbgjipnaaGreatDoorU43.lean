/- What stage 16's statements make of the document's own rows of what was done, and back: the same in another type. Condition: no more than 2^20 of them. -/
import Derived.Test.YtjpjdkdbgjipnaaGreatDoorU42
namespace Go.Proofs.YtjpjdkdbgjipnaaGreatDoor
open Go.RowKit Go.Deep
set_option maxHeartbeats 2000000 in
set_option maxRecDepth 100000 in
theorem yy717 (A : Option Addr) (c : Nat) (l : List OneV) (hl : l.length ≤ 1048576) (w : World) (hA : OnesAt w A l) :
  Calls Tryz.prog 9 #[.slice A l.length c] w fun e w' => (∃ A' c', e = .returned (.slice A' l.length c') ∧ OnesAt w' A' l ∧ l.length ≤ c') ∧ Below w.heap.size w w' := by
 have HA := xh hA; clear hA
 go_enter Tryz.func9, Tryz.ntmps9
 go_wp2
 go_loopw [3, 4, 5] (fun s3 s4 s5 wr => ∃ (k : Nat) (A0 : Option Addr) (c0 : Nat), k ≤ l.length ∧ s3 = .slice A0 (l.take k).length c0 ∧ s4 = .int .i64 (k : Int) ∧ s5 = s5 ∧ Hid (OwnE wr w.heap.size A0 c0 (l.take k)) ∧ Hid (Below w.heap.size w wr)) (fun _ i _ _ => l.length - (intOf i).toNat)
 case atStart => exact ⟨0, none, 0, Nat.zero_le _, rfl, rfl, rfl, xh (OwnE.nil _ _), xh (Below.refl _ _)⟩
 case round =>
  obtain ⟨k, A0, c0, hk, rfl, rfl, _, HO, HB⟩ := hrel
  obtain ⟨wo, hwo⟩ : ∃ x, x = wr := ⟨wr, rfl⟩
  subst hwo
  by_cases hlt : k < l.length
  ·obtain ⟨b, off, rfl, _⟩ := HA.out.form (by omega)
   have hltI : (k : Int) < (l.length : Int) := by omega
   obtain ⟨z0, z1, z2, z3, z4, z5, z6, z7⟩ := (HA.out.below HB.out).at_ hlt
   have HTK := xh (List.take_succ_eq_append_getElem hlt)
   have HLK : Hid ((l.take k).length = k) := xh (by rw [List.length_take]; omega)
   generalize l[k] = y at z0 z1 z2 z3 z4 z5 z6 z7 HTK
   generalize l.take k = P at HO HTK HLK ⊢
   obtain ⟨⟨yi, yo, ye, yr, yc, ym, yp, yn⟩, yA, yC⟩ := y
   simp only at z0 z1 z2 z3 z4 z5 z6 z7
   have HB1 : Hid (Below w.heap.size w (wo.alloc (.cells #[.int .i64 yi, .slice yA yo.length yC, .bool ye, .bool yr, .bool yc, .bool ym, .int .i64 yp, .string (bstr yn)] 55))) := xh (HB.out.alloc HB.out.size _)
   have HO1 : Hid (OwnE (wo.alloc (.cells #[.int .i64 yi, .slice yA yo.length yC, .bool ye, .bool yr, .bool yc, .bool ym, .int .i64 yp, .string (bstr yn)] 55)) w.heap.size A0 c0 P) := xh (HO.out.alloc _)
   go_wp2_with (at_builtin
                refine yy241 rfl (.tmp 16) (.tmp 34) rfl (B := w.heap.size) (out := P) (m := [⟨⟨yi, yo, ye, yr, yc, ym, yp, yn⟩, yA, yC⟩]) (HO1.out.alloc (.cells (yy5 ⟨⟨yi, yo, ye, yr, yc, ym, yp, yn⟩, yA, yC⟩).toArray 63)) (by have := HB1.out.size; simp at this ⊢; omega) 1 (yy179 (wo.alloc (.cells #[.int .i64 yi, .slice yA yo.length yC, .bool ye, .bool yr, .bool yc, .bool ym, .int .i64 yp, .string (bstr yn)] 55)) ⟨⟨yi, yo, ye, yr, yc, ym, yp, yn⟩, yA, yC⟩ _ (by simp)) (by have := HLK.out; simp; omega) rfl rfl ?_
                intro A2 c2 w2 hown hbel
                have HO2 := xh hown
                have HB2 := xh ((HB1.out.alloc HB1.out.size (.cells (yy5 ⟨⟨yi, yo, ye, yr, yc, ym, yp, yn⟩, yA, yC⟩).toArray 63)).trans hbel)
                clear hown hbel)
   go_roundw
   case rel => exact ⟨k + 1, A2, c2, by omega, by rw [HTK.out, List.length_append]; rfl, by go_num, trivial, by rw [HTK.out]; exact HO2, HB2⟩
   case measure => simp [intOf]; omega
  ·obtain rfl : k = l.length := by omega
   rw [List.take_length] at HO ⊢
   go_wp2
   go_ret
   exact ⟨⟨A0, c0, rfl, ⟨HO.out.at_, fun y hy => (HA.out.2 y hy).below HB.out⟩, HO.out.cap⟩, HB.out⟩
set_option maxHeartbeats 2000000 in
set_option maxRecDepth 100000 in
theorem yy718 (A : Option Addr) (c : Nat) (l : List OneV) (hl : l.length ≤ 1048576) (w : World) (hA : OnesAt w A l) :
  Calls Tryz.prog 15 #[.slice A l.length c] w fun e w' => (∃ A' c', e = .returned (.slice A' l.length c') ∧ OnesAt w' A' l ∧ l.length ≤ c') ∧ Below w.heap.size w w' := by
 have HA := xh hA; clear hA
 go_enter Tryz.func15, Tryz.ntmps15
 go_wp2
 go_loopw [3, 4, 5] (fun s3 s4 s5 wr => ∃ (k : Nat) (A0 : Option Addr) (c0 : Nat), k ≤ l.length ∧ s3 = .slice A0 (l.take k).length c0 ∧ s4 = .int .i64 (k : Int) ∧ s5 = s5 ∧ Hid (OwnR wr w.heap.size A0 c0 (l.take k)) ∧ Hid (Below w.heap.size w wr)) (fun _ i _ _ => l.length - (intOf i).toNat)
 case atStart => exact ⟨0, none, 0, Nat.zero_le _, rfl, rfl, rfl, xh (OwnR.nil _ _), xh (Below.refl _ _)⟩
 case round =>
  obtain ⟨k, A0, c0, hk, rfl, rfl, _, HO, HB⟩ := hrel
  obtain ⟨wo, hwo⟩ : ∃ x, x = wr := ⟨wr, rfl⟩
  subst hwo
  by_cases hlt : k < l.length
  ·obtain ⟨b, off, rfl, _⟩ := HA.out.form (by omega)
   have hltI : (k : Int) < (l.length : Int) := by omega
   obtain ⟨z0, z1, z2, z3, z4, z5, z6, z7⟩ := (HA.out.below HB.out).at_ hlt
   have HTK := xh (List.take_succ_eq_append_getElem hlt)
   have HLK : Hid ((l.take k).length = k) := xh (by rw [List.length_take]; omega)
   generalize l[k] = y at z0 z1 z2 z3 z4 z5 z6 z7 HTK
   generalize l.take k = P at HO HTK HLK ⊢
   obtain ⟨⟨yi, yo, ye, yr, yc, ym, yp, yn⟩, yA, yC⟩ := y
   simp only at z0 z1 z2 z3 z4 z5 z6 z7
   have HB1 : Hid (Below w.heap.size w (wo.alloc (.cells #[.int .i64 yi, .slice yA yo.length yC, .bool ye, .bool yr, .bool yc, .bool ym, .int .i64 yp, .string (bstr yn)] 63))) := xh (HB.out.alloc HB.out.size _)
   have HO1 : Hid (OwnR (wo.alloc (.cells #[.int .i64 yi, .slice yA yo.length yC, .bool ye, .bool yr, .bool yc, .bool ym, .int .i64 yp, .string (bstr yn)] 63)) w.heap.size A0 c0 P) := xh (HO.out.alloc _)
   go_wp2_with (at_builtin
                refine yy88 rfl (.tmp 16) (.tmp 34) rfl (B := w.heap.size) (out := P) (m := [⟨⟨yi, yo, ye, yr, yc, ym, yp, yn⟩, yA, yC⟩]) (HO1.out.alloc (.cells (yy5 ⟨⟨yi, yo, ye, yr, yc, ym, yp, yn⟩, yA, yC⟩).toArray 55)) (by have := HB1.out.size; simp at this ⊢; omega) 1 (yy553 (wo.alloc (.cells #[.int .i64 yi, .slice yA yo.length yC, .bool ye, .bool yr, .bool yc, .bool ym, .int .i64 yp, .string (bstr yn)] 63)) ⟨⟨yi, yo, ye, yr, yc, ym, yp, yn⟩, yA, yC⟩ _ (by simp)) (by have := HLK.out; simp; omega) rfl rfl ?_
                intro A2 c2 w2 hown hbel
                have HO2 := xh hown
                have HB2 := xh ((HB1.out.alloc HB1.out.size (.cells (yy5 ⟨⟨yi, yo, ye, yr, yc, ym, yp, yn⟩, yA, yC⟩).toArray 55)).trans hbel)
                clear hown hbel)
   go_roundw
   case rel => exact ⟨k + 1, A2, c2, by omega, by rw [HTK.out, List.length_append]; rfl, by go_num, trivial, by rw [HTK.out]; exact HO2, HB2⟩
   case measure => simp [intOf]; omega
  ·obtain rfl : k = l.length := by omega
   rw [List.take_length] at HO ⊢
   go_wp2
   go_ret
   exact ⟨⟨A0, c0, rfl, ⟨HO.out.at_, fun y hy => (HA.out.2 y hy).below HB.out⟩, HO.out.cap⟩, HB.out⟩
end Go.Proofs.YtjpjdkdbgjipnaaGreatDoor
