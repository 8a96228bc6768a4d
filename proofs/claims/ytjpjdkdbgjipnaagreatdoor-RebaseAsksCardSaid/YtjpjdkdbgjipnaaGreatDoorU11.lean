/- What undoes an edit, in plain mathematics: it gives the code points back; what undoes it is the edit itself. No condition. (Merged of 8 texts.) -/
import Derived.Test.YtjpjdkdbgjipnaaGreatDoorU17
import Derived.Test.YtjpjdkdbgjipnaaGreatDoorU42
import Derived.Test.YtjpjdkdbgjipnaaGreatDoorU9
import Derived.Test.YtjpjdkdbgjipnaaGreatDoorShelf
import Derived.Test.YtjpjdkdbgjipnaaGreatDoorU6
import Derived.Test.YtjpjdkdbgjipnaaGreatDoorU22
import Derived.Test.YtjpjdkdbgjipnaaGreatDoorU7
import Derived.Test.YtjpjdkdbgjipnaaGreatDoorU5
import Derived.Test.YtjpjdkdbgjipnaaGreatDoorU21
namespace Go.Proofs.YtjpjdkdbgjipnaaGreatDoor
open Go.RowKit Go.Deep
theorem yy279 {w W : World} {b B : Nat} (h : Below B W w) (hb : B ≤ b) (u0 u1 u2 u3 u4 u5 : Value) : Below B W ((((((w.setCell ⟨b, 0, none⟩ u0).setCell ⟨b, 1, none⟩ u1).setCell ⟨b, 2, none⟩ u2).setCell ⟨b, 3, none⟩ u3).setCell ⟨b, 4, none⟩ u4).setCell ⟨b, 5, none⟩ u5) :=
 ((((((h.setCell (p := ⟨b, 0, none⟩) hb u0).setCell (p := ⟨b, 1, none⟩) hb u1).setCell (p := ⟨b, 2, none⟩) hb u2).setCell (p := ⟨b, 3, none⟩) hb u3).setCell (p := ⟨b, 4, none⟩) hb u4).setCell (p := ⟨b, 5, none⟩) hb u5)
theorem yy506 {w : World} {b B : Nat} {e : TypeId} {size n : Nat} {v : Value} {xs : List Value} (h : w.ownsRow B e size v n xs) (hb : b < B) (u0 u1 u2 u3 u4 u5 : Value) : World.ownsRow ((((((w.setCell ⟨b, 0, none⟩ u0).setCell ⟨b, 1, none⟩ u1).setCell ⟨b, 2, none⟩ u2).setCell ⟨b, 3, none⟩ u3).setCell ⟨b, 4, none⟩ u4).setCell ⟨b, 5, none⟩ u5) B e size v n xs :=
 ownsRow_setCell_below (a := ⟨b, 5, none⟩) (ownsRow_setCell_below (a := ⟨b, 4, none⟩) (ownsRow_setCell_below (a := ⟨b, 3, none⟩) (ownsRow_setCell_below (a := ⟨b, 2, none⟩) (ownsRow_setCell_below (a := ⟨b, 1, none⟩) (ownsRow_setCell_below (a := ⟨b, 0, none⟩) h hb u0) hb u1) hb u2) hb u3) hb u4) hb u5
set_option maxHeartbeats 8000000 in
set_option maxRecDepth 100000 in
theorem yy406 (a : ActV) (hk : Held1 a.ops) (hnm : a.name.length ≤ 1048576) (w : World) (hA : yy8 w a.opsA a.ops) :
  Calls Tryz.prog 31 #[.agg (yy0 a).toArray] w fun e w' => (∃ A2 c2, e = .returned (.agg (yy0 { a with opsA := A2, opsC := c2 }).toArray) ∧ a.ops.length ≤ c2 ∧ c2 ≤ maxLen ∧ w'.ownsRow w.heap.size 60 3 (.slice A2 a.ops.length c2) a.ops.length (a.ops.flatMap yy2)) ∧ Below w.heap.size w w' := by
 have hlen := hk.len
 have htx : ∀ y ∈ a.ops, y.text.length ≤ 1099511627776 := fun y hy => by have := yy336 hy; have := hk.text; omega
 have HA := xh (fun (W : World) (h : Below w.heap.size w W) => hA.below h)
 have HF := xh htx
 have GN := xh (fun W => yy66 (bstr a.name) W (by rw [bstr_size]; omega))
 clear hk hA htx hnm
 obtain ⟨ak, ai, ap, an, ad, aA, aC, l⟩ := a
 unfold yy0
 simp only at HA HF GN hlen ⊢
 obtain ⟨g, hg⟩ : ∃ g, g = w.heap.size := ⟨_, rfl⟩
 have HR1 := xh ((yy53 w 26 (.int .i64 ak) (.int .i64 ai) (.int .i64 ap) (.string (bstr an)) (.bool ad) (.slice aA l.length aC)).alloc (Obj.cells #[.int .i64 0, .int .i64 0, .int .i64 0, .string { data := #[] }, .bool false, .slice none 0 0] 26))
 have HR2 := xh (yy53 (w.alloc (.cells #[.int .i64 ak, .int .i64 ai, .int .i64 ap, .string (bstr an), .bool ad, .slice aA l.length aC] 26)) 26 (.int .i64 0) (.int .i64 0) (.int .i64 0) (.string { data := #[] }) (.bool false) (.slice none 0 0))
 rw [World.size_alloc, ← hg] at HR2
 rw [← hg] at HR1 HA
 have HB1 : Hid (Below g w ((w.alloc (.cells #[.int .i64 ak, .int .i64 ai, .int .i64 ap, .string (bstr an), .bool ad, .slice aA l.length aC] 26)).alloc (.cells #[.int .i64 0, .int .i64 0, .int .i64 0, .string { data := #[] }, .bool false, .slice none 0 0] 26))) := xh (by rw [hg]; exact ((Below.refl _ _).alloc (Nat.le_refl _) _).alloc (by simp) _)
 have HSZ : Hid ((World.heap ((w.alloc (.cells #[.int .i64 ak, .int .i64 ai, .int .i64 ap, .string (bstr an), .bool ad, .slice aA l.length aC] 26)).alloc (.cells #[.int .i64 0, .int .i64 0, .int .i64 0, .string { data := #[] }, .bool false, .slice none 0 0] 26))).size = g + 2) := xh (by rw [World.size_alloc, World.size_alloc, hg])
 have HG := xh hg
 clear hg
 rw [← HG.out]
 go_enter Tryz.func31, Tryz.ntmps31
 go_upto_region 1 with fail
 rw [← HG.out]
 obtain ⟨W0, HW0⟩ : ∃ x, Hid (((w.alloc (.cells #[.int .i64 ak, .int .i64 ai, .int .i64 ap, .string (bstr an), .bool ad, .slice aA l.length aC] 26)).alloc (.cells #[.int .i64 0, .int .i64 0, .int .i64 0, .string { data := #[] }, .bool false, .slice none 0 0] 26)) = x) := ⟨_, xh rfl⟩
 rw [HW0.out] at HR1 HR2 HB1 HSZ ⊢
 clear HW0
 obtain ⟨y0, y1, y2, y3, y4, y5⟩ := yy10 HR1.out
 go_wp2
 clear y0 y1 y2 y3 y4 y5
 go_loopw [3, 5, 9] (fun o p i wr => ∃ (k : Nat) (A0 : Option Addr) (c0 : Nat), k ≤ l.length ∧ i = .int .i64 k ∧ o = .slice A0 (l.take k).length c0 ∧ Hid (wr.ownsRow (g + 2) 60 3 (.slice A0 (l.take k).length c0) (l.take k).length ((l.take k).flatMap yy2)) ∧ Hid (Below (g + 2) W0 wr)) (fun _ _ i _ => l.length - (intOf i).toNat)
 case atStart => exact ⟨0, none, 0, Nat.zero_le _, rfl, rfl, xh (World.ownsRow_nil _ _ _ _), xh (Below.refl _ _)⟩
 case round =>
  obtain ⟨k, A0, c0, hk, rfl, rfl, HOWN, HB⟩ := hrel
  have hgs2 := HR2.out.lt
  have HUPW : Hid (g + 2 ≤ wr.heap.size) := xh (by have := HB.out.size; have := HSZ.out; omega)
  have HBG : Hid (Below g w wr) := xh (HB1.out.trans (HB.out.mono (by omega)))
  have HRA : Hid (World.rowIs wr g 26 6 (sixV (.int .i64 ak) (.int .i64 ai) (.int .i64 ap) (.string (bstr an)) (.bool ad) (.slice aA l.length aC))) := xh (HR1.out.of_block (HB.out.block _ (by omega)))
  have HRB : Hid (World.rowIs wr (g + 1) 26 6 (sixV (.int .i64 0) (.int .i64 0) (.int .i64 0) (.string { data := #[] }) (.bool false) (.slice none 0 0))) := xh (HR2.out.of_block (HB.out.block _ (by omega)))
  clear hgs2
  by_cases hlt : k < l.length
  ·have hAw := HA.out _ HBG.out
   obtain ⟨b, off, rfl, _⟩ := hAw.form (by omega)
   obtain ⟨x0, x1, x2⟩ := hAw.at_ hlt
   clear hAw
   have HFX := xh (HF.out _ (List.getElem_mem hlt))
   have HTK : Hid (l.take (k + 1) = l.take k ++ [l[k]]) := List.take_succ_eq_append_getElem hlt
   have HLT : Hid ((l.take k).length = k) := by show _ = _; rw [List.length_take]; omega
   generalize l[k] = c at x0 x1 x2 HFX HTK
   obtain ⟨kd, n, t⟩ := c
   simp only at x0 x1 x2 HFX
   generalize l.take k = P at HOWN HTK HLT ⊢
   have GC := xh (fun w => yy66 (bstr t) w (by rw [bstr_size]; have := HFX.out; omega))
   have hr := cm_new wr kd n t
   have HR := xh hr
   have HB1 : Hid (Below wr.heap.size wr (wr.alloc (.cells #[.int .i64 kd, .int .i64 n, .string (bstr t)] 60))) := (Below.refl _ _).alloc (Nat.le_refl _) _
   have r0 := (cm_row hr).2.2
   clear hr
   go_wp2_with fail
   refine (GC.out _).mono ?_
   rintro e w2 ⟨rfl, hb2⟩
   have hr := HR.out.of_block (hb2.block _ HR.out.lt)
   have y2 := (cm_row hr).2.2
   have yf := hr.frozen 2
   have hr2 := hr.set 2 (.string (bstr t))
   have z0 := hr2.cell (i := 0) (by omega)
   have z1 := hr2.cell (i := 1) (by omega)
   have z2 := hr2.cell (i := 2) (by omega)
   have HB2 : Hid (Below wr.heap.size wr (w2.setCell ⟨wr.heap.size, 2, none⟩ (.string (bstr t)))) := (HB1.out.trans (hb2.mono HB1.out.size)).setCell (by show wr.heap.size ≤ wr.heap.size; omega) _
   have z0' : (w2.setCell ⟨wr.heap.size, 2, none⟩ (.string (bstr t))).cell? ⟨wr.heap.size, 0, none⟩ = some (.int .i64 kd) := z0
   have z1' : (w2.setCell ⟨wr.heap.size, 2, none⟩ (.string (bstr t))).cell? ⟨wr.heap.size, 1, none⟩ = some (.int .i64 n) := z1
   have z2' : (w2.setCell ⟨wr.heap.size, 2, none⟩ (.string (bstr t))).cell? ⟨wr.heap.size, 2, none⟩ = some (.string (bstr t)) := z2
   have HOW2 := xh (own_below HOWN.out HB2.out)
   have HUP : Hid (g + 2 ≤ (w2.setCell ⟨wr.heap.size, 2, none⟩ (.string (bstr t))).heap.size) := Nat.le_trans HUPW.out HB2.out.size
   have HBW : Hid (Below (g + 2) W0 (w2.setCell ⟨wr.heap.size, 2, none⟩ (.string (bstr t)))) := HB.out.trans (HB2.out.mono HUPW.out)
   clear hr hr2 hb2 x0 x1 x2 r0 z0 z1 z2
   go_wp2_with (at_builtin
                go_loud (refine yy22 rfl (.tmp 17) (.tmp 19) rfl (g + 2) (.slice A0 P.length c0) P ⟨kd, n, t⟩ rfl HOW2.out HUP.out (Eq.trans (rfl : _ = Value.slice (some ⟨w2.heap.size, 0, none⟩) 1 1) (by simp [World.setCell])) (by have := HLT.out; omega) ?_)
                intro out' A5 c5 w5 hout hown hbel
                have HOUT := xh hout
                have HOWN5 := xh hown
                have HBEL := xh (HBW.out.trans hbel)
                clear hout hown hbel)
   go_roundw
   case rel => exact ⟨k + 1, A5, c5, by omega, by go_num, by rw [HTK.out, ← HOUT.out], xh (by rw [HTK.out, ← HOUT.out]; exact HOWN5.out), HBEL⟩
   case measure => simp [intOf]; omega
  ·have hke : l.take k = l := List.take_of_length_le (by omega)
   rw [hke] at HOWN ⊢
   clear hke
   obtain ⟨y0, y1, y2, y3, y4, y5⟩ := yy10 HRA.out
   go_wp2_with fail
   refine (GN.out _).mono ?_
   rintro e v2 ⟨rfl, hb2⟩
   have HOW2 := xh (own_below HOWN.out hb2)
   have HRA2 := xh (HRA.out.of_block (hb2.block _ HRA.out.lt))
   have HRB2 := xh (HRB.out.of_block (hb2.block _ HRB.out.lt))
   have HBG2 : Hid (Below g w v2) := xh (HBG.out.trans (hb2.mono (by have := HUPW.out; omega)))
   clear y0 y1 y2 y3 y4 y5 hb2 HRA HRB HBG HOWN
   have hf3 := HRA2.out.frozen 3
   have h3 := HRA2.out.cell (i := 3) (by omega)
   have hs1 := HRA2.out.set 3 (.string (bstr an))
   have hf5 := hs1.frozen 5
   have h5 := hs1.cell (i := 5) (by omega)
   have hs2 := hs1.set 5 (.slice A0 l.length c0)
   have hrow : World.rowIs ((v2.setCell ⟨g, 3, none⟩ (.string (bstr an))).setCell ⟨g, 5, none⟩ (.slice A0 l.length c0)) g 26 6 (sixV (.int .i64 ak) (.int .i64 ai) (.int .i64 ap) (.string (bstr an)) (.bool ad) (.slice A0 l.length c0)) := hs2.congr fun i hi => by rcases (show i = 0 ∨ i = 1 ∨ i = 2 ∨ i = 3 ∨ i = 4 ∨ i = 5 by omega) with rfl | rfl | rfl | rfl | rfl | rfl <;> rfl
   have HRA3 := xh hrow
   have HRB3 := xh ((HRB2.out.setOther (a := ⟨g, 3, none⟩) (by show g + 1 ≠ g; omega) (.string (bstr an))).setOther (a := ⟨g, 5, none⟩) (by show g + 1 ≠ g; omega) (.slice A0 l.length c0))
   have HOW3 := xh (ownsRow_setCell_below (a := ⟨g, 5, none⟩) (ownsRow_setCell_below (a := ⟨g, 3, none⟩) HOW2.out (by show g < g + 2; omega) (.string (bstr an))) (by show g < g + 2; omega) (.slice A0 l.length c0))
   have HBG3 := xh ((HBG2.out.setCell (p := ⟨g, 3, none⟩) (Nat.le_refl g) (.string (bstr an))).setCell (p := ⟨g, 5, none⟩) (Nat.le_refl g) (.slice A0 l.length c0))
   clear hs1 hs2 hrow HRA2 HRB2 HOW2 HBG2
   go_upto_region 9 with fail
   generalize (v2.setCell ⟨g, 3, none⟩ (.string (bstr an))).setCell ⟨g, 5, none⟩ (.slice A0 l.length c0) = v3 at HRA3 HRB3 HOW3 HBG3 ⊢
   clear hf3 h3 hf5 h5
   obtain ⟨y0, y1, y2, y3, y4, y5⟩ := yy10 HRA3.out
   obtain ⟨⟨a0, f0⟩, ⟨a1, f1⟩, ⟨a2, f2⟩, ⟨a3, f3⟩, ⟨a4, f4⟩, ⟨a5, f5⟩, hres⟩ := yy505 HRB3.out (.int .i64 ak) (.int .i64 ai) (.int .i64 ap) (.string (bstr an)) (.bool ad) (.slice A0 l.length c0)
   have HRES := xh (yy644 hres)
   clear hres
   go_wp2
   refine bodyPost_ret (results_cell_row rfl _ _ (g + 1) 26 #[.int .i64 ak, .int .i64 ai, .int .i64 ap, .string (bstr an), .bool ad, .slice A0 l.length c0] (0, 0) _ rfl HRES.out Tryz.underlying26 rfl (by kernel_rfl)) rfl ?_
   have hroom := yy221 HOW3.out
   refine ⟨⟨A0, c0, rfl, hroom.1, hroom.2, ?_⟩, ?_⟩
   ·exact yy36 (yy506 HOW3.out (by show g + 1 < g + 2; omega) _ _ _ _ _ _) (by omega)
   ·exact yy279 HBG3.out (Nat.le_succ g) _ _ _ _ _ _
end Go.Proofs.YtjpjdkdbgjipnaaGreatDoor
namespace Go.Proofs.YtjpjdkdbgjipnaaGreatDoor
end Go.Proofs.YtjpjdkdbgjipnaaGreatDoor
namespace Go.Proofs.YtjpjdkdbgjipnaaGreatDoor
open Go.RowKit Go.Deep
end Go.Proofs.YtjpjdkdbgjipnaaGreatDoor
namespace Go.Proofs.YtjpjdkdbgjipnaaGreatDoor
end Go.Proofs.YtjpjdkdbgjipnaaGreatDoor
