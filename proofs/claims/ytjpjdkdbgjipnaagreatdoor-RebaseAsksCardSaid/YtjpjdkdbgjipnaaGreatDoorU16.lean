/- Slices of edits: what they read as, in this world and in later ones; how such an argument is opened. No condition beyond those that each lemma states. (Merged of 5 texts.) -/
import Derived.Test.YtjpjdkdbgjipnaaGreatDoorU48
import Derived.Test.YtjpjdkdbgjipnaaGreatDoorU6
import Derived.Test.YtjpjdkdbgjipnaaGreatDoorU2
import Derived.Test.YtjpjdkdbgjipnaaGreatDoorU14
import Derived.Test.YtjpjdkdbgjipnaaGreatDoorU19
import Derived.Laws.ResultCell
import Derived.BigRegion
import Derived.Test.YtjpjdkdbgjipnaaGreatDoorU45
import Derived.Laws.StructEq
namespace Go.Proofs.YtjpjdkdbgjipnaaGreatDoor
open Go.RowKit Go.Deep
def CompsC (w : World) (A : Option Addr) (c : Nat) (l : List CompV) : Prop := yy8 w A l ∧ l.length ≤ c
theorem CompsC.below {w w' : World} {A : Option Addr} {c : Nat} {l : List CompV} (h : CompsC w A c l) (hb : Below w.heap.size w w') : CompsC w' A c l := ⟨h.1.below hb, h.2⟩
theorem CompsC.of_own {w : World} {base : Nat} {A : Option Addr} {c : Nat} {l : List CompV} (h : w.ownsRow base 60 3 (.slice A l.length c) l.length (l.flatMap yy2)) : CompsC w A c l := by
 refine ⟨yy7.of_own h, ?_⟩
 rcases h.2 with ⟨h1, h2⟩ | ⟨g, cap, cur, h1, _, _, h2, _⟩
 ·rw [h2]; exact Nat.zero_le _
 ·injection h1 with _ _ h1
  rw [h1]; exact h2
theorem yy44 {P : Program} {fn : Func} {p u : Tmp} {ty : TypeId} (h : fn.results = #[.cell p ty, .tmp u]) (tmps : Array Value) (w : World) (g : Nat) (t : TypeId) (cs : Array Value) (fr : Nat × Nat) (d : TypeDesc)
  (hp : tmps.getD p undef = .pointer (some ⟨g, 0, none⟩)) (hg : w.heap[g]? = some (.cells cs t fr))
  (hu : P.underlying ty = some d) (hd : (match d with | .struct _ | .array _ _ => true | _ => false) = true) (hi : (P.info? ty).map (·.size) = some cs.size) :
  (results fn tmps).run P w = .ok (.tuple #[.agg cs, tmps.getD u undef]) w := by
 rw [results_cell_tmp h, hp]
 simp [asAddr, Result.andThen, run_loadVar_row w g t ty cs fr d hg hu hd hi]
theorem yy446 (A : Option Addr) (n c : Nat) (hk : 1 ≤ c) (w : World) : (Instr.slice 24 (.slice A n c) none (some (.int .i64 1)) none).run Tryz.prog w = .ok (.slice (addrHigh A c) 1 c) w := by
 rw [run_slice_h (P := Tryz.prog) (w := w) 24 A n c (by rw [yy147]; exact Tryz.underlying24) .i64 (1 : Int) (by omega) (by omega), yy147, yy402]
 simp [Result.andThen, sliced, addrHigh]
theorem yy651 {c : CompV} (h : Wh c) (hs : sz c ≤ 4000) : c.Good ∧ c.text.length ≤ 16000 := by
 have hn : 0 ≤ c.n ∧ c.n ≤ 4000 := by
  rcases h.cases with g | g | g
  ·rw [sz_not (by omega)] at hs; omega
  ·rw [sz_not (by omega)] at hs; omega
  ·omega
 have ht : c.text.length ≤ 16000 := yy521 h hs
 refine ⟨⟨?_, by unfold Fit64; omega, ?_, by unfold maxLen; omega⟩, ht⟩
 ·rcases h.cases with ⟨g, _⟩ | ⟨g, _⟩ | ⟨g, _⟩ <;> (rw [g]; unfold Fit64; omega)
 ·rcases h.cases with ⟨_, _, g⟩ | ⟨_, _, g⟩ | ⟨_, _, _, vs, g⟩
  ·rw [g]; exact fun x hx => by cases hx
  ·rw [g]; exact fun x hx => by cases hx
  ·rw [← g.bytes]; exact E_lt g.may
theorem yy743 {c : CompV} (h : Wh c) (hs : sz c ≤ 4000) : c.Good ∧ c.text.length ≤ 1099511627776 := ⟨(yy651 h hs).1, by have := (yy651 h hs).2; omega⟩
noncomputable def partOf : List CompV → CompV
 | [] => ⟨0, 0, []⟩
 | c :: _ => ⟨c.kind, (sz c : Int), c.text⟩
def yy522 (A0 : Option Addr) (c0 : Nat) (l : List CompV) (W : World) (e : Ending) (w' : World) : Prop :=
 ∃ A c, e = .returned (.tuple #[.agg #[.int .i64 (partOf l).kind, .int .i64 (partOf l).n, .string (bstr (partOf l).text)], .slice A l.tail.length c]) ∧ (∀ w0, CompsC w0 A0 c0 l → CompsC w0 A c l.tail) ∧ Below W.heap.size W w'
theorem yy360 {c : CompV} (h : Wh c) (hs : sz c ≤ 4000) (hk : c.kind = 2) : rOut [c] = (sz c : Int) := by
 obtain ⟨vs, hv⟩ : ∃ vs, V c.text vs := by
  rcases h.cases with g | g | g
  ·omega
  ·omega
  ·exact g.2.2.2
 have e : rOut [c] = yy56 0 c := rfl
 rw [e, yy56, if_neg (by omega), if_pos hk, hv.loose, sz_two hk, cps_of hv]
 have : vs.length ≤ 4000 := by rw [sz_two hk, cps_of hv] at hs; exact hs
 unfold hld
 omega
set_option maxHeartbeats 2000000 in
set_option maxRecDepth 100000 in
theorem yy315 (A : Option Addr) (ca : Nat) (l : List CompV) (hl : ∀ c ∈ l, Wh c ∧ sz c ≤ 4000) (hlen : l.length ≤ maxLen) (w : World) (hA : CompsC w A ca l) :
  Calls Tryz.prog 89 #[.slice A l.length ca] w (yy522 A ca l w) := by
 cases l with
 | nil =>
  have HB : Hid (Below w.heap.size w (w.alloc (Obj.cells #[.int .i64 0, .int .i64 0, .string { data := #[] }] 60))) := (Below.refl _ _).alloc (Nat.le_refl _) _
  have h0 := cm_new w 0 0 []
  obtain ⟨a0, a1, a2, a3, a4, a5, hrow⟩ := three h0 (.int .i64 0) (.int .i64 0) (.string (bstr []))
  clear hrow h0 hA hlen hl
  go_enter Tryz.func89, Tryz.ntmps89
  go_wp2
  refine bodyPost_ret (yy44 rfl _ _ w.heap.size 60 #[.int .i64 0, .int .i64 0, .string (bstr [])] (0, 0) _ rfl (heap_alloc_new w _) Tryz.underlying60 rfl (by kernel_rfl)) rfl ?_
  exact ⟨none, 0, rfl, fun _ _ => ⟨.inl rfl, Nat.le_refl _⟩, HB.out⟩
 | cons c l =>
  obtain ⟨b, off, A', rfl, hb, y0, y1, y2, hsl, hA', hlc⟩ := yy302 hA.1 hA.2
  have HC := xh (hl c (by simp))
  have HNX : Hid (∀ w0, CompsC w0 (some ⟨b, off, none⟩) ca (c :: l) → CompsC w0 A' (ca - 1) l) := by
   intro w0 h0
   obtain ⟨b', off', A'', e, _, _, _, _, hsl', hA'', hc''⟩ := yy302 h0.1 h0.2
   injection e with e
   injection e with e1 e2 _
   subst e1 e2
   have e3 := (hsl w0).symm.trans (hsl' w0)
   injection e3 with e3 _
   injection e3 with e3 _ _
   subst e3
   exact ⟨hA'', hc''⟩
  have HA0 : Hid (yy8 w (addrHigh (some ⟨b, off, none⟩) ca) [c]) := by
   have h1 : ca ≠ 0 := by have := hA.2; simp only [List.length_cons] at this; omega
   rw [addrHigh, if_neg h1]
   exact yy8.below (w := w) (by
    have := hA.1
    rcases this with h | ⟨b', off', e, hlt, hcc⟩
    ·exact absurd (congrArg List.length h) (by simp [yy2])
    ·injection e with e
     injection e with e1 e2
     subst e1 e2
     refine .inr ⟨b, off, rfl, hlt, fun j v hj => hcc j v ?_⟩
     rw [List.flatMap_cons, List.getElem?_append_left]
     ·simpa using hj
     ·have := (List.getElem?_eq_some_iff.1 hj).1
      simpa [yy2] using this) (Below.refl _ _)
  have HF1 : Hid (∀ w, yy8 w (addrHigh (some ⟨b, off, none⟩) ca) [c] → Calls Tryz.prog 68 #[.slice (addrHigh (some ⟨b, off, none⟩) ca) 1 ca] w fun e w' => e = .returned (.int .i64 (rOut [c])) ∧ Below w.heap.size w w') := fun w h =>
   yy270 _ ca [c] (by unfold maxLen; simp) (by
    intro y hy
    rw [List.mem_singleton.1 hy]
    exact yy743 HC.out.1 HC.out.2) w h
  have hs0 := yy446 (some ⟨b, off, none⟩) (l.length + 1) ca (by have := hA.2; simp only [List.length_cons] at this; omega)
  have HB1 : Hid (Below w.heap.size w (w.alloc (Obj.cells #[.int .i64 0, .int .i64 0, .string { data := #[] }] 60))) := (Below.refl _ _).alloc (Nat.le_refl _) _
  rw [← HB1.out.cell (p := ⟨b, off, none⟩) hb] at y0
  rw [← HB1.out.cell (p := ⟨b, off + 1, none⟩) hb] at y1
  rw [← HB1.out.cell (p := ⟨b, off + 2, none⟩) hb] at y2
  obtain ⟨kd, n, t⟩ := c
  simp only at y0 y1 y2
  have hr1 := (cm_new w 0 0 []).alloc (Obj.cells #[.int .i64 kd, .int .i64 n, .string (bstr t)] 60)
  have hr2 := cm_new (w.alloc (.cells #[.int .i64 0, .int .i64 0, .string (bstr [])] 60)) kd n t
  have hsz1 : (w.alloc (.cells #[.int .i64 0, .int .i64 0, .string (bstr [])] 60)).heap.size = w.heap.size + 1 := by simp
  rw [hsz1] at hr2
  have hb0 : Below w.heap.size w ((w.alloc (.cells #[.int .i64 0, .int .i64 0, .string { data := #[] }] 60)).alloc (Obj.cells #[.int .i64 kd, .int .i64 n, .string (bstr t)] 60)) := ((Below.refl _ _).alloc (Nat.le_refl _) _).alloc (by simp) _
  have HWL : Hid (((w.alloc (.cells #[.int .i64 0, .int .i64 0, .string { data := #[] }] 60)).alloc (Obj.cells #[.int .i64 kd, .int .i64 n, .string (bstr t)] 60)).heap.size = w.heap.size + 2) := by show _ = _; simp
  obtain ⟨w1, HW1⟩ : ∃ x, Hid (((w.alloc (Obj.cells #[.int .i64 0, .int .i64 0, .string { data := #[] }] 60)).alloc (Obj.cells #[.int .i64 kd, .int .i64 n, .string (bstr t)] 60)) = x) := ⟨_, rfl⟩
  replace hr1 : w1.rowIs w.heap.size 60 3 (yy31 0 0 []) := by rw [← HW1.out]; exact hr1
  replace hr2 : w1.rowIs (w.heap.size + 1) 60 3 (yy31 kd n t) := by rw [← HW1.out]; exact hr2
  rw [HW1.out] at hb0 HWL
  have HR1 := xh hr1
  have HR2 := xh hr2
  have HB0 := xh hb0
  have HBB := xh hb
  obtain ⟨g, HG⟩ : ∃ x, Hid (w.heap.size = x) := ⟨_, rfl⟩
  clear hr1 hr2 hb0 hsz1 hb hl hlen hA hA' hlc
  rw [List.length_cons]
  have n1 : (((l.length + 1 : Nat) : Int) == 0) = false := xn (by omega)
  have n2 : ((l.length : Int) + 1 == 0) = false := xn (by omega)
  by_cases h2 : kd = 2
  ·subst h2
   have HOU : Hid (rOut [⟨2, n, t⟩] = (sz ⟨2, n, t⟩ : Int)) := yy360 HC.out.1 HC.out.2 rfl
   rw [HOU.out] at HF1
   obtain ⟨z, HZ⟩ : ∃ z, Hid (sz (⟨2, n, t⟩ : CompV) = z) := ⟨_, rfl⟩
   rw [HZ.out] at HF1
   go_enter Tryz.func89, Tryz.ntmps89
   go_wp2_with fail
   rw [HW1.out]
   refine (HF1.out _ (HA0.out.below HB0.out)).mono ?_
   rintro e w2 ⟨rfl, hb2⟩
   have s1 := HR1.out.of_block (hb2.block _ HR1.out.lt)
   have s2 := HR2.out.of_block (hb2.block _ HR2.out.lt)
   have x1 := (cm_row s2).2.1
   have xf := s2.frozen 1
   obtain ⟨w3, HW3⟩ : ∃ x, Hid (w2.setCell ⟨w.heap.size + 1, 1, none⟩ (.int .i64 (z : Int)) = x) := ⟨_, rfl⟩
   have HR1B : Hid (w3.rowIs w.heap.size 60 3 (yy31 0 0 [])) := by show World.rowIs _ _ _ _ _; rw [← HW3.out]; exact s1.setOther (by show w.heap.size ≠ w.heap.size + 1; omega) _
   have HR2B : Hid (w3.rowIs (w.heap.size + 1) 60 3 (yy31 2 (z : Int) t)) := by
    show World.rowIs _ _ _ _ _
    rw [← HW3.out]
    exact (s2.set 1 (.int .i64 (z : Int))).congr fun i hi => by rcases (show i = 0 ∨ i = 1 ∨ i = 2 by omega) with rfl | rfl | rfl <;> rfl
   have HB3 : Hid (Below w.heap.size w w3) := by
    show Below _ _ _
    rw [← HW3.out]
    exact (HB0.out.trans (hb2.mono HB0.out.size)).setCell (by show w.heap.size ≤ w.heap.size + 1; omega) _
   clear s1 s2 hb2 y0 y1 y2
   go_wp2_with fail
   rw [HW3.out]
   clear x1 xf
   have y0 := (cm_row HR2B.out).1
   have y1 := (cm_row HR2B.out).2.1
   have y2 := (cm_row HR2B.out).2.2
   obtain ⟨a0, a1, a2, a3, a4, a5, hrow⟩ := three HR1B.out (.int .i64 2) (.int .i64 (z : Int)) (.string (bstr t))
   have HROW := xh (show World.rowIs ((((w3.setCell ⟨w.heap.size, 0, none⟩ (.int .i64 2)).setCell ⟨w.heap.size, 1, none⟩ (.int .i64 (z : Int))).setCell ⟨w.heap.size, 2, none⟩ (.string (bstr t))).drew) w.heap.size 60 3 _ from hrow)
   have HBE : Hid (Below w.heap.size w ((((w3.setCell ⟨w.heap.size, 0, none⟩ (.int .i64 2)).setCell ⟨w.heap.size, 1, none⟩ (.int .i64 (z : Int))).setCell ⟨w.heap.size, 2, none⟩ (.string (bstr t))).drew)) :=
    (((HB3.out.setCell (by show w.heap.size ≤ w.heap.size; omega) _).setCell (by show w.heap.size ≤ w.heap.size; omega) _).setCell (by show w.heap.size ≤ w.heap.size; omega) _).drew
   clear hrow
   go_region
   clear a0 a1 a2 a3 a4 a5 y0 y1 y2
   generalize World.drew _ = w4 at HROW HBE ⊢
   go_wp2
   refine bodyPost_ret (yy44 rfl _ _ w.heap.size 60 #[.int .i64 2, .int .i64 (z : Int), .string (bstr t)] (0, 0) _ rfl (yy63 #[.int .i64 2, .int .i64 (z : Int), .string (bstr t)] HROW.out (fun i hi => by
    have hi' : i < 3 := hi
    have : i = 0 ∨ i = 1 ∨ i = 2 := by omega
    rcases this with rfl | rfl | rfl <;> rfl)) Tryz.underlying60 rfl (by kernel_rfl)) rfl ?_
   refine ⟨A', ca - 1, ?_, HNX.out, HBE.out⟩
   rw [partOf, HZ.out]
   rfl
  ·have g2 : (kd == 2) = false := xn h2
   have HZE : Hid ((sz ⟨kd, n, t⟩ : Int) = n) := by
    show (sz (⟨kd, n, t⟩ : CompV) : Int) = n
    rw [sz_not h2]
    rcases HC.out.1.cases with g | g | g <;> (simp only at g ⊢; omega)
   have HR1B := HR1
   have HR2B := HR2
   have HB3 := HB0
   go_enter Tryz.func89, Tryz.ntmps89
   go_wp2_with fail
   rw [HW1.out]
   clear y0 y1 y2
   have y0 := (cm_row HR2B.out).1
   have y1 := (cm_row HR2B.out).2.1
   have y2 := (cm_row HR2B.out).2.2
   obtain ⟨a0, a1, a2, a3, a4, a5, hrow⟩ := three HR1B.out (.int .i64 kd) (.int .i64 n) (.string (bstr t))
   have HROW := xh (show World.rowIs ((((w1.setCell ⟨w.heap.size, 0, none⟩ (.int .i64 kd)).setCell ⟨w.heap.size, 1, none⟩ (.int .i64 n)).setCell ⟨w.heap.size, 2, none⟩ (.string (bstr t))).drew) w.heap.size 60 3 _ from hrow)
   have HBE : Hid (Below w.heap.size w ((((w1.setCell ⟨w.heap.size, 0, none⟩ (.int .i64 kd)).setCell ⟨w.heap.size, 1, none⟩ (.int .i64 n)).setCell ⟨w.heap.size, 2, none⟩ (.string (bstr t))).drew)) :=
    (((HB3.out.setCell (by show w.heap.size ≤ w.heap.size; omega) _).setCell (by show w.heap.size ≤ w.heap.size; omega) _).setCell (by show w.heap.size ≤ w.heap.size; omega) _).drew
   clear hrow
   go_region
   clear a0 a1 a2 a3 a4 a5 y0 y1 y2
   generalize World.drew _ = w4 at HROW HBE ⊢
   go_wp2
   refine bodyPost_ret (yy44 rfl _ _ w.heap.size 60 #[.int .i64 kd, .int .i64 n, .string (bstr t)] (0, 0) _ rfl (yy63 #[.int .i64 kd, .int .i64 n, .string (bstr t)] HROW.out (fun i hi => by
    have hi' : i < 3 := hi
    have : i = 0 ∨ i = 1 ∨ i = 2 := by omega
    rcases this with rfl | rfl | rfl <;> rfl)) Tryz.underlying60 rfl (by kernel_rfl)) rfl ?_
   refine ⟨A', ca - 1, ?_, HNX.out, HBE.out⟩
   rw [partOf, HZE.out]
   rfl
set_option maxRecDepth 100000 in
theorem yy316 (a b x y : Int) (t u : ByteArray) (w : World) :
  (Op.equalIn 10000 60 (.agg #[.int .i64 a, .int .i64 b, .string t]) (.agg #[.int .i64 x, .int .i64 y, .string u])).run Tryz.prog w = .ok (a == x && (b == y && t.toList == u.toList)) w := by
 have hS : Tryz.prog.underlying 60 = some (.struct (Tryz.prog.fieldsOf 60)) := by kernel_rfl
 have hp : Tryz.prog.stoodInHeld 60 = false := by kernel_rfl
 have u3 := Tryz.underlying3
 have a3 := Tryz.isAgg3
 have z3 := Tryz.sizeOf3
 have u9 := Tryz.underlying9
 have a9 := Tryz.isAgg9
 have z9 := Tryz.sizeOf9
 rw [show (10000 : Nat) = 9999 + 1 from rfl, run_equalIn_agg w 9999 60 _ _ hS hp]
 simp only [Program.fieldsOf, Tryz.underlying60]
 cases h1 : a == x <;> cases h2 : b == y <;> cases h3 : t.toList == u.toList <;> go_simp <;> simp [h1, h2, h3]
set_option maxRecDepth 100000 in
theorem yy688 (a b x y : Int) (t u : ByteArray) (w : World) :
  (binOp .neq 60 (.agg #[.int .i64 a, .int .i64 b, .string t]) (.agg #[.int .i64 x, .int .i64 y, .string u])).run Tryz.prog w = .ok (.bool (!(a == x && (b == y && t.toList == u.toList)))) w := by
 rw [run_neq_struct, yy316]
 rfl
theorem yy524 : Tryz.prog.eqGuardType Tryz.prog.depth 60 = false := by kernel_rfl
set_option maxHeartbeats 2000000 in
set_option maxRecDepth 100000 in
theorem yy447 (A B : Option Addr) (ca cb : Nat) (l m : List CompV) (hl : l.length ≤ maxLen) (hm : m.length ≤ maxLen) (hgl : ∀ y ∈ l, y.Good) (hgm : ∀ y ∈ m, y.Good) (w : World) (hA : yy8 w A l) (hB : yy8 w B m) :
  Calls Tryz.prog 97 #[.slice A l.length ca, .slice B m.length cb] w fun e w' => e = .returned (.bool (sameB l m)) ∧ Below w.heap.size w w' := by
 unfold maxLen at hl hm
 have HA := xh hA; clear hA
 have HB := xh hB; clear hB
 have HGL := xh hgl; clear hgl
 have HGM := xh hgm; clear hgm
 obtain ⟨T, HT⟩ : ∃ T, Hid (sameB l m = T) := ⟨_, xh rfl⟩
 rw [HT.out]
 by_cases hlen : l.length = m.length
 ·rw [← hlen]
  have HLEN := xh hlen
  clear hlen
  go_enter Tryz.func97, Tryz.ntmps97
  go_wp2
  go_loopw [13] (fun i wr => ∃ k : Nat, k ≤ l.length ∧ i = .int .i64 k ∧ l.take k = m.take k ∧ Below w.heap.size w wr) (fun i _ => l.length - (intOf i).toNat)
  case atStart => exact ⟨0, Nat.zero_le _, rfl, rfl, Below.refl _ _⟩
  case round =>
   obtain ⟨k, hk, rfl, htk, hbel⟩ := hrel
   have HBEL := xh hbel; clear hbel
   have HTK := xh htk; clear htk
   by_cases hlt : k < l.length
   ·have hlt2 : k < m.length := by have := HLEN.out; omega
    obtain ⟨b1, o1, rfl, _⟩ := HA.out.form (by omega)
    obtain ⟨b2, o2, rfl, _⟩ := HB.out.form (by omega)
    obtain ⟨x0, x1, x2⟩ := (HA.out.below HBEL.out).at_ hlt
    obtain ⟨y0, y1, y2⟩ := (HB.out.below HBEL.out).at_ hlt2
    have HYES : Hid (l[k] = m[k] → l.take (k + 1) = m.take (k + 1)) := fun h => by rw [List.take_succ_eq_append_getElem hlt, List.take_succ_eq_append_getElem hlt2, HTK.out, h]
    have HNO : Hid (l[k] ≠ m[k] → T = false) := fun h => by rw [← HT.out]; exact yy174 fun e => h (by subst e; rfl)
    have HG1 := xh (HGL.out l[k] (List.getElem_mem hlt))
    have HG2 := xh (HGM.out m[k] (List.getElem_mem hlt2))
    generalize l[k] = c at x0 x1 x2 HYES HNO HG1
    generalize m[k] = d at y0 y1 y2 HYES HNO HG2
    clear hlt2
    obtain ⟨kd, n, tx⟩ := c
    obtain ⟨kd2, n2, tx2⟩ := d
    simp only at x0 x1 x2 y0 y1 y2
    have hgt := yy524
    have hcm := fun w => yy688 kd n kd2 n2 (bstr tx) (bstr tx2) w
    have hce := fun w => yy316 kd n kd2 n2 (bstr tx) (bstr tx2) w
    by_cases he : kd = kd2 ∧ n = n2 ∧ tx = tx2
    ·have HY2 := xh (HYES.out (by obtain ⟨rfl, rfl, rfl⟩ := he; rfl))
     have hv : (kd == kd2 && (n == n2 && (bstr tx).toList == (bstr tx2).toList)) = true := by obtain ⟨rfl, rfl, rfl⟩ := he; simp
     rw [hv] at hce
     replace hcm := fun w => (hcm w).trans (by rw [hv]; rfl : _ = Result.ok (.bool false) w)
     clear hv he
     go_wp2_with fail
     go_region
     go_wp2
     go_roundw
     case rel => exact ⟨k + 1, by omega, by go_num, HY2.out, HBEL.out.drew⟩
     case measure => simp [intOf]; omega
    ·have HF : Hid (T = false) := HNO.out fun h => he (by injection h with h1 h2 h3; exact ⟨h1, h2, h3⟩)
     have hv : (kd == kd2 && (n == n2 && (bstr tx).toList == (bstr tx2).toList)) = false := by
      by_cases e0 : kd = kd2
      ·by_cases e1 : n = n2
       ·have e2 : ¬ tx = tx2 := fun e => he ⟨e0, e1, e⟩
        rw [bstr_neq fun h => e2 (bstr_inj _ _ HG1.out.2.2.1 HG2.out.2.2.1 h)]
        simp
       ·rw [xn e1]; simp
      ·rw [xn e0]; simp
     rw [hv] at hce
     replace hcm := fun w => (hcm w).trans (by rw [hv]; rfl : _ = Result.ok (.bool true) w)
     clear hv he
     go_wp2_with fail
     go_region
     go_wp2
     go_ret
     exact ⟨by rw [HF.out]; rfl, HBEL.out.drew⟩
   ·have HF : Hid (T = true) := by
     show T = true
     rw [← HT.out]
     apply yy153
     have := HTK.out
     rwa [List.take_of_length_le (by omega), List.take_of_length_le (by have := HLEN.out; omega)] at this
    go_wp2
    go_ret
    exact ⟨by rw [HF.out]; rfl, HBEL.out⟩
 ·have HF : Hid (T = false) := by show T = false; rw [← HT.out]; exact yy174 fun h => hlen (by rw [h])
  have g0 : ((l.length : Int) == (m.length : Int)) = false := xn (by omega)
  have g0' : ((l.length : Int) != (m.length : Int)) = true := bne_iff_ne.2 (by omega)
  clear hlen
  go_enter Tryz.func97, Tryz.ntmps97
  go_wp2
  go_ret
  exact ⟨by rw [HF.out]; rfl, Below.refl _ _⟩
theorem yy525 (A B : Option Addr) (ca cb : Nat) (l m : List CompV) (hl : l.length ≤ maxLen) (hm : m.length ≤ maxLen) (hgl : ∀ y ∈ l, y.Good) (hgm : ∀ y ∈ m, y.Good) (w : World) (hA : yy8 w A l) (hB : yy8 w B m) :
  Calls Tryz.prog 81 #[.slice A l.length ca, .slice B m.length cb] w fun e w' => e = .returned (.bool (sameB l m)) ∧ Below w.heap.size w w' := by
 have GE := xh (yy447 A B ca cb l m hl hm hgl hgm w hA hB)
 obtain ⟨T, HT⟩ : ∃ T, Hid (sameB l m = T) := ⟨_, xh rfl⟩
 rw [HT.out] at GE ⊢
 clear hA hB hgl hgm
 go_enter Tryz.func81, Tryz.ntmps81
 go_wp2_with fail
 refine GE.out.mono ?_
 rintro e w1 ⟨rfl, hb1⟩
 have HB1 := xh hb1; clear hb1
 go_wp2
 go_ret
 exact ⟨rfl, HB1.out⟩
theorem yy448 (n : Int) (w : World) :
  Calls Tryz.prog 90 #[.int .i64 n] w fun e w' => ∃ A c, e = .returned (.slice A (keepL n).length c) ∧ CompsC w' A c (keepL n) ∧ Below w.heap.size w w' := by
 by_cases h : n < 1
 ·have HK : Hid (keepL n = []) := if_pos h
  rw [HK.out]
  go_enter Tryz.func90, Tryz.ntmps90
  go_wp2
  go_ret
  exact ⟨none, 0, rfl, ⟨.inl rfl, Nat.le_refl _⟩, Below.refl _ _⟩
 ·have HK : Hid (keepL n = [⟨1, n, []⟩]) := if_neg h
  rw [HK.out]
  have GR := xh (fun w => yy214 n w)
  go_enter Tryz.func90, Tryz.ntmps90
  go_wp2_with fail
  refine (GR.out _).mono ?_
  rintro e w1 ⟨rfl, hb1⟩
  have HB1 := xh hb1; clear hb1
  go_wp2
  go_ret
  refine ⟨some ⟨w1.heap.size, 0, none⟩, 1, rfl, ⟨yy7.lit (fun j v hj => ?_) rfl, Nat.le_refl _⟩, HB1.out.alloc HB1.out.size _⟩
  match j, hj with
  | 0, hj => cases hj; rfl
  | 1, hj => cases hj; rfl
  | 2, hj => cases hj; rfl
end Go.Proofs.YtjpjdkdbgjipnaaGreatDoor
namespace Go.Proofs.YtjpjdkdbgjipnaaGreatDoor
open Go.ChangeShapes Go.WideShapes Go.ChangeAt Go.RowKit Go.Deep
abbrev EditR := Option Addr × Nat × List CompV
def RowsC (w : World) (A : Option Addr) (L : List EditR) : Prop :=
 L = [] ∨ ∃ b off, A = some ⟨b, off, none⟩ ∧ b < w.heap.size ∧ ∀ (j : Nat) (x : EditR), L[j]? = some x → w.cell? ⟨b, off + j, none⟩ = some (.slice x.1 x.2.2.length x.2.1) ∧ CompsC w x.1 x.2.1 x.2.2
theorem RowsC.below {w w' : World} {A : Option Addr} {L : List EditR} (h : RowsC w A L) (hb : Below w.heap.size w w') : RowsC w' A L := by
 rcases h with h | ⟨b, off, hA, hlt, hc⟩
 ·exact .inl h
 ·exact .inr ⟨b, off, hA, Nat.lt_of_lt_of_le hlt hb.size, fun j x hj => ⟨(hb.cell (p := ⟨b, off + j, none⟩) hlt).trans (hc j x hj).1, (hc j x hj).2.below hb⟩⟩
theorem RowsC.cell {w : World} {b off : Nat} {L : List EditR} (h : RowsC w (some ⟨b, off, none⟩) L) {j : Nat} (hj : j < L.length) :
  w.cell? ⟨b, off + j, none⟩ = some (.slice L[j].1 L[j].2.2.length L[j].2.1) ∧ CompsC w L[j].1 L[j].2.1 L[j].2.2 := by
 rcases h with rfl | ⟨b', off', e, _, hc⟩
 ·simp at hj
 ·injection e with e
  injection e with e1 e2 e3
  subst e1 e2
  exact hc j _ (List.getElem?_eq_getElem hj)
theorem RowsC.form {w : World} {A : Option Addr} {L : List EditR} (h : RowsC w A L) (h0 : 0 < L.length) : ∃ b off, A = some ⟨b, off, none⟩ ∧ b < w.heap.size := by
 rcases h with rfl | ⟨b, off, e, hlt, _⟩
 ·simp at h0
 ·exact ⟨b, off, e, hlt⟩
section
variable {H : Type} {enc : TypeId × Value → H} {w : World}
end
end Go.Proofs.YtjpjdkdbgjipnaaGreatDoor
