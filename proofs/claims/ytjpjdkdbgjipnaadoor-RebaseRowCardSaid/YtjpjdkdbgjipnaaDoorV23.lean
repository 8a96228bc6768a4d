/- The landed txn's alike: two acts compared. Condition: no slice and no text is longer than memory. (Merged of 4 texts.) -/
import Derived.Test.YtjpjdkdbgjipnaaDoorV6
import Derived.Test.YtjpjdkdbgjipnaaDoorV43
import Derived.Test.YtjpjdkdbgjipnaaDoorV22
import Derived.Test.YtjpjdkdbgjipnaaDoorV44
import Derived.Laws.ResultCell
import Derived.BigRegion
import Derived.Test.YtjpjdkdbgjipnaaDoorV40
import Derived.Laws.StructEq
import Derived.Test.YtjpjdkdbgjipnaaDoorV47
namespace Go.Proofs.YtjpjdkdbgjipnaaDoor
open Go.RowKit Go.Deep
theorem yy42 {P : Program} {fn : Func} {p u : Tmp} {ty : TypeId} (h : fn.results = #[.cell p ty, .tmp u]) (tmps : Array Value) (w : World) (g : Nat) (t : TypeId) (cs : Array Value) (fr : Nat × Nat) (d : TypeDesc)
  (hp : tmps.getD p undef = .pointer (some ⟨g, 0, none⟩)) (hg : w.heap[g]? = some (.cells cs t fr))
  (hu : P.underlying ty = some d) (hd : (match d with | .struct _ | .array _ _ => true | _ => false) = true) (hi : (P.info? ty).map (·.size) = some cs.size) :
  (results fn tmps).run P w = .ok (.tuple #[.agg cs, tmps.getD u undef]) w := by
 rw [results_cell_tmp h, hp]
 simp [asAddr, Result.andThen, run_loadVar_row w g t ty cs fr d hg hu hd hi]
theorem yy424 (A : Option Addr) (n c : Nat) (hk : 1 ≤ c) (w : World) : (Instr.slice 40 (.slice A n c) none (some (.int .i64 1)) none).run Tryd.prog w = .ok (.slice (addrHigh A c) 1 c) w := by
 rw [run_slice_h (P := Tryd.prog) (w := w) 40 A n c (by rw [yy136]; exact Tryd.underlying40) .i64 (1 : Int) (by omega) (by omega), yy136, yy372]
 simp [Result.andThen, sliced, addrHigh]
theorem yy631 {c : CompV} (h : Wh c) (hs : sz c ≤ 4000) : c.Good ∧ c.text.length ≤ 16000 := by
 have hn : 0 ≤ c.n ∧ c.n ≤ 4000 := by
  rcases h.cases with g | g | g
  ·rw [sz_not (by omega)] at hs; omega
  ·rw [sz_not (by omega)] at hs; omega
  ·omega
 have ht : c.text.length ≤ 16000 := yy501 h hs
 refine ⟨⟨?_, by unfold Fit64; omega, ?_, by unfold maxLen; omega⟩, ht⟩
 ·rcases h.cases with ⟨g, _⟩ | ⟨g, _⟩ | ⟨g, _⟩ <;> (rw [g]; unfold Fit64; omega)
 ·rcases h.cases with ⟨_, _, g⟩ | ⟨_, _, g⟩ | ⟨_, _, _, vs, g⟩
  ·rw [g]; exact fun x hx => by cases hx
  ·rw [g]; exact fun x hx => by cases hx
  ·rw [← g.bytes]; exact E_lt g.may
theorem yy737 {c : CompV} (h : Wh c) (hs : sz c ≤ 4000) : c.Good ∧ c.text.length ≤ 1099511627776 := ⟨(yy631 h hs).1, by have := (yy631 h hs).2; omega⟩
noncomputable def partOf : List CompV → CompV
 | [] => ⟨0, 0, []⟩
 | c :: _ => ⟨c.kind, (sz c : Int), c.text⟩
def yy502 (A0 : Option Addr) (c0 : Nat) (l : List CompV) (W : World) (e : Ending) (w' : World) : Prop :=
 ∃ A c, e = .returned (.tuple #[.agg #[.int .i64 (partOf l).kind, .int .i64 (partOf l).n, .string (bstr (partOf l).text)], .slice A l.tail.length c]) ∧ (∀ w0, CompsC w0 A0 c0 l → CompsC w0 A c l.tail) ∧ Below W.heap.size W w'
theorem yy336 {c : CompV} (h : Wh c) (hs : sz c ≤ 4000) (hk : c.kind = 2) : rOut [c] = (sz c : Int) := by
 obtain ⟨vs, hv⟩ : ∃ vs, V c.text vs := by
  rcases h.cases with g | g | g
  ·omega
  ·omega
  ·exact g.2.2.2
 have e : rOut [c] = yy54 0 c := rfl
 rw [e, yy54, if_neg (by omega), if_pos hk, hv.loose, sz_two hk, cps_of hv]
 have : vs.length ≤ 4000 := by rw [sz_two hk, cps_of hv] at hs; exact hs
 unfold hld
 omega
set_option maxHeartbeats 2000000 in
set_option maxRecDepth 100000 in
theorem yy291 (A : Option Addr) (ca : Nat) (l : List CompV) (hl : ∀ c ∈ l, Wh c ∧ sz c ≤ 4000) (hlen : l.length ≤ maxLen) (w : World) (hA : CompsC w A ca l) :
  Calls Tryd.prog 97 #[.slice A l.length ca] w (yy502 A ca l w) := by
 cases l with
 | nil =>
  have HB : Hid (Below w.heap.size w (w.alloc (Obj.cells #[.int .i64 0, .int .i64 0, .string { data := #[] }] 51))) := (Below.refl _ _).alloc (Nat.le_refl _) _
  have h0 := cm_new w 0 0 []
  obtain ⟨a0, a1, a2, a3, a4, a5, hrow⟩ := three h0 (.int .i64 0) (.int .i64 0) (.string (bstr []))
  clear hrow h0 hA hlen hl
  go_enter Tryd.func97, Tryd.ntmps97
  go_wp2
  refine bodyPost_ret (yy42 rfl _ _ w.heap.size 51 #[.int .i64 0, .int .i64 0, .string (bstr [])] (0, 0) _ rfl (heap_alloc_new w _) Tryd.underlying51 rfl (by kernel_rfl)) rfl ?_
  exact ⟨none, 0, rfl, fun _ _ => ⟨.inl rfl, Nat.le_refl _⟩, HB.out⟩
 | cons c l =>
  obtain ⟨b, off, A', rfl, hb, y0, y1, y2, hsl, hA', hlc⟩ := yy272 hA.1 hA.2
  have HC := xh (hl c (by simp))
  have HNX : Hid (∀ w0, CompsC w0 (some ⟨b, off, none⟩) ca (c :: l) → CompsC w0 A' (ca - 1) l) := by
   intro w0 h0
   obtain ⟨b', off', A'', e, _, _, _, _, hsl', hA'', hc''⟩ := yy272 h0.1 h0.2
   injection e with e
   injection e with e1 e2 _
   subst e1 e2
   have e3 := (hsl w0).symm.trans (hsl' w0)
   injection e3 with e3 _
   injection e3 with e3 _ _
   subst e3
   exact ⟨hA'', hc''⟩
  have HA0 : Hid (yy6 w (addrHigh (some ⟨b, off, none⟩) ca) [c]) := by
   have h1 : ca ≠ 0 := by have := hA.2; simp only [List.length_cons] at this; omega
   rw [addrHigh, if_neg h1]
   exact yy6.below (w := w) (by
    have := hA.1
    rcases this with h | ⟨b', off', e, hlt, hcc⟩
    ·exact absurd (congrArg List.length h) (by simp [yy2])
    ·injection e with e
     injection e with e1 e2
     subst e1 e2
     refine .inr ⟨b, off, rfl, hlt, fun j v hj => hcc j v ?_⟩
     rw [List.flatMap_cons, List.getElem?_append_left]
     ·simpa using hj
     ·have := (List.getElem?_eq_some_iff.1 hj).1
      simpa [yy2] using this) (Below.refl _ _)
  have HF1 : Hid (∀ w, yy6 w (addrHigh (some ⟨b, off, none⟩) ca) [c] → Calls Tryd.prog 78 #[.slice (addrHigh (some ⟨b, off, none⟩) ca) 1 ca] w fun e w' => e = .returned (.int .i64 (rOut [c])) ∧ Below w.heap.size w w') := fun w h =>
   yy241 _ ca [c] (by unfold maxLen; simp) (by
    intro y hy
    rw [List.mem_singleton.1 hy]
    exact yy737 HC.out.1 HC.out.2) w h
  have hs0 := yy424 (some ⟨b, off, none⟩) (l.length + 1) ca (by have := hA.2; simp only [List.length_cons] at this; omega)
  have HB1 : Hid (Below w.heap.size w (w.alloc (Obj.cells #[.int .i64 0, .int .i64 0, .string { data := #[] }] 51))) := (Below.refl _ _).alloc (Nat.le_refl _) _
  rw [← HB1.out.cell (p := ⟨b, off, none⟩) hb] at y0
  rw [← HB1.out.cell (p := ⟨b, off + 1, none⟩) hb] at y1
  rw [← HB1.out.cell (p := ⟨b, off + 2, none⟩) hb] at y2
  obtain ⟨kd, n, t⟩ := c
  simp only at y0 y1 y2
  have hr1 := (cm_new w 0 0 []).alloc (Obj.cells #[.int .i64 kd, .int .i64 n, .string (bstr t)] 51)
  have hr2 := cm_new (w.alloc (.cells #[.int .i64 0, .int .i64 0, .string (bstr [])] 51)) kd n t
  have hsz1 : (w.alloc (.cells #[.int .i64 0, .int .i64 0, .string (bstr [])] 51)).heap.size = w.heap.size + 1 := by simp
  rw [hsz1] at hr2
  have hb0 : Below w.heap.size w ((w.alloc (.cells #[.int .i64 0, .int .i64 0, .string { data := #[] }] 51)).alloc (Obj.cells #[.int .i64 kd, .int .i64 n, .string (bstr t)] 51)) := ((Below.refl _ _).alloc (Nat.le_refl _) _).alloc (by simp) _
  have HWL : Hid (((w.alloc (.cells #[.int .i64 0, .int .i64 0, .string { data := #[] }] 51)).alloc (Obj.cells #[.int .i64 kd, .int .i64 n, .string (bstr t)] 51)).heap.size = w.heap.size + 2) := by show _ = _; simp
  obtain ⟨w1, HW1⟩ : ∃ x, Hid (((w.alloc (Obj.cells #[.int .i64 0, .int .i64 0, .string { data := #[] }] 51)).alloc (Obj.cells #[.int .i64 kd, .int .i64 n, .string (bstr t)] 51)) = x) := ⟨_, rfl⟩
  replace hr1 : w1.rowIs w.heap.size 51 3 (yy25 0 0 []) := by rw [← HW1.out]; exact hr1
  replace hr2 : w1.rowIs (w.heap.size + 1) 51 3 (yy25 kd n t) := by rw [← HW1.out]; exact hr2
  rw [HW1.out] at hb0 HWL
  have HR1 := xh hr1
  have HR2 := xh hr2
  have HB0 := xh hb0
  have HBB := xh hb
  obtain ⟨g, HG⟩ : ∃ x, Hid (w.heap.size = x) := ⟨_, rfl⟩
  clear hr1 hr2 hb0 hsz1 hb hl hlen hA hA' hlc
  rw [List.length_cons]
  have n1 : (((l.length + 1 : Nat) : Int) == 0) = false := xn (by omega)
  have n2 : ((l.length : Int) + 1 == 0) = false := xn (by omega)
  by_cases h2 : kd = 2
  ·subst h2
   have HOU : Hid (rOut [⟨2, n, t⟩] = (sz ⟨2, n, t⟩ : Int)) := yy336 HC.out.1 HC.out.2 rfl
   rw [HOU.out] at HF1
   obtain ⟨z, HZ⟩ : ∃ z, Hid (sz (⟨2, n, t⟩ : CompV) = z) := ⟨_, rfl⟩
   rw [HZ.out] at HF1
   go_enter Tryd.func97, Tryd.ntmps97
   go_wp2_with fail
   rw [HW1.out]
   refine (HF1.out _ (HA0.out.below HB0.out)).mono ?_
   rintro e w2 ⟨rfl, hb2⟩
   have s1 := HR1.out.of_block (hb2.block _ HR1.out.lt)
   have s2 := HR2.out.of_block (hb2.block _ HR2.out.lt)
   have x1 := (cm_row s2).2.1
   have xf := s2.frozen 1
   obtain ⟨w3, HW3⟩ : ∃ x, Hid (w2.setCell ⟨w.heap.size + 1, 1, none⟩ (.int .i64 (z : Int)) = x) := ⟨_, rfl⟩
   have HR1B : Hid (w3.rowIs w.heap.size 51 3 (yy25 0 0 [])) := by show World.rowIs _ _ _ _ _; rw [← HW3.out]; exact s1.setOther (by show w.heap.size ≠ w.heap.size + 1; omega) _
   have HR2B : Hid (w3.rowIs (w.heap.size + 1) 51 3 (yy25 2 (z : Int) t)) := by
    show World.rowIs _ _ _ _ _
    rw [← HW3.out]
    exact (s2.set 1 (.int .i64 (z : Int))).congr fun i hi => by rcases (show i = 0 ∨ i = 1 ∨ i = 2 by omega) with rfl | rfl | rfl <;> rfl
   have HB3 : Hid (Below w.heap.size w w3) := by
    show Below _ _ _
    rw [← HW3.out]
    exact (HB0.out.trans (hb2.mono HB0.out.size)).setCell (by show w.heap.size ≤ w.heap.size + 1; omega) _
   clear s1 s2 hb2 y0 y1 y2
   go_wp2_with fail
   rw [HW3.out]
   clear x1 xf
   have y0 := (cm_row HR2B.out).1
   have y1 := (cm_row HR2B.out).2.1
   have y2 := (cm_row HR2B.out).2.2
   obtain ⟨a0, a1, a2, a3, a4, a5, hrow⟩ := three HR1B.out (.int .i64 2) (.int .i64 (z : Int)) (.string (bstr t))
   have HROW := xh (show World.rowIs ((((w3.setCell ⟨w.heap.size, 0, none⟩ (.int .i64 2)).setCell ⟨w.heap.size, 1, none⟩ (.int .i64 (z : Int))).setCell ⟨w.heap.size, 2, none⟩ (.string (bstr t))).drew) w.heap.size 51 3 _ from hrow)
   have HBE : Hid (Below w.heap.size w ((((w3.setCell ⟨w.heap.size, 0, none⟩ (.int .i64 2)).setCell ⟨w.heap.size, 1, none⟩ (.int .i64 (z : Int))).setCell ⟨w.heap.size, 2, none⟩ (.string (bstr t))).drew)) :=
    (((HB3.out.setCell (by show w.heap.size ≤ w.heap.size; omega) _).setCell (by show w.heap.size ≤ w.heap.size; omega) _).setCell (by show w.heap.size ≤ w.heap.size; omega) _).drew
   clear hrow
   go_region
   clear a0 a1 a2 a3 a4 a5 y0 y1 y2
   generalize World.drew _ = w4 at HROW HBE ⊢
   go_wp2
   refine bodyPost_ret (yy42 rfl _ _ w.heap.size 51 #[.int .i64 2, .int .i64 (z : Int), .string (bstr t)] (0, 0) _ rfl (yy112 #[.int .i64 2, .int .i64 (z : Int), .string (bstr t)] HROW.out (fun i hi => by
    have hi' : i < 3 := hi
    have : i = 0 ∨ i = 1 ∨ i = 2 := by omega
    rcases this with rfl | rfl | rfl <;> rfl)) Tryd.underlying51 rfl (by kernel_rfl)) rfl ?_
   refine ⟨A', ca - 1, ?_, HNX.out, HBE.out⟩
   rw [partOf, HZ.out]
   rfl
  ·have g2 : (kd == 2) = false := xn h2
   have HZE : Hid ((sz ⟨kd, n, t⟩ : Int) = n) := by
    show (sz (⟨kd, n, t⟩ : CompV) : Int) = n
    rw [sz_not h2]
    rcases HC.out.1.cases with g | g | g <;> (simp only at g ⊢; omega)
   have HR1B := HR1
   have HR2B := HR2
   have HB3 := HB0
   go_enter Tryd.func97, Tryd.ntmps97
   go_wp2_with fail
   rw [HW1.out]
   clear y0 y1 y2
   have y0 := (cm_row HR2B.out).1
   have y1 := (cm_row HR2B.out).2.1
   have y2 := (cm_row HR2B.out).2.2
   obtain ⟨a0, a1, a2, a3, a4, a5, hrow⟩ := three HR1B.out (.int .i64 kd) (.int .i64 n) (.string (bstr t))
   have HROW := xh (show World.rowIs ((((w1.setCell ⟨w.heap.size, 0, none⟩ (.int .i64 kd)).setCell ⟨w.heap.size, 1, none⟩ (.int .i64 n)).setCell ⟨w.heap.size, 2, none⟩ (.string (bstr t))).drew) w.heap.size 51 3 _ from hrow)
   have HBE : Hid (Below w.heap.size w ((((w1.setCell ⟨w.heap.size, 0, none⟩ (.int .i64 kd)).setCell ⟨w.heap.size, 1, none⟩ (.int .i64 n)).setCell ⟨w.heap.size, 2, none⟩ (.string (bstr t))).drew)) :=
    (((HB3.out.setCell (by show w.heap.size ≤ w.heap.size; omega) _).setCell (by show w.heap.size ≤ w.heap.size; omega) _).setCell (by show w.heap.size ≤ w.heap.size; omega) _).drew
   clear hrow
   go_region
   clear a0 a1 a2 a3 a4 a5 y0 y1 y2
   generalize World.drew _ = w4 at HROW HBE ⊢
   go_wp2
   refine bodyPost_ret (yy42 rfl _ _ w.heap.size 51 #[.int .i64 kd, .int .i64 n, .string (bstr t)] (0, 0) _ rfl (yy112 #[.int .i64 kd, .int .i64 n, .string (bstr t)] HROW.out (fun i hi => by
    have hi' : i < 3 := hi
    have : i = 0 ∨ i = 1 ∨ i = 2 := by omega
    rcases this with rfl | rfl | rfl <;> rfl)) Tryd.underlying51 rfl (by kernel_rfl)) rfl ?_
   refine ⟨A', ca - 1, ?_, HNX.out, HBE.out⟩
   rw [partOf, HZE.out]
   rfl
set_option maxRecDepth 100000 in
theorem yy292 (a b x y : Int) (t u : ByteArray) (w : World) :
  (Op.equalIn 10000 51 (.agg #[.int .i64 a, .int .i64 b, .string t]) (.agg #[.int .i64 x, .int .i64 y, .string u])).run Tryd.prog w = .ok (a == x && (b == y && t.toList == u.toList)) w := by
 have hS : Tryd.prog.underlying 51 = some (.struct (Tryd.prog.fieldsOf 51)) := by kernel_rfl
 have hp : Tryd.prog.stoodInHeld 51 = false := by kernel_rfl
 have u3 := Tryd.underlying3
 have a3 := Tryd.isAgg3
 have z3 := Tryd.sizeOf3
 have u9 := Tryd.underlying9
 have a9 := Tryd.isAgg9
 have z9 := Tryd.sizeOf9
 rw [show (10000 : Nat) = 9999 + 1 from rfl, run_equalIn_agg w 9999 51 _ _ hS hp]
 simp only [Program.fieldsOf, Tryd.underlying51]
 cases h1 : a == x <;> cases h2 : b == y <;> cases h3 : t.toList == u.toList <;> go_simp <;> simp [h1, h2, h3]
set_option maxRecDepth 100000 in
theorem yy684 (a b x y : Int) (t u : ByteArray) (w : World) :
  (binOp .neq 51 (.agg #[.int .i64 a, .int .i64 b, .string t]) (.agg #[.int .i64 x, .int .i64 y, .string u])).run Tryd.prog w = .ok (.bool (!(a == x && (b == y && t.toList == u.toList)))) w := by
 rw [run_neq_struct, yy292]
 rfl
theorem yy504 : Tryd.prog.eqGuardType Tryd.prog.depth 51 = false := by kernel_rfl
set_option maxHeartbeats 2000000 in
set_option maxRecDepth 100000 in
theorem yy425 (A B : Option Addr) (ca cb : Nat) (l m : List CompV) (hl : l.length ≤ maxLen) (hm : m.length ≤ maxLen) (hgl : ∀ y ∈ l, y.Good) (hgm : ∀ y ∈ m, y.Good) (w : World) (hA : yy6 w A l) (hB : yy6 w B m) :
  Calls Tryd.prog 101 #[.slice A l.length ca, .slice B m.length cb] w fun e w' => e = .returned (.bool (sameB l m)) ∧ Below w.heap.size w w' := by
 unfold maxLen at hl hm
 have HA := xh hA; clear hA
 have HB := xh hB; clear hB
 have HGL := xh hgl; clear hgl
 have HGM := xh hgm; clear hgm
 obtain ⟨T, HT⟩ : ∃ T, Hid (sameB l m = T) := ⟨_, xh rfl⟩
 rw [HT.out]
 by_cases hlen : l.length = m.length
 ·rw [← hlen]
  have HLEN := xh hlen
  clear hlen
  go_enter Tryd.func101, Tryd.ntmps101
  go_wp2
  go_loopw [13] (fun i wr => ∃ k : Nat, k ≤ l.length ∧ i = .int .i64 k ∧ l.take k = m.take k ∧ Below w.heap.size w wr) (fun i _ => l.length - (intOf i).toNat)
  case atStart => exact ⟨0, Nat.zero_le _, rfl, rfl, Below.refl _ _⟩
  case round =>
   obtain ⟨k, hk, rfl, htk, hbel⟩ := hrel
   have HBEL := xh hbel; clear hbel
   have HTK := xh htk; clear htk
   by_cases hlt : k < l.length
   ·have hlt2 : k < m.length := by have := HLEN.out; omega
    obtain ⟨b1, o1, rfl, _⟩ := HA.out.form (by omega)
    obtain ⟨b2, o2, rfl, _⟩ := HB.out.form (by omega)
    obtain ⟨x0, x1, x2⟩ := (HA.out.below HBEL.out).at_ hlt
    obtain ⟨y0, y1, y2⟩ := (HB.out.below HBEL.out).at_ hlt2
    have HYES : Hid (l[k] = m[k] → l.take (k + 1) = m.take (k + 1)) := fun h => by rw [List.take_succ_eq_append_getElem hlt, List.take_succ_eq_append_getElem hlt2, HTK.out, h]
    have HNO : Hid (l[k] ≠ m[k] → T = false) := fun h => by rw [← HT.out]; exact yy155 fun e => h (by subst e; rfl)
    have HG1 := xh (HGL.out l[k] (List.getElem_mem hlt))
    have HG2 := xh (HGM.out m[k] (List.getElem_mem hlt2))
    generalize l[k] = c at x0 x1 x2 HYES HNO HG1
    generalize m[k] = d at y0 y1 y2 HYES HNO HG2
    clear hlt2
    obtain ⟨kd, n, tx⟩ := c
    obtain ⟨kd2, n2, tx2⟩ := d
    simp only at x0 x1 x2 y0 y1 y2
    have hgt := yy504
    have hcm := fun w => yy684 kd n kd2 n2 (bstr tx) (bstr tx2) w
    have hce := fun w => yy292 kd n kd2 n2 (bstr tx) (bstr tx2) w
    by_cases he : kd = kd2 ∧ n = n2 ∧ tx = tx2
    ·have HY2 := xh (HYES.out (by obtain ⟨rfl, rfl, rfl⟩ := he; rfl))
     have hv : (kd == kd2 && (n == n2 && (bstr tx).toList == (bstr tx2).toList)) = true := by obtain ⟨rfl, rfl, rfl⟩ := he; simp
     rw [hv] at hce
     replace hcm := fun w => (hcm w).trans (by rw [hv]; rfl : _ = Result.ok (.bool false) w)
     clear hv he
     go_wp2_with fail
     go_region
     go_wp2
     go_roundw
     case rel => exact ⟨k + 1, by omega, by go_num, HY2.out, HBEL.out.drew⟩
     case measure => simp [intOf]; omega
    ·have HF : Hid (T = false) := HNO.out fun h => he (by injection h with h1 h2 h3; exact ⟨h1, h2, h3⟩)
     have hv : (kd == kd2 && (n == n2 && (bstr tx).toList == (bstr tx2).toList)) = false := by
      by_cases e0 : kd = kd2
      ·by_cases e1 : n = n2
       ·have e2 : ¬ tx = tx2 := fun e => he ⟨e0, e1, e⟩
        rw [bstr_neq fun h => e2 (bstr_inj _ _ HG1.out.2.2.1 HG2.out.2.2.1 h)]
        simp
       ·rw [xn e1]; simp
      ·rw [xn e0]; simp
     rw [hv] at hce
     replace hcm := fun w => (hcm w).trans (by rw [hv]; rfl : _ = Result.ok (.bool true) w)
     clear hv he
     go_wp2_with fail
     go_region
     go_wp2
     go_ret
     exact ⟨by rw [HF.out]; rfl, HBEL.out.drew⟩
   ·have HF : Hid (T = true) := by
     show T = true
     rw [← HT.out]
     apply yy178
     have := HTK.out
     rwa [List.take_of_length_le (by omega), List.take_of_length_le (by have := HLEN.out; omega)] at this
    go_wp2
    go_ret
    exact ⟨by rw [HF.out]; rfl, HBEL.out⟩
 ·have HF : Hid (T = false) := by show T = false; rw [← HT.out]; exact yy155 fun h => hlen (by rw [h])
  have g0 : ((l.length : Int) == (m.length : Int)) = false := xn (by omega)
  have g0' : ((l.length : Int) != (m.length : Int)) = true := bne_iff_ne.2 (by omega)
  clear hlen
  go_enter Tryd.func101, Tryd.ntmps101
  go_wp2
  go_ret
  exact ⟨by rw [HF.out]; rfl, Below.refl _ _⟩
theorem yy505 (A B : Option Addr) (ca cb : Nat) (l m : List CompV) (hl : l.length ≤ maxLen) (hm : m.length ≤ maxLen) (hgl : ∀ y ∈ l, y.Good) (hgm : ∀ y ∈ m, y.Good) (w : World) (hA : yy6 w A l) (hB : yy6 w B m) :
  Calls Tryd.prog 89 #[.slice A l.length ca, .slice B m.length cb] w fun e w' => e = .returned (.bool (sameB l m)) ∧ Below w.heap.size w w' := by
 have GE := xh (yy425 A B ca cb l m hl hm hgl hgm w hA hB)
 obtain ⟨T, HT⟩ : ∃ T, Hid (sameB l m = T) := ⟨_, xh rfl⟩
 rw [HT.out] at GE ⊢
 clear hA hB hgl hgm
 go_enter Tryd.func89, Tryd.ntmps89
 go_wp2_with fail
 refine GE.out.mono ?_
 rintro e w1 ⟨rfl, hb1⟩
 have HB1 := xh hb1; clear hb1
 go_wp2
 go_ret
 exact ⟨rfl, HB1.out⟩
theorem yy426 (n : Int) (w : World) :
  Calls Tryd.prog 98 #[.int .i64 n] w fun e w' => ∃ A c, e = .returned (.slice A (keepL n).length c) ∧ CompsC w' A c (keepL n) ∧ Below w.heap.size w w' := by
 by_cases h : n < 1
 ·have HK : Hid (keepL n = []) := if_pos h
  rw [HK.out]
  go_enter Tryd.func98, Tryd.ntmps98
  go_wp2
  go_ret
  exact ⟨none, 0, rfl, ⟨.inl rfl, Nat.le_refl _⟩, Below.refl _ _⟩
 ·have HK : Hid (keepL n = [⟨1, n, []⟩]) := if_neg h
  rw [HK.out]
  have GR := xh (fun w => yy190 n w)
  go_enter Tryd.func98, Tryd.ntmps98
  go_wp2_with fail
  refine (GR.out _).mono ?_
  rintro e w1 ⟨rfl, hb1⟩
  have HB1 := xh hb1; clear hb1
  go_wp2
  go_ret
  refine ⟨some ⟨w1.heap.size, 0, none⟩, 1, rfl, ⟨yy4.lit (fun j v hj => ?_) rfl, Nat.le_refl _⟩, HB1.out.alloc HB1.out.size _⟩
  match j, hj with
  | 0, hj => cases hj; rfl
  | 1, hj => cases hj; rfl
  | 2, hj => cases hj; rfl
set_option maxHeartbeats 2000000 in
set_option maxRecDepth 100000 in
theorem yy584 (a b : ActV) (ha : a.Good) (hb : b.Good) (w : World) (hA : yy6 w a.opsA a.ops) (hB : yy6 w b.opsA b.ops) :
  Calls Tryd.prog 72 #[.agg (yy0 a).toArray, .agg (yy0 b).toArray] w fun e w' => e = .returned (.bool (sameA a b)) ∧ Below w.heap.size w w' := by
 have GS := xh (fun w' (h : Below w.heap.size w w') => yy505 a.opsA b.opsA a.opsC b.opsC a.ops b.ops (by have := ha.2.2.2.2.2; unfold maxLen at *; omega) (by have := hb.2.2.2.2.2; unfold maxLen at *; omega) ha.2.2.2.2.1 hb.2.2.2.2.1 w' (hA.below h) (hB.below h))
 have hn := ha.2.2.2.1
 have hn2 := hb.2.2.2.1
 have hb2 := ((Below.refl w.heap.size w).alloc (Nat.le_refl _) (.cells (yy0 a).toArray 46)).alloc (by simp) (.cells (yy0 b).toArray 46)
 clear ha hb hA hB
 obtain ⟨k, i, p, n, d, A, c, o⟩ := a
 obtain ⟨k2, i2, p2, n2, d2, A2, c2, o2⟩ := b
 simp only at GS hn hn2
 by_cases h0 : k = k2
 ·subst h0
  by_cases h1 : i = i2
  ·subst h1
   by_cases h2 : p = p2
   ·subst h2
    by_cases h3 : n = n2
    ·subst h3
     by_cases h4 : d = d2
     ·subst h4
      rw [show sameA ⟨k, i, p, n, d, A, c, o⟩ ⟨k, i, p, n, d, A2, c2, o2⟩ = sameB o o2 from by
       by_cases h : o = o2
       ·rw [yy178 h]; exact yy137 (by simp [aKey, h])
       ·rw [yy155 h]; exact yy59 (fun e => h (by simpa [aKey] using e))]
      generalize sameB o o2 = T at GS
      have eT : (if T = true then T else false) = T := by cases T <;> rfl
      unfold yy0 at hb2 ⊢
      simp only at hb2
      go_enter Tryd.func72, Tryd.ntmps72
      go_wp2_with fail
      refine (GS.out _ hb2).mono ?_
      rintro e w2 ⟨rfl, hb3⟩
      go_wp2
      go_ret
      exact ⟨rfl, hb2.trans (hb3.mono hb2.size)⟩
     ·skip
      rw [yy59 fun e => h4 (by simp only [aKey, Prod.mk.injEq] at e; exact e.2.2.2.2.1)]
      have g : (d == d2) = false := xn h4
      clear h4 GS
      unfold yy0 at hb2 ⊢
      go_enter Tryd.func72, Tryd.ntmps72
      go_wp2
      go_ret
      exact ⟨rfl, hb2⟩
    ·skip
     rw [yy59 fun e => h3 (by simp only [aKey, Prod.mk.injEq] at e; exact e.2.2.2.1)]
     have g : ((bstr n).toList == (bstr n2).toList) = false := bstr_neq fun h => h3 (bstr_inj _ _ hn.1 hn2.1 h)
     clear h3 GS
     unfold yy0 at hb2 ⊢
     go_enter Tryd.func72, Tryd.ntmps72
     go_wp2
     go_ret
     exact ⟨rfl, hb2⟩
   ·skip
    rw [yy59 fun e => h2 (by simp only [aKey, Prod.mk.injEq] at e; exact e.2.2.1)]
    have g : (p == p2) = false := xn h2
    clear h2 GS
    unfold yy0 at hb2 ⊢
    go_enter Tryd.func72, Tryd.ntmps72
    go_wp2
    go_ret
    exact ⟨rfl, hb2⟩
  ·skip
   rw [yy59 fun e => h1 (by simp only [aKey, Prod.mk.injEq] at e; exact e.2.1)]
   have g : (i == i2) = false := xn h1
   clear h1 GS
   unfold yy0 at hb2 ⊢
   go_enter Tryd.func72, Tryd.ntmps72
   go_wp2
   go_ret
   exact ⟨rfl, hb2⟩
 ·skip
  rw [yy59 fun e => h0 (by simp only [aKey, Prod.mk.injEq] at e; exact e.1)]
  have g : (k == k2) = false := xn h0
  clear h0 GS
  unfold yy0 at hb2 ⊢
  go_enter Tryd.func72, Tryd.ntmps72
  go_wp2
  go_ret
  exact ⟨rfl, hb2⟩
end Go.Proofs.YtjpjdkdbgjipnaaDoor
