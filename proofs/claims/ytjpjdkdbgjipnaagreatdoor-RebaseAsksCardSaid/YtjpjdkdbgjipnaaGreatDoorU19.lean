/- The landed txn's named: an act with those fields alone that its Kind names. No condition. (Merged of 7 texts.) -/
import Derived.Test.YtjpjdkdbgjipnaaGreatDoorU7
import Derived.Laws.Rows
import Derived.Test.YtjpjdkdbgjipnaaGreatDoorU48
import Derived.Test.YtjpjdkdbgjipnaaGreatDoorU6
import Derived.Deep.DeepAppendWide
import Derived.Lib.AppendStr
import Derived.Laws.OwnMore
import Derived.Test.YtjpjdkdbgjipnaaGreatDoorU46
namespace Go.Proofs.YtjpjdkdbgjipnaaGreatDoor
open Go.RowKit Go.Deep
theorem yy117 (a b : Int) (h0 : 0 ≤ a) (h1 : a ≤ 1099511627776) (w : World) :
  Calls Tryz.prog 84 #[.int .i64 a, .int .i64 b] w fun e w' => e = .returned (.int .i64 (hld a b)) ∧ w = w' := by
 rcases (show b < 0 ∨ (0 ≤ b ∧ b ≤ 1099511627776) ∨ 1099511627776 < b by omega) with g | ⟨g, g'⟩ | g <;>
  rcases (show a + b ≤ 1099511627776 ∨ 1099511627776 < a + b by omega) with k | k <;>
  ·go_enter Tryz.func84, Tryz.ntmps84
   go_wp2
   all_goals
    go_ret
    refine ⟨Eq.trans (b := Ending.returned (.int .i64 _)) rfl (congrArg (fun n : Int => Ending.returned (.int .i64 n)) ?_), rfl⟩
    unfold hld
    omega
theorem yy214 (n : Int) (w : World) :
  Calls Tryz.prog 99 #[.int .i64 n] w fun e w' => e = .returned (.agg #[.int .i64 1, .int .i64 n, .string (bstr [])]) ∧ Below w.heap.size w w' := by
 go_enter Tryz.func99, Tryz.ntmps99
 go_wp2
 refine bodyPost_ret (results_cell_row rfl _ _ w.heap.size 60 #[.int .i64 1, .int .i64 n, .string (bstr [])] (0, 0) _ rfl (heap_alloc_new w _) Tryz.underlying60 rfl (by kernel_rfl)) rfl ?_
 exact ⟨rfl, (Below.refl _ _).alloc (Nat.le_refl _) _⟩
theorem yy337 (n : Int) (w : World) :
  Calls Tryz.prog 101 #[.int .i64 n] w fun e w' => e = .returned (.agg #[.int .i64 3, .int .i64 n, .string (bstr [])]) ∧ Below w.heap.size w w' := by
 go_enter Tryz.func101, Tryz.ntmps101
 go_wp2
 refine bodyPost_ret (results_cell_row rfl _ _ w.heap.size 60 #[.int .i64 3, .int .i64 n, .string (bstr [])] (0, 0) _ rfl (heap_alloc_new w _) Tryz.underlying60 rfl (by kernel_rfl)) rfl ?_
 exact ⟨rfl, (Below.refl _ _).alloc (Nat.le_refl _) _⟩
theorem yy338 (t : List Nat) (w : World) :
  Calls Tryz.prog 100 #[.string (bstr t)] w fun e w' => e = .returned (.agg #[.int .i64 2, .int .i64 0, .string (bstr t)]) ∧ Below w.heap.size w w' := by
 go_enter Tryz.func100, Tryz.ntmps100
 go_wp2
 refine bodyPost_ret (results_cell_row rfl _ _ w.heap.size 60 #[.int .i64 2, .int .i64 0, .string (bstr t)] (0, 0) _ rfl (heap_alloc_new w _) Tryz.underlying60 rfl (by kernel_rfl)) rfl ?_
 exact ⟨rfl, (Below.refl _ _).alloc (Nat.le_refl _) _⟩
set_option maxHeartbeats 2000000 in
set_option maxRecDepth 100000 in
theorem yy215 (A : Option Addr) (c : Nat) (l : List CompV) (hl : l.length ≤ maxLen) (w : World) (hc : yy8 w A l) :
  Calls Tryz.prog 67 #[.slice A l.length c] w fun e w' => e = .returned (.int .i64 (rBase l)) ∧ Below w.heap.size w w' := by
 unfold maxLen at hl
 have HC := xh hc; clear hc
 obtain ⟨T, HT⟩ : ∃ T, Hid (rBase l = T) := ⟨_, xh rfl⟩
 rw [HT.out]
 go_enter Tryz.func67, Tryz.ntmps67
 go_wp2
 go_loopw [3, 8] (fun n i wr => ∃ (k : Nat) (m : Int), k ≤ l.length ∧ i = .int .i64 k ∧ n = .int .i64 m ∧ rBase (l.take k) = m ∧ Below w.heap.size w wr) (fun _ i _ => l.length - (intOf i).toNat)
 case atStart => exact ⟨0, 0, Nat.zero_le _, rfl, rfl, rfl, Below.refl _ _⟩
 case round =>
  obtain ⟨k, m, hk, rfl, rfl, hm, hbel⟩ := hrel
  have HM := xh hm; clear hm
  have HBEL := xh hbel; clear hbel
  by_cases hlt : k < l.length
  ·obtain ⟨b, off, rfl, _⟩ := HC.out.form (by omega)
   obtain ⟨x0, x1, x2⟩ := (HC.out.below HBEL.out).at_ hlt
   have HS := xh (show rBase (l.take (k + 1)) = yy54 m l[k] by rw [List.take_succ_eq_append_getElem hlt, yy298, HM.out])
   have HFIT : Hid (0 ≤ m ∧ m ≤ 1099511627776) := by show _ ∧ _; rw [← HM.out]; exact yy570 _
   generalize l[k] = y at x0 x1 x2 HS
   obtain ⟨kd, n, tx⟩ := y
   simp only at x0 x1 x2
   have hnew : Below wr.heap.size wr (wr.alloc (Obj.cells #[Value.int .i64 kd, Value.int .i64 n, Value.string (bstr tx)] 60)) := (Below.refl _ _).alloc (Nat.le_refl _) _
   have HB1 : Hid (Below w.heap.size w (wr.alloc (Obj.cells #[Value.int .i64 kd, Value.int .i64 n, Value.string (bstr tx)] 60))) := HBEL.out.trans (hnew.mono HBEL.out.size)
   clear hnew
   by_cases h1 : kd = 1 ∨ kd = 3
   ·rw [yy54, if_pos h1] at HS
    have HH := xh (fun w => yy117 m n HFIT.out.1 HFIT.out.2 w)
    obtain ⟨q, HQ⟩ : ∃ q, Hid (hld m n = q) := ⟨_, xh rfl⟩
    have HS2 : Hid (rBase (l.take (k + 1)) = q) := by show _ = _; rw [HS.out]; exact HQ.out
    rw [HQ.out] at HH
    rcases h1 with rfl | rfl
    ·go_wp2_with fail
     refine (HH.out _).mono ?_
     rintro e w1 ⟨rfl, rfl⟩
     go_wp2
     go_roundw
     case rel => exact ⟨k + 1, q, by omega, by go_num, rfl, HS2.out, HB1.out⟩
     case measure => simp [intOf]; omega
    ·go_wp2_with fail
     refine (HH.out _).mono ?_
     rintro e w1 ⟨rfl, rfl⟩
     go_wp2
     go_roundw
     case rel => exact ⟨k + 1, q, by omega, by go_num, rfl, HS2.out, HB1.out⟩
     case measure => simp [intOf]; omega
   ·have g1 : (kd == 1) = false := xn fun h => h1 (.inl h)
    have g3 : (kd == 3) = false := xn fun h => h1 (.inr h)
    rw [yy54, if_neg h1] at HS
    clear h1
    go_wp2
    go_roundw
    case rel => exact ⟨k + 1, m, by omega, by go_num, rfl, HS.out, HB1.out⟩
    case measure => simp [intOf]; omega
  ·have HE : Hid (m = T) := by show _ = _; rw [← HM.out, List.take_of_length_le (by omega), HT.out]
   go_wp2
   go_ret
   exact ⟨by rw [← HE.out]; rfl, HBEL.out⟩
set_option maxHeartbeats 2000000 in
set_option maxRecDepth 100000 in
theorem yy270 (A : Option Addr) (c : Nat) (l : List CompV) (hl : l.length ≤ maxLen) (hf : Fine1 l) (w : World) (hc : yy8 w A l) :
  Calls Tryz.prog 68 #[.slice A l.length c] w fun e w' => e = .returned (.int .i64 (rOut l)) ∧ Below w.heap.size w w' := by
 unfold maxLen at hl
 have HC := xh hc; clear hc
 have HF := xh hf; clear hf
 obtain ⟨T, HT⟩ : ∃ T, Hid (rOut l = T) := ⟨_, xh rfl⟩
 rw [HT.out]
 go_enter Tryz.func68, Tryz.ntmps68
 go_wp2
 go_loopw [3, 8] (fun n i wr => ∃ (k : Nat) (m : Int), k ≤ l.length ∧ i = .int .i64 k ∧ n = .int .i64 m ∧ rOut (l.take k) = m ∧ Below w.heap.size w wr) (fun _ i _ => l.length - (intOf i).toNat)
 case atStart => exact ⟨0, 0, Nat.zero_le _, rfl, rfl, rfl, Below.refl _ _⟩
 case round =>
  obtain ⟨k, m, hk, rfl, rfl, hm, hbel⟩ := hrel
  have HM := xh hm; clear hm
  have HBEL := xh hbel; clear hbel
  by_cases hlt : k < l.length
  ·obtain ⟨b, off, rfl, _⟩ := HC.out.form (by omega)
   obtain ⟨x0, x1, x2⟩ := (HC.out.below HBEL.out).at_ hlt
   have HS := xh (show rOut (l.take (k + 1)) = yy56 m l[k] by rw [List.take_succ_eq_append_getElem hlt, yy261, HM.out])
   have HFIT : Hid (0 ≤ m ∧ m ≤ 1099511627776) := by show _ ∧ _; rw [← HM.out]; exact yy662 _
   have HY := xh (HF.out l[k] (List.getElem_mem hlt))
   generalize l[k] = y at x0 x1 x2 HS HY
   obtain ⟨kd, n, tx⟩ := y
   simp only at x0 x1 x2
   have hnew : Below wr.heap.size wr (wr.alloc (Obj.cells #[Value.int .i64 kd, Value.int .i64 n, Value.string (bstr tx)] 60)) := (Below.refl _ _).alloc (Nat.le_refl _) _
   have HB1 : Hid (Below w.heap.size w (wr.alloc (Obj.cells #[Value.int .i64 kd, Value.int .i64 n, Value.string (bstr tx)] 60))) := HBEL.out.trans (hnew.mono HBEL.out.size)
   clear hnew
   by_cases h1 : kd = 1
   ·subst h1
    rw [yy56, if_pos rfl] at HS
    have HH := xh (fun w => yy117 m n HFIT.out.1 HFIT.out.2 w)
    obtain ⟨q, HQ⟩ : ∃ q, Hid (hld m n = q) := ⟨_, xh rfl⟩
    have HS2 : Hid (rOut (l.take (k + 1)) = q) := by show _ = _; rw [HS.out]; exact HQ.out
    rw [HQ.out] at HH
    go_wp2_with fail
    refine (HH.out _).mono ?_
    rintro e w1 ⟨rfl, rfl⟩
    go_wp2
    go_roundw
    case rel => exact ⟨k + 1, q, by omega, by go_num, rfl, HS2.out, HB1.out⟩
    case measure => simp [intOf]; omega
   ·have g1 : (kd == 1) = false := xn h1
    by_cases h2 : kd = 2
    ·subst h2
     rw [yy56, if_neg h1, if_pos rfl] at HS
     have HL := xh (fun w => yy577 tx HY.out.1.2.2.1 HY.out.2 w)
     have HH := xh (fun w => yy117 m (loose tx : Int) HFIT.out.1 HFIT.out.2 w)
     obtain ⟨z, HZ⟩ : ∃ z, Hid (loose tx = z) := ⟨_, xh rfl⟩
     obtain ⟨q, HQ⟩ : ∃ q, Hid (hld m (loose tx : Int) = q) := ⟨_, xh rfl⟩
     have HS2 : Hid (rOut (l.take (k + 1)) = q) := by show _ = _; rw [HS.out]; exact HQ.out
     rw [HQ.out] at HH
     rw [HZ.out] at HL HH
     go_wp2_with fail
     refine (HL.out _).mono ?_
     rintro e w1 ⟨rfl, hb1⟩
     have HB2 : Hid (Below w.heap.size w w1) := HB1.out.trans (hb1.mono HB1.out.size)
     clear hb1
     go_wp2_with fail
     refine (HH.out _).mono ?_
     rintro e w2 ⟨rfl, rfl⟩
     go_wp2
     go_roundw
     case rel => exact ⟨k + 1, q, by omega, by go_num, rfl, HS2.out, HB2.out⟩
     case measure => simp [intOf]; omega
    ·have g2 : (kd == 2) = false := xn h2
     rw [yy56, if_neg h1, if_neg h2] at HS
     clear h1 h2
     go_wp2
     go_roundw
     case rel => exact ⟨k + 1, m, by omega, by go_num, rfl, HS.out, HB1.out⟩
     case measure => simp [intOf]; omega
  ·have HE : Hid (m = T) := by show _ = _; rw [← HM.out, List.take_of_length_le (by omega), HT.out]
   go_wp2
   go_ret
   exact ⟨by rw [← HE.out]; rfl, HBEL.out⟩
theorem yy199 : (Tryz.prog.info? 60).map (fun i => (i.zero, i.size, i.bytes)) = some (some (.agg #[.int .i64 0, .int .i64 0, .string { data := #[] }]), 3, 32) := by kernel_rfl
theorem yy20 {ops : Array Oper} {rest : List Oper} {o : Oper} {a : Act} {w : World} {Q : Exit → Act → World → Prop} (hgd : o.guard = none) (s x : Operand)
  (ho : o.op = .call { callee := .builtin .append, args := #[s, x], argTypes := #[24, 24] })
  (W : World) (v : Value) (out : List CompV) (cr : CompV) (hs : a.eval s = v) (hown : w.ownsRow W.heap.size 60 3 v out.length (out.flatMap yy2)) (hb : Below W.heap.size W w)
  (hx : a.eval x = .slice (some ⟨w.heap.size, 0, none⟩) 1 1) (hlen : out.length ≤ 1099511627776)
  (h : ∀ out' A' c' w', out' = out ++ [cr] → w'.ownsRow W.heap.size 60 3 (.slice A' out'.length c') out'.length (out'.flatMap yy2) → Below W.heap.size W w' → wpList Tryz.prog ops Q rest (a.put o.dst (.slice A' out'.length c')) w') :
  wpList Tryz.prog ops Q (o :: rest) a (w.alloc (.cells #[.int .i64 cr.kind, .int .i64 cr.n, .string (bstr cr.text)] 60)) := by
 obtain ⟨i0, hi0, hz0, hz1, hz2⟩ := info_parts yy199
 have hsz := hb.size
 refine wpList_append_own_wide _ hgd s x 24 ho W.heap.size 60 i0 (.agg #[.int .i64 0, .int .i64 0, .string { data := #[] }]) 3 32 Tryz.underlying24 hi0 hz0 hz1 hz2 rfl (by omega) v out.length (out.flatMap yy2) hs (hown.alloc _) ⟨w.heap.size, 0, none⟩ 1 1 (yy2 cr) hx rfl ?_ ?_ (by simp only [maxLen]; omega) (by omega) (by simp; omega) ?_
 ·intro j u hj
  rw [Go.WideShapes.add_plain, Nat.zero_add, cell_of_row _ _ _ _ _ _ (heap_alloc_new w _)]
  simpa [yy2] using hj
 ·intro u hu; simp [yy2] at hu; rcases hu with rfl | rfl | rfl <;> rfl
 intro v' w' hown' hgr _
 have e : out.flatMap yy2 ++ yy2 cr = (out ++ [cr]).flatMap yy2 := by simp
 have hown2 : w'.ownsRow W.heap.size 60 3 v' (out ++ [cr]).length ((out ++ [cr]).flatMap yy2) := by
  rw [← e, List.length_append]
  exact hown'
 obtain ⟨A', c', rfl⟩ := own_slice hown2
 exact h _ A' c' w' rfl hown2 ((hb.alloc hsz _).grown hgr (by simp; omega) (fun k hk => (hown.lt k hk).1))
end Go.Proofs.YtjpjdkdbgjipnaaGreatDoor
namespace Go.Proofs.YtjpjdkdbgjipnaaGreatDoor
open Go.RowKit Go.Deep Go.Lib
structure Aside (g B : Nat) (w w' : World) : Prop where
 os : w'.os = w.os
 tape : w'.tape = w.tape
 output : w'.output = w.output
 size : w.heap.size ≤ w'.heap.size
 block : ∀ k, k < B → k ≠ g → w'.heap[k]? = w.heap[k]?
theorem Aside.refl (g B : Nat) (w : World) : Aside g B w w := ⟨rfl, rfl, rfl, Nat.le_refl _, fun _ _ _ => rfl⟩
theorem Aside.trans {g B : Nat} {a b c : World} (h : Aside g B a b) (k : Aside g B b c) : Aside g B a c :=
 ⟨k.os.trans h.os, k.tape.trans h.tape, k.output.trans h.output, Nat.le_trans h.size k.size, fun i hi hg => (k.block i hi hg).trans (h.block i hi hg)⟩
theorem Aside.of_below {g B : Nat} {w w' : World} (h : Below w.heap.size w w') (hB : B ≤ w.heap.size) : Aside g B w w' := ⟨h.os, h.tape, h.output, h.size, fun k hk _ => h.block k (by omega)⟩
theorem Aside.grown {g B : Nat} {a w w' : World} {row : Option Nat} (h : Aside g B a w) (hg : w.grownBy w' row) (hB : B ≤ w.heap.size) (hr : ∀ k, row = some k → B ≤ k) : Aside g B a w' :=
 h.trans ⟨hg.os, hg.tape, hg.output, hg.size, fun k hk _ => hg.block k (by omega) (fun e => by have := hr k e.symm; omega)⟩
theorem Aside.set {g B : Nat} {a w : World} (h : Aside g B a w) (i : Nat) (v : Value) : Aside g B a (w.setCell ⟨g, i, none⟩ v) :=
 h.trans ⟨rfl, rfl, rfl, by simp [World.setCell], fun k _ hk => Below.heap_setCell _ _ _ _ hk⟩
theorem Aside.below {g B h : Nat} {W w w' : World} (k : Aside g B w w') (hb : Below h W w) (hg : h ≤ g) (hB : h ≤ B) : Below h W w' :=
 hb.trans ⟨k.os, k.tape, k.output, k.size, fun i hi => k.block i (by omega) (by omega)⟩
def yy492 (keep : Int) (A : Option Addr) (n c : Nat) (gone : Int) (i : Nat) : Value := if i = 0 then .int .i64 keep else if i = 1 then .slice A n c else .int .i64 gone
def NowAt (g B : Nat) (s : NS) (o : Value) (w : World) : Prop :=
 g < B ∧ B ≤ w.heap.size ∧ (∃ A c, w.rowIs g 125 3 (yy492 s.keep A s.text.length c s.gone) ∧ w.ownsRow B 5 1 (.slice A s.text.length c) s.text.length (u8s s.text)) ∧ w.ownsRow B 60 3 o s.out.length (s.out.flatMap yy2)
theorem NowAt.below {g B : Nat} {s : NS} {o : Value} {w w' : World} (h : NowAt g B s o w) (hb : Below w.heap.size w w') : NowAt g B s o w' := by
 obtain ⟨h1, h2, ⟨A, c, hr, ht⟩, ho⟩ := h
 exact ⟨h1, Nat.le_trans h2 hb.size, ⟨A, c, hr.of_block (hb.block g hr.lt), own_below ht hb⟩, own_below ho hb⟩
theorem NowAt.row {g B : Nat} {s : NS} {o : Value} {w : World} (h : NowAt g B s o w) : w.ownsRow B 60 3 o s.out.length (s.out.flatMap yy2) := h.2.2.2
theorem NowAt.up {g B : Nat} {s : NS} {o : Value} {w : World} (h : NowAt g B s o w) : B ≤ w.heap.size := h.2.1
theorem NowAt.out {g B : Nat} {s : NS} {o : Value} {w : World} (h : NowAt g B s o w) : ∃ A c, o = .slice A s.out.length c := own_slice h.row
theorem NowAt.read {g B : Nat} {s : NS} {o : Value} {w : World} (h : NowAt g B s o w) : ∃ A c, w.cell? ⟨g, 0, none⟩ = some (.int .i64 s.keep) ∧ w.cell? ⟨g, 1, none⟩ = some (.slice A s.text.length c) ∧ w.cell? ⟨g, 2, none⟩ = some (.int .i64 s.gone) ∧
  w.frozen? ⟨g, 0, none⟩ = false ∧ w.frozen? ⟨g, 1, none⟩ = false ∧ w.frozen? ⟨g, 2, none⟩ = false ∧ w.ownsRow B 5 1 (.slice A s.text.length c) s.text.length (u8s s.text) ∧ w.rowIs g 125 3 (yy492 s.keep A s.text.length c s.gone) := by
 obtain ⟨h1, h2, ⟨A, c, hr, ht⟩, ho⟩ := h
 exact ⟨A, c, hr.cell (i := 0) (by omega), hr.cell (i := 1) (by omega), hr.cell (i := 2) (by omega), hr.frozen 0, hr.frozen 1, hr.frozen 2, ht, hr⟩
theorem NowAt.push {g B : Nat} {s : NS} {o o' : Value} {out' : List CompV} {w w' : World} (h : NowAt g B s o w) (hg : w.grownBy w' o.ownBlock) (ho : w'.ownsRow B 60 3 o' out'.length (out'.flatMap yy2)) : NowAt g B { s with out := out' } o' w' := by
 obtain ⟨h1, h2, ⟨A, c, hr, ht⟩, ho0⟩ := h
 exact ⟨h1, Nat.le_trans h2 hg.size, ⟨A, c, hr.of_block (hg.block g hr.lt (fun e => by have := (ho0.lt g e.symm).1; omega)), yy198 ht ho0 (by decide) hg⟩, ho⟩
theorem yy23 {w : World} {B g : Nat} {e : TypeId} {size : Nat} {v : Value} {n : Nat} {xs : List Value} (h : w.ownsRow B e size v n xs) (hg : g < B) (i : Nat) (u : Value) : (w.setCell ⟨g, i, none⟩ u).ownsRow B e size v n xs :=
 yy216 h ((Only.refl g w).set i u) hg
theorem NowAt.setKeep {g B : Nat} {s : NS} {o : Value} {w : World} (h : NowAt g B s o w) (k : Int) : NowAt g B { s with keep := k } o (w.setCell ⟨g, 0, none⟩ (.int .i64 k)) := by
 obtain ⟨h1, h2, ⟨A, c, hr, ht⟩, ho⟩ := h
 refine ⟨h1, by simpa [World.setCell] using h2, ⟨A, c, (hr.set 0 (.int .i64 k)).congr fun i hi => ?_, yy23 ht h1 _ _⟩, yy23 ho h1 _ _⟩
 rcases (show i = 0 ∨ i = 1 ∨ i = 2 by omega) with rfl | rfl | rfl <;> rfl
theorem NowAt.setGone {g B : Nat} {s : NS} {o : Value} {w : World} (h : NowAt g B s o w) (k : Int) : NowAt g B { s with gone := k } o (w.setCell ⟨g, 2, none⟩ (.int .i64 k)) := by
 obtain ⟨h1, h2, ⟨A, c, hr, ht⟩, ho⟩ := h
 refine ⟨h1, by simpa [World.setCell] using h2, ⟨A, c, (hr.set 2 (.int .i64 k)).congr fun i hi => ?_, yy23 ht h1 _ _⟩, yy23 ho h1 _ _⟩
 rcases (show i = 0 ∨ i = 1 ∨ i = 2 by omega) with rfl | rfl | rfl <;> rfl
theorem NowAt.setText {g B : Nat} {s : NS} {o : Value} {t : List Nat} {A A' : Option Addr} {c c' : Nat} {w w1 : World} (h : NowAt g B s o w) (hown : w.ownsRow B 5 1 (.slice A s.text.length c) s.text.length (u8s s.text))
  (hg : w.grownBy w1 (Value.slice A s.text.length c).ownBlock) (hown1 : w1.ownsRow B 5 1 (.slice A' t.length c') t.length (u8s t)) :
  NowAt g B { s with text := t } o (w1.setCell ⟨g, 1, none⟩ (.slice A' t.length c')) ∧ Aside g B w (w1.setCell ⟨g, 1, none⟩ (.slice A' t.length c')) := by
 obtain ⟨h1, h2, ⟨A0, c0, hr, ht⟩, ho⟩ := h
 have hr1 : w1.rowIs g 125 3 (yy492 s.keep A0 s.text.length c0 s.gone) := hr.of_block (hg.block g hr.lt (fun e => by have := (hown.lt g e.symm).1; omega))
 refine ⟨⟨h1, by simpa [World.setCell] using Nat.le_trans h2 hg.size, ⟨A', c', (hr1.set 1 (.slice A' t.length c')).congr fun i hi => ?_, yy23 hown1 h1 _ _⟩, yy23 (yy198 ho hown (by decide) hg) h1 _ _⟩, ((Aside.refl g B w).grown hg h2 (fun k e => (hown.lt k e).1)).set 1 _⟩
 rcases (show i = 0 ∨ i = 1 ∨ i = 2 by omega) with rfl | rfl | rfl <;> rfl
theorem yy672 {w : World} {B : Nat} {A : Option Addr} {n c : Nat} {xs : List Value} (h : w.ownsRow B 5 1 (.slice A n c) n xs) : w.ownsRow B 5 1 (.slice (addrHigh A c) 0 c) 0 (u8s []) := by
 refine ⟨rfl, ?_⟩
 rcases h.2 with ⟨h2, _⟩ | ⟨g', cap, cur, hv, hg, hh, h3, h4, h5, _⟩
 ·injection h2 with e1 _ e3
  subst e1 e3
  exact .inl ⟨rfl, rfl⟩
 ·injection hv with e1 _ e3
  subst e1 e3
  refine .inr ⟨g', c, cur, ?_, hg, hh, Nat.zero_le _, h4, h5, by simp [u8s]⟩
  unfold addrHigh
  split
  ·rfl
  ·simp [Addr.add]
theorem NowAt.begin {g B : Nat} {s : NS} {o : Value} {A : Option Addr} {c : Nat} {w : World} (h : NowAt g B s o w) (hown : w.ownsRow B 5 1 (.slice A s.text.length c) s.text.length (u8s s.text)) :
  NowAt g B ⟨s.out, 0, 0, []⟩ o (((w.setCell ⟨g, 0, none⟩ (.int .i64 0)).setCell ⟨g, 1, none⟩ (.slice (addrHigh A c) 0 c)).setCell ⟨g, 2, none⟩ (.int .i64 0)) := by
 obtain ⟨h1, h2, ⟨A0, c0, hr, ht⟩, ho⟩ := h
 refine ⟨h1, by simpa [World.setCell] using h2, ⟨addrHigh A c, c, (((hr.set 0 (.int .i64 0)).set 1 (.slice (addrHigh A c) 0 c)).set 2 (.int .i64 0)).congr fun i hi => ?_, yy23 (yy23 (yy23 (yy672 hown) h1 _ _) h1 _ _) h1 _ _⟩, yy23 (yy23 (yy23 ho h1 _ _) h1 _ _) h1 _ _⟩
 rcases (show i = 0 ∨ i = 1 ∨ i = 2 by omega) with rfl | rfl | rfl <;> rfl
theorem yy35 {ops : Array Oper} {rest : List Oper} {o : Oper} {a : Act} {w : World} {Q : Exit → Act → World → Prop} (hgd : o.guard = none) (s x : Operand)
  (ho : o.op = .call { callee := .builtin .append, args := #[s, x], argTypes := #[24, 24] })
  (B : Nat) (v : Value) (out : List CompV) (cr : CompV) (hs : a.eval s = v) (hown : w.ownsRow B 60 3 v out.length (out.flatMap yy2)) (hb : B ≤ w.heap.size)
  (hx : a.eval x = .slice (some ⟨w.heap.size, 0, none⟩) 1 1) (hlen : out.length ≤ 1099511627776)
  (h : ∀ out' A' c' w', out' = out ++ [cr] → w'.ownsRow B 60 3 (.slice A' out'.length c') out'.length (out'.flatMap yy2) → (w.alloc (.cells #[.int .i64 cr.kind, .int .i64 cr.n, .string (bstr cr.text)] 60)).grownBy w' v.ownBlock → wpList Tryz.prog ops Q rest (a.put o.dst (.slice A' out'.length c')) w') :
  wpList Tryz.prog ops Q (o :: rest) a (w.alloc (.cells #[.int .i64 cr.kind, .int .i64 cr.n, .string (bstr cr.text)] 60)) := by
 obtain ⟨i0, hi0, hz0, hz1, hz2⟩ := info_parts yy199
 refine wpList_append_own_wide _ hgd s x 24 ho B 60 i0 (.agg #[.int .i64 0, .int .i64 0, .string { data := #[] }]) 3 32 Tryz.underlying24 hi0 hz0 hz1 hz2 rfl (by omega) v out.length (out.flatMap yy2) hs (hown.alloc _) ⟨w.heap.size, 0, none⟩ 1 1 (yy2 cr) hx rfl ?_ ?_ (by simp only [maxLen]; omega) (by omega) (by simp; omega) ?_
 ·intro j u hj
  rw [Go.WideShapes.add_plain, Nat.zero_add, cell_of_row _ _ _ _ _ _ (heap_alloc_new w _)]
  simpa [yy2] using hj
 ·intro u hu; simp [yy2] at hu; rcases hu with rfl | rfl | rfl <;> rfl
 intro v' w' hown' hgr _
 have e : out.flatMap yy2 ++ yy2 cr = (out ++ [cr]).flatMap yy2 := by simp
 have hown2 : w'.ownsRow B 60 3 v' (out ++ [cr]).length ((out ++ [cr]).flatMap yy2) := by
  rw [← e, List.length_append]
  exact hown'
 obtain ⟨A', c', rfl⟩ := own_slice hown2
 exact h _ A' c' w' rfl hown2 hgr
set_option maxHeartbeats 1000000 in
set_option maxRecDepth 100000 in
theorem yy493 (g B : Nat) (s : NS) (o : Value) (hg : 0 ≤ s.gone) (w : World) (h : NowAt g B s o w) :
  Calls Tryz.prog 87 #[.pointer (some ⟨g, 0, none⟩)] w fun e w' => e = .returned (.bool (decide (s.text = [] ∧ s.gone = 0))) ∧ w = w' := by
 obtain ⟨A, c, c0, c1, c2, _⟩ := h.read
 clear h
 obtain ⟨out, keep, gone, tx⟩ := s
 simp only at c0 c1 c2 hg ⊢
 cases tx with
 | nil =>
  simp only [List.length_nil] at c1
  by_cases hz : gone = 0
  ·subst hz
   rw [show decide (([] : List Nat) = [] ∧ (0 : Int) = 0) = true by simp]
   go_enter Tryz.func87, Tryz.ntmps87
   go_wp2
   go_ret
   exact ⟨rfl, rfl⟩
  ·have gz : (gone == 0) = false := xn hz
   rw [show decide (([] : List Nat) = [] ∧ gone = 0) = false by simp [hz]]
   clear hz
   go_enter Tryz.func87, Tryz.ntmps87
   go_wp2
   go_ret
   exact ⟨rfl, rfl⟩
 | cons x t =>
  rw [show decide (x :: t = [] ∧ gone = 0) = false by simp]
  rw [List.length_cons] at c1
  generalize t.length = n at c1
  have gz : (((n + 1 : Nat) : Int) == 0) = false := xn (by omega)
  go_enter Tryz.func87, Tryz.ntmps87
  go_wp2
  go_ret
  exact ⟨rfl, rfl⟩
end Go.Proofs.YtjpjdkdbgjipnaaGreatDoor
namespace Go.Proofs.YtjpjdkdbgjipnaaGreatDoor
open Go.RowKit Go.Deep
theorem yy147 : Tryz.prog.elem 24 = 60 := by kernel_rfl
theorem yy402 (w : World) : (sizeOf 60).run Tryz.prog w = .ok 3 w := Tryz.sizeOf60 w
theorem yy302 {w : World} {A : Option Addr} {x : CompV} {l : List CompV} {c : Nat} (h : yy8 w A (x :: l)) (hc : (x :: l).length ≤ c) :
  ∃ b off A', A = some ⟨b, off, none⟩ ∧ b < w.heap.size ∧ w.cell? ⟨b, off, none⟩ = some (.int .i64 x.kind) ∧ w.cell? ⟨b, off + 1, none⟩ = some (.int .i64 x.n) ∧ w.cell? ⟨b, off + 2, none⟩ = some (.string (bstr x.text)) ∧
   (∀ w, (Instr.slice 24 (.slice (some ⟨b, off, none⟩) (l.length + 1) c) (some (.int .i64 1)) none none).run Tryz.prog w = .ok (.slice A' l.length (c - 1)) w) ∧ yy8 w A' l ∧ l.length ≤ c - 1 := by
 obtain ⟨b, off, rfl, hb⟩ := h.form (by simp)
 obtain ⟨h0, h1, h2⟩ := h.at_ (i := 0) (by simp)
 simp only [Nat.zero_mul, Nat.add_zero, List.getElem_cons_zero] at h0 h1 h2
 have hc' : l.length + 1 ≤ c := by simpa using hc
 refine ⟨b, off, (if c = 1 then some ⟨b, off, none⟩ else some ⟨b, off + 3, none⟩), rfl, hb, h0, h1, h2, fun w => ?_, ?_, by omega⟩
 ·rw [run_slice_l (P := Tryz.prog) (w := w) 24 (some ⟨b, off, none⟩) (l.length + 1) c (by rw [yy147]; exact Tryz.underlying24) .i64 (1 : Int) (by omega) (by omega), yy147, yy402]
  simp [Result.andThen, sliced]
  try (split <;> simp [Go.WideShapes.add_plain])
 ·by_cases hl : l = []
  ·rw [hl]; exact .inl rfl
  ·have hl0 : 0 < l.length := List.length_pos_iff.2 hl
   rw [if_neg (by omega)]
   rcases h with h | ⟨b', off', e, hlt, hcc⟩
   ·exact absurd (congrArg List.length h) (by simp [yy2])
   ·injection e with e
    injection e with e1 e2
    subst e1 e2
    refine .inr ⟨b, off + 3, rfl, hlt, fun j v hj => ?_⟩
    have := hcc (3 + j) v (by rw [List.flatMap_cons, List.getElem?_append_right (by simp [yy2])]; simpa [yy2] using hj)
    rwa [← Nat.add_assoc] at this
set_option maxRecDepth 100000 in
theorem yy674 {o : Oper} {a : Act} {w : World} {K : Act → World → Prop} {Q : Exit → Act → World → Prop} (s x : Operand)
  (ho : o.op = .call { callee := .builtin .append, args := #[s, x], argTypes := #[24, 24] })
  (base : Nat) (v : Value) (out l : List CompV) (hs : a.eval s = v) (hown : w.ownsRow base 60 3 v out.length (out.flatMap yy2)) (hsz : base ≤ w.heap.size)
  (A : Option Addr) (c : Nat) (hx : a.eval x = .slice A l.length c) (hA : yy8 w A l) (hnil : A = none → l = [] ∧ c = 0) (hlen : out.length + l.length ≤ 1099511627776)
  (h : ∀ out' A' c' w', out' = out ++ l → w'.ownsRow base 60 3 (.slice A' out'.length c') out'.length (out'.flatMap yy2) → Below base w w' → K (a.put o.dst (.slice A' out'.length c')) w') :
  o.wp Tryz.prog a w K Q := by
 obtain ⟨i0, hi0, hz0, hz1, hz2⟩ := info_parts yy199
 cases A with
 | none =>
  obtain ⟨rfl, rfl⟩ := hnil rfl
  have hr := run_append_owned_none (P := Tryz.prog) (w := w) base 24 o.type 60 i0 3 Tryz.underlying24 hi0 v out.length _ hown
  obtain ⟨A', c', rfl⟩ := own_slice hown
  unfold Oper.wp execOp
  simp only [ho, resolve, invoke, builtin, Sem.run_bind, Sem.run_pure, Result.andThen_ok, List.map_toArray, List.map_cons, List.map_nil, hs, hx, List.length_nil, hr]
  exact h out A' c' w (by simp) hown (Below.refl _ _)
 | some ad =>
  refine wp_append_own_wide w s x 24 ho base 60 i0 (.agg #[.int .i64 0, .int .i64 0, .string { data := #[] }]) 3 32 Tryz.underlying24 hi0 hz0 hz1 hz2 rfl (by omega) v out.length (out.flatMap yy2) hs hown ad l.length c (l.flatMap yy2) hx (yy30 yy2 3 yy40 l) ?_ ?_ (by simp only [maxLen]; omega) (by omega) hsz ?_
  ·intro j u hj
   rcases hA with hA | ⟨b, off, e, _, hc⟩
   ·rw [hA] at hj; simp at hj
   ·injection e with e
    subst e
    rw [Go.WideShapes.add_plain]
    exact hc j u hj
  ·intro u hu
   obtain ⟨y, _, hy⟩ := List.mem_flatMap.1 hu
   simp [yy2] at hy
   rcases hy with rfl | rfl | rfl <;> rfl
  intro v' w' hown' hgr _
  have e : out.flatMap yy2 ++ l.flatMap yy2 = (out ++ l).flatMap yy2 := by simp
  have hown2 : w'.ownsRow base 60 3 v' (out ++ l).length ((out ++ l).flatMap yy2) := by
   rw [← e, List.length_append]
   exact hown'
  obtain ⟨A', c', rfl⟩ := own_slice hown2
  exact h _ A' c' w' rfl hown2 ((Below.refl base w).grown hgr hsz (fun k hk => (hown.lt k hk).1))
theorem yy22 {ops : Array Oper} {rest : List Oper} {o : Oper} {a : Act} {w : World} {Q : Exit → Act → World → Prop} (hgd : o.guard = none) (s x : Operand)
  (ho : o.op = .call { callee := .builtin .append, args := #[s, x], argTypes := #[24, 24] })
  (base : Nat) (v : Value) (out : List CompV) (cr : CompV) (hs : a.eval s = v) (hown : w.ownsRow base 60 3 v out.length (out.flatMap yy2)) (hsz : base ≤ w.heap.size)
  (hx : a.eval x = .slice (some ⟨w.heap.size, 0, none⟩) 1 1) (hlen : out.length ≤ 1099511627776)
  (h : ∀ out' A' c' w', out' = out ++ [cr] → w'.ownsRow base 60 3 (.slice A' out'.length c') out'.length (out'.flatMap yy2) → Below base w w' → wpList Tryz.prog ops Q rest (a.put o.dst (.slice A' out'.length c')) w') :
  wpList Tryz.prog ops Q (o :: rest) a (w.alloc (.cells #[.int .i64 cr.kind, .int .i64 cr.n, .string (bstr cr.text)] 60)) := by
 obtain ⟨i0, hi0, hz0, hz1, hz2⟩ := info_parts yy199
 refine wpList_append_own_wide _ hgd s x 24 ho base 60 i0 (.agg #[.int .i64 0, .int .i64 0, .string { data := #[] }]) 3 32 Tryz.underlying24 hi0 hz0 hz1 hz2 rfl (by omega) v out.length (out.flatMap yy2) hs (hown.alloc _) ⟨w.heap.size, 0, none⟩ 1 1 (yy2 cr) hx rfl ?_ ?_ (by simp only [maxLen]; omega) (by omega) (by simp; omega) ?_
 ·intro j u hj
  rw [Go.WideShapes.add_plain, Nat.zero_add, cell_of_row _ _ _ _ _ _ (heap_alloc_new w _)]
  simpa [yy2] using hj
 ·intro u hu; simp [yy2] at hu; rcases hu with rfl | rfl | rfl <;> rfl
 intro v' w' hown' hgr _
 have e : out.flatMap yy2 ++ yy2 cr = (out ++ [cr]).flatMap yy2 := by simp
 have hown2 : w'.ownsRow base 60 3 v' (out ++ [cr]).length ((out ++ [cr]).flatMap yy2) := by
  rw [← e, List.length_append]
  exact hown'
 obtain ⟨A', c', rfl⟩ := own_slice hown2
 exact h _ A' c' w' rfl hown2 (((Below.refl base w).alloc hsz _).grown hgr (by simp; omega) (fun k hk => (hown.lt k hk).1))
theorem yy128 (w : World) (x y : Obj) : ((w.alloc x).alloc y).heap[w.heap.size + 1]? = some y := by
 have := heap_alloc_new (w.alloc x) y
 rwa [World.size_alloc] at this
set_option maxHeartbeats 1000000 in
set_option maxRecDepth 100000 in
theorem yy366 (a : ActV) (w : World) :
  Calls Tryz.prog 46 #[.agg (yy0 a).toArray] w fun e w' => e = .returned (.agg (yy0 (aPlain a)).toArray) ∧ Below w.heap.size w w' := by
 obtain ⟨k, i, p, n, d, A, c, o⟩ := a
 by_cases h1 : k = 1
 ·rw [yy511 h1]
  subst h1
  unfold yy0
  go_enter Tryz.func46, Tryz.ntmps46
  go_wp2
  refine bodyPost_ret (results_cell_row rfl _ _ (w.heap.size + 1) 26 #[.int .i64 1, .int .i64 i, .int .i64 p, .string (bstr n), .bool d, .slice none 0 0] (0, 0) _ rfl (yy128 _ _ _) Tryz.underlying26 rfl (by kernel_rfl)) rfl ?_
  exact ⟨rfl, ((Below.refl _ _).alloc (Nat.le_refl _) _).alloc (by simp) _⟩
 by_cases h2 : k = 2
 ·rw [yy352 h2]
  subst h2
  unfold yy0
  go_enter Tryz.func46, Tryz.ntmps46
  go_wp2
  refine bodyPost_ret (results_cell_row rfl _ _ (w.heap.size + 1) 26 #[.int .i64 2, .int .i64 i, .int .i64 0, .string (bstr []), .bool false, .slice none 0 0] (0, 0) _ rfl (yy128 _ _ _) Tryz.underlying26 rfl (by kernel_rfl)) rfl ?_
  exact ⟨rfl, ((Below.refl _ _).alloc (Nat.le_refl _) _).alloc (by simp) _⟩
 by_cases h3 : k = 3
 ·rw [yy512 h3]
  subst h3
  unfold yy0
  go_enter Tryz.func46, Tryz.ntmps46
  go_wp2
  refine bodyPost_ret (results_cell_row rfl _ _ (w.heap.size + 1) 26 #[.int .i64 3, .int .i64 i, .int .i64 p, .string (bstr n), .bool false, .slice none 0 0] (0, 0) _ rfl (yy128 _ _ _) Tryz.underlying26 rfl (by kernel_rfl)) rfl ?_
  exact ⟨rfl, ((Below.refl _ _).alloc (Nat.le_refl _) _).alloc (by simp) _⟩
 by_cases h4 : k = 4
 ·rw [yy353 h4]
  subst h4
  unfold yy0
  go_enter Tryz.func46, Tryz.ntmps46
  go_wp2
  refine bodyPost_ret (results_cell_row rfl _ _ (w.heap.size + 1) 26 #[.int .i64 4, .int .i64 i, .int .i64 0, .string (bstr []), .bool false, .slice A o.length c] (0, 0) _ rfl (yy128 _ _ _) Tryz.underlying26 rfl (by kernel_rfl)) rfl ?_
  exact ⟨rfl, ((Below.refl _ _).alloc (Nat.le_refl _) _).alloc (by simp) _⟩
 ·rw [yy513 ⟨h1, h2, h3, h4⟩]
  have g1 : (k == 1) = false := xn h1
  have g2 : (k == 2) = false := xn h2
  have g3 : (k == 3) = false := xn h3
  have g4 : (k == 4) = false := xn h4
  clear h1 h2 h3 h4
  unfold yy0
  go_enter Tryz.func46, Tryz.ntmps46
  go_wp2
  refine bodyPost_ret (results_cell_row rfl _ _ (w.heap.size + 1) 26 #[.int .i64 k, .int .i64 0, .int .i64 0, .string (bstr []), .bool false, .slice none 0 0] (0, 0) _ rfl (yy128 _ _ _) Tryz.underlying26 rfl (by kernel_rfl)) rfl ?_
  exact ⟨rfl, ((Below.refl _ _).alloc (Nat.le_refl _) _).alloc (by simp) _⟩
set_option maxHeartbeats 1000000 in
set_option maxRecDepth 100000 in
theorem yy605 (a : ActV) (w : World) :
  Calls Tryz.prog 63 #[.agg (yy0 a).toArray] w fun e w' => e = .returned (.agg (yy0 (aPlain a)).toArray) ∧ Below w.heap.size w w' := by
 obtain ⟨k, i, p, n, d, A, c, o⟩ := a
 by_cases h1 : k = 1
 ·rw [yy511 h1]
  subst h1
  unfold yy0
  go_enter Tryz.func63, Tryz.ntmps63
  go_wp2
  refine bodyPost_ret (results_cell_row rfl _ _ (w.heap.size + 1) 26 #[.int .i64 1, .int .i64 i, .int .i64 p, .string (bstr n), .bool d, .slice none 0 0] (0, 0) _ rfl (yy128 _ _ _) Tryz.underlying26 rfl (by kernel_rfl)) rfl ?_
  exact ⟨rfl, ((Below.refl _ _).alloc (Nat.le_refl _) _).alloc (by simp) _⟩
 by_cases h2 : k = 2
 ·rw [yy352 h2]
  subst h2
  unfold yy0
  go_enter Tryz.func63, Tryz.ntmps63
  go_wp2
  refine bodyPost_ret (results_cell_row rfl _ _ (w.heap.size + 1) 26 #[.int .i64 2, .int .i64 i, .int .i64 0, .string (bstr []), .bool false, .slice none 0 0] (0, 0) _ rfl (yy128 _ _ _) Tryz.underlying26 rfl (by kernel_rfl)) rfl ?_
  exact ⟨rfl, ((Below.refl _ _).alloc (Nat.le_refl _) _).alloc (by simp) _⟩
 by_cases h3 : k = 3
 ·rw [yy512 h3]
  subst h3
  unfold yy0
  go_enter Tryz.func63, Tryz.ntmps63
  go_wp2
  refine bodyPost_ret (results_cell_row rfl _ _ (w.heap.size + 1) 26 #[.int .i64 3, .int .i64 i, .int .i64 p, .string (bstr n), .bool false, .slice none 0 0] (0, 0) _ rfl (yy128 _ _ _) Tryz.underlying26 rfl (by kernel_rfl)) rfl ?_
  exact ⟨rfl, ((Below.refl _ _).alloc (Nat.le_refl _) _).alloc (by simp) _⟩
 by_cases h4 : k = 4
 ·rw [yy353 h4]
  subst h4
  unfold yy0
  go_enter Tryz.func63, Tryz.ntmps63
  go_wp2
  refine bodyPost_ret (results_cell_row rfl _ _ (w.heap.size + 1) 26 #[.int .i64 4, .int .i64 i, .int .i64 0, .string (bstr []), .bool false, .slice A o.length c] (0, 0) _ rfl (yy128 _ _ _) Tryz.underlying26 rfl (by kernel_rfl)) rfl ?_
  exact ⟨rfl, ((Below.refl _ _).alloc (Nat.le_refl _) _).alloc (by simp) _⟩
 ·rw [yy513 ⟨h1, h2, h3, h4⟩]
  have g1 : (k == 1) = false := xn h1
  have g2 : (k == 2) = false := xn h2
  have g3 : (k == 3) = false := xn h3
  have g4 : (k == 4) = false := xn h4
  clear h1 h2 h3 h4
  unfold yy0
  go_enter Tryz.func63, Tryz.ntmps63
  go_wp2
  refine bodyPost_ret (results_cell_row rfl _ _ (w.heap.size + 1) 26 #[.int .i64 k, .int .i64 0, .int .i64 0, .string (bstr []), .bool false, .slice none 0 0] (0, 0) _ rfl (yy128 _ _ _) Tryz.underlying26 rfl (by kernel_rfl)) rfl ?_
  exact ⟨rfl, ((Below.refl _ _).alloc (Nat.le_refl _) _).alloc (by simp) _⟩
end Go.Proofs.YtjpjdkdbgjipnaaGreatDoor
