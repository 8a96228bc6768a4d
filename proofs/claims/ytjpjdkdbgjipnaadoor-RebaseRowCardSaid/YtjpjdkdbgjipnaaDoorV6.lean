/- The landed check of normal parts, and Check. Condition: no slice is longer than memory, no text longer than 2^40 bytes. (Merged of 5 texts.) -/
import Derived.Test.YtjpjdkdbgjipnaaDoorV2
import Derived.Test.YtjpjdkdbgjipnaaDoorV7
import Derived.Shelf.Abstract
import Derived.Deep.OwnRows
import Derived.Test.YtjpjdkdbgjipnaaDoorV21
import Derived.Test.YtjpjdkdbgjipnaaDoorV47
import Derived.Test.YtjpjdkdbgjipnaaDoorV22
import Derived.Laws.Rows
import Derived.Test.YtjpjdkdbgjipnaaDoorV5
namespace Go.Proofs.YtjpjdkdbgjipnaaDoor
open Go.RowKit Go.Deep
theorem yy135 {k : Nat} {fn : Func} {c : Code} (hf : Tryd.prog.funcs[k]? = some fn) (hname : (fn.name == "runtime.NumGoroutine") = false) (hb : fn.body = some c) : ∀ (args : Array Value) (w : World), (callFunc k args).run Tryd.prog w = .ok (.enter k args) w := Go.Proofs.enters_of hf hname hb
structure Mid (p q : Nat) (w w' : World) : Prop where
 os : w'.os = w.os
 tape : w'.tape = w.tape
 output : w'.output = w.output
 size : w.heap.size ≤ w'.heap.size
 block : ∀ k, k < w.heap.size → k < p ∨ q ≤ k → w'.heap[k]? = w.heap[k]?
namespace Mid
variable {p q : Nat} {a b c w w' : World}
theorem refl (p q : Nat) (w : World) : Mid p q w w := ⟨rfl, rfl, rfl, Nat.le_refl _, fun _ _ _ => rfl⟩
theorem trans (h : Mid p q a b) (k : Mid p q b c) : Mid p q a c :=
 ⟨k.os.trans h.os, k.tape.trans h.tape, k.output.trans h.output, Nat.le_trans h.size k.size, fun i hi hg => (k.block i (Nat.lt_of_lt_of_le hi h.size) hg).trans (h.block i hi hg)⟩
theorem set (h : Mid p q a w) (g i : Nat) (v : Value) (hp : p ≤ g) (hq : g < q) : Mid p q a (w.setCell ⟨g, i, none⟩ v) :=
 h.trans ⟨rfl, rfl, rfl, by simp [World.setCell], fun k _ hk => Below.heap_setCell _ _ _ _ (by show k ≠ g; omega)⟩
theorem below {r : Nat} {W : World} (h : Mid p q w w') (hb : Below r W w) (hr : r ≤ p) (hrw : r ≤ w.heap.size) : Below r W w' :=
 hb.trans ⟨h.os, h.tape, h.output, h.size, fun k hk => h.block k (by omega) (.inl (by omega))⟩
theorem own {base : Nat} {e : TypeId} {size : Nat} {v : Value} {n : Nat} {xs : List Value} (h : Mid p q w w') (ho : w.ownsRow base e size v n xs) (hb : q ≤ base) : w'.ownsRow base e size v n xs := by
 refine ⟨ho.1, ?_⟩
 rcases ho.2 with h2 | ⟨g', cap, cur, hv, hgb, hh, h3, h4, h5⟩
 ·exact .inl h2
 ·have hlt : g' < w.heap.size := by
   rcases Nat.lt_or_ge g' w.heap.size with hlt | hge
   ·exact hlt
   ·rw [Array.getElem?_eq_none hge] at hh; cases hh
  exact .inr ⟨g', cap, cur, hv, hgb, by rw [h.block g' hlt (.inr (by omega))]; exact hh, h3, h4, h5⟩
end Mid
theorem three {w : World} {b : Nat} {t : TypeId} {f : Nat → Value} (h : w.rowIs b t 3 f) (u0 u1 u2 : Value) :
  w.cell? ⟨b, 0, none⟩ = some (f 0) ∧ w.frozen? ⟨b, 0, none⟩ = false ∧ (w.setCell ⟨b, 0, none⟩ u0).cell? ⟨b, 1, none⟩ = some (f 1) ∧ (w.setCell ⟨b, 0, none⟩ u0).frozen? ⟨b, 1, none⟩ = false ∧
  ((w.setCell ⟨b, 0, none⟩ u0).setCell ⟨b, 1, none⟩ u1).cell? ⟨b, 2, none⟩ = some (f 2) ∧ ((w.setCell ⟨b, 0, none⟩ u0).setCell ⟨b, 1, none⟩ u1).frozen? ⟨b, 2, none⟩ = false ∧
  (((w.setCell ⟨b, 0, none⟩ u0).setCell ⟨b, 1, none⟩ u1).setCell ⟨b, 2, none⟩ u2).rowIs b t 3 (fun i => if i = 0 then u0 else if i = 1 then u1 else u2) := by
 have h1 := h.set 0 u0
 have h2 := h1.set 1 u1
 have h3 := h2.set 2 u2
 refine ⟨h.cell (i := 0) (by omega), h.frozen 0, h1.cell (i := 1) (by omega), h1.frozen 1, h2.cell (i := 2) (by omega), h2.frozen 2, h3.congr fun i hi => ?_⟩
 rcases (show i = 0 ∨ i = 1 ∨ i = 2 by omega) with rfl | rfl | rfl <;> rfl
theorem cm_row {w : World} {b : Nat} {kd n : Int} {t : List Nat} (h : w.rowIs b 51 3 (yy25 kd n t)) : w.cell? ⟨b, 0, none⟩ = some (.int .i64 kd) ∧ w.cell? ⟨b, 1, none⟩ = some (.int .i64 n) ∧ w.cell? ⟨b, 2, none⟩ = some (.string (bstr t)) :=
 ⟨h.cell (i := 0) (by omega), h.cell (i := 1) (by omega), h.cell (i := 2) (by omega)⟩
theorem cm_new (w : World) (kd n : Int) (t : List Nat) : (w.alloc (.cells #[.int .i64 kd, .int .i64 n, .string (bstr t)] 51)).rowIs w.heap.size 51 3 (yy25 kd n t) :=
 World.rowIs_alloc w _ _ _ (fun i hi => by rcases (show i = 0 ∨ i = 1 ∨ i = 2 by simp at hi; omega) with rfl | rfl | rfl <;> rfl)
theorem yy373 (a b : Int) (w : World) : Calls Tryd.prog 108 (#[.int .i64 a, .int .i64 b] ++ #[]) w fun e w' => e = .returned (.tuple #[]) ∧ w = w' := by
 go_enter Tryd.func108, Tryd.ntmps108
 go_wp2
 go_end0
 exact ⟨rfl, rfl⟩
theorem yy321 {l vs : List Nat} (h : V l vs) (hl : l.length ≤ 1099511627776) (w : World) :
  Calls Tryd.prog 102 #[.string (bstr l)] w fun e w' => e = .returned (.bool true) ∧ w = w' := by
 have HW := xh (yy217 108 (yy135 Tryd.func108 (by kernel_rfl) rfl) #[] l hl (by rw [← h.bytes]; exact E_lt h.may) (fun _ x => x = w)
  (fun vs v w1 hw _ _ => by subst hw; exact (yy373 _ _ w1).mono (fun e w' h => ⟨h.1, h.2.symm⟩)) w rfl)
 go_enter Tryd.func102, Tryd.ntmps102
 go_wp2_with fail
 refine HW.out.mono ?_
 rintro e w' (⟨ws, hv, rfl, hw⟩ | ⟨hn, _, _⟩)
 ·subst hw
  go_wp2
  go_ret
  exact ⟨rfl, rfl⟩
 ·exact absurd ⟨vs, h⟩ hn
theorem yy410 {l : List Nat} (h : ¬ ∃ vs, V l vs) (hb : ∀ x ∈ l, x < 256) (hl : l.length ≤ 1099511627776) (w : World) :
  Calls Tryd.prog 102 #[.string (bstr l)] w fun e w' => e = .returned (.bool false) ∧ w = w' := by
 have HW := xh (yy217 108 (yy135 Tryd.func108 (by kernel_rfl) rfl) #[] l hl hb (fun _ x => x = w)
  (fun vs v w1 hw _ _ => by subst hw; exact (yy373 _ _ w1).mono (fun e w' h => ⟨h.1, h.2.symm⟩)) w rfl)
 go_enter Tryd.func102, Tryd.ntmps102
 go_wp2_with fail
 refine HW.out.mono ?_
 rintro e w' (⟨ws, hv, _, hw⟩ | ⟨hn, rfl, _, hw⟩)
 ·exact absurd ⟨ws, hv⟩ h
 ·subst hw
  go_wp2
  go_ret
  exact ⟨rfl, rfl⟩
def Whole (c : CompV) : Prop := ((c.kind = 1 ∨ c.kind = 3) ∧ 1 ≤ c.n ∧ c.text = []) ∨ (c.kind = 2 ∧ c.n = 0 ∧ c.text ≠ [] ∧ ∃ vs, V c.text vs)
def yy666 (kd n : Int) (tx : List Nat) (w : World) (e : Ending) (w' : World) : Prop := ∃ r, (r = true ↔ Whole ⟨kd, n, tx⟩) ∧ e = .returned (.bool r) ∧ Below w.heap.size w w'
theorem yy557 {l : List Nat} (h : l ≠ []) : ((bstr l).toList != []) = true := by
 have := yy192 h
 cases e : (bstr l).toList with
 | nil => rw [e] at this; simp at this
 | cons a t => rfl
set_option maxHeartbeats 1000000 in
set_option maxRecDepth 100000 in
theorem yy411 (kd n : Int) (tx : List Nat) (hb : ∀ x ∈ tx, x < 256) (hl : tx.length ≤ 1099511627776) (w : World) :
  Calls Tryd.prog 91 #[.agg #[.int .i64 kd, .int .i64 n, .string (bstr tx)]] w (yy666 kd n tx w) := by
 have HB := xh hb; clear hb
 by_cases h13 : kd = 1 ∨ kd = 3
 ·by_cases hn : 0 < n
  ·by_cases ht : tx = []
   ·subst ht
    have hte := yy174
    have HR : Hid (Whole ⟨kd, n, []⟩) := .inl ⟨h13, (by show 1 ≤ n; omega), rfl⟩
    rcases h13 with rfl | rfl
    ·go_enter Tryd.func91, Tryd.ntmps91
     go_wp2
     go_ret
     exact ⟨true, ⟨fun _ => HR.out, fun _ => rfl⟩, rfl, (Below.refl _ _).alloc (Nat.le_refl _) _⟩
    ·go_enter Tryd.func91, Tryd.ntmps91
     go_wp2
     go_ret
     exact ⟨true, ⟨fun _ => HR.out, fun _ => rfl⟩, rfl, (Below.refl _ _).alloc (Nat.le_refl _) _⟩
   ·have hte := yy192 ht
    have HR : Hid (¬ Whole ⟨kd, n, tx⟩) := fun h => by
     rcases h with ⟨_, _, h⟩ | ⟨h, _⟩
     ·exact ht h
     ·simp only at h; omega
    rcases h13 with rfl | rfl
    ·go_enter Tryd.func91, Tryd.ntmps91
     go_wp2
     go_ret
     exact ⟨false, ⟨fun h => (by cases h), fun h => absurd h HR.out⟩, rfl, (Below.refl _ _).alloc (Nat.le_refl _) _⟩
    ·go_enter Tryd.func91, Tryd.ntmps91
     go_wp2
     go_ret
     exact ⟨false, ⟨fun h => (by cases h), fun h => absurd h HR.out⟩, rfl, (Below.refl _ _).alloc (Nat.le_refl _) _⟩
  ·have HR : Hid (¬ Whole ⟨kd, n, tx⟩) := fun h => by
    rcases h with ⟨_, h, _⟩ | ⟨h, _⟩
    ·simp only at h; omega
    ·simp only at h; omega
   rcases h13 with rfl | rfl
   ·go_enter Tryd.func91, Tryd.ntmps91
    go_wp2
    go_ret
    exact ⟨false, ⟨fun h => (by cases h), fun h => absurd h HR.out⟩, rfl, (Below.refl _ _).alloc (Nat.le_refl _) _⟩
   ·go_enter Tryd.func91, Tryd.ntmps91
    go_wp2
    go_ret
    exact ⟨false, ⟨fun h => (by cases h), fun h => absurd h HR.out⟩, rfl, (Below.refl _ _).alloc (Nat.le_refl _) _⟩
 ·have g1 : (kd == 1) = false := xn fun h => h13 (.inl h)
  have g3 : (kd == 3) = false := xn fun h => h13 (.inr h)
  by_cases h2 : kd = 2
  ·by_cases hn : n = 0
   ·subst hn
    by_cases ht : tx = []
    ·subst ht
     have hte := yy174
     have HR : Hid (¬ Whole ⟨kd, 0, []⟩) := fun h => by
      rcases h with ⟨h, _⟩ | ⟨_, _, h, _⟩
      ·exact h13 h
      ·exact h rfl
     subst h2
     go_enter Tryd.func91, Tryd.ntmps91
     go_wp2
     go_ret
     exact ⟨false, ⟨fun h => (by cases h), fun h => absurd h HR.out⟩, rfl, (Below.refl _ _).alloc (Nat.le_refl _) _⟩
    ·have hte := yy192 ht
     have hte' := yy557 ht
     by_cases hv : ∃ vs, V tx vs
     ·have HR : Hid (Whole ⟨kd, 0, tx⟩) := .inr ⟨h2, rfl, ht, hv⟩
      have GV := xh (fun w => (yy321 hv.choose_spec hl w))
      subst h2
      clear hv
      go_enter Tryd.func91, Tryd.ntmps91
      go_wp2_with fail
      refine (GV.out _).mono ?_
      rintro e w1 ⟨rfl, rfl⟩
      go_wp2
      go_ret
      exact ⟨true, ⟨fun _ => HR.out, fun _ => rfl⟩, rfl, (Below.refl _ _).alloc (Nat.le_refl _) _⟩
     ·have HR : Hid (¬ Whole ⟨kd, 0, tx⟩) := fun h => by
       rcases h with ⟨h, _⟩ | ⟨_, _, _, h⟩
       ·exact h13 h
       ·exact hv h
      have GV := xh (fun w => (yy410 hv HB.out hl w))
      subst h2
      clear hv
      go_enter Tryd.func91, Tryd.ntmps91
      go_wp2_with fail
      refine (GV.out _).mono ?_
      rintro e w1 ⟨rfl, rfl⟩
      go_wp2
      go_ret
      exact ⟨false, ⟨fun h => (by cases h), fun h => absurd h HR.out⟩, rfl, (Below.refl _ _).alloc (Nat.le_refl _) _⟩
   ·have HR : Hid (¬ Whole ⟨kd, n, tx⟩) := fun h => by
     rcases h with ⟨h, _⟩ | ⟨_, h, _⟩
     ·exact h13 h
     ·exact hn h
    have gn : (n == 0) = false := xn hn
    subst h2
    clear hn
    go_enter Tryd.func91, Tryd.ntmps91
    go_wp2
    go_ret
    exact ⟨false, ⟨fun h => (by cases h), fun h => absurd h HR.out⟩, rfl, (Below.refl _ _).alloc (Nat.le_refl _) _⟩
  ·have g2 : (kd == 2) = false := xn h2
   have HR : Hid (¬ Whole ⟨kd, n, tx⟩) := fun h => by
    rcases h with ⟨h, _⟩ | ⟨h, _⟩
    ·exact h13 h
    ·exact h2 h
   clear h13 h2
   go_enter Tryd.func91, Tryd.ntmps91
   go_wp2
   go_ret
   exact ⟨false, ⟨fun h => (by cases h), fun h => absurd h HR.out⟩, rfl, (Below.refl _ _).alloc (Nat.le_refl _) _⟩
set_option maxHeartbeats 4000000 in
set_option maxRecDepth 100000 in
theorem yy276 (A : Option Addr) (c : Nat) (l : List CompV) (hl : l.length ≤ maxLen) (hf : Fine1 l) (w : World) (hc : yy6 w A l) :
  Calls Tryd.prog 76 #[.slice A l.length c] w fun e w' => e = .returned (.bool (nrmB l)) ∧ Below w.heap.size w w' := by
 unfold maxLen at hl
 have HC := xh hc; clear hc
 have HF := xh hf; clear hf
 obtain ⟨T, HT⟩ : ∃ T, Hid (nrmB l = T) := ⟨_, xh rfl⟩
 rw [HT.out]
 go_enter Tryd.func76, Tryd.ntmps76
 go_wp2
 go_loopw [3, 9] (fun la i wr => ∃ (k : Nat) (a : Int), k ≤ l.length ∧ i = .int .i64 k ∧ la = .int .i64 a ∧ (k = 0 → a = 0) ∧ (0 < k → ∀ p, l[k - 1]? = some p → p.kind = a) ∧ (∀ i c, i < k → l[i]? = some c → NormAt l i c) ∧ Below w.heap.size w wr) (fun _ i _ => l.length - (intOf i).toNat)
 case atStart => exact ⟨0, 0, Nat.zero_le _, rfl, rfl, fun _ => rfl, fun h => by omega, fun i c h => by omega, Below.refl _ _⟩
 case round =>
  obtain ⟨k, la, hk, rfl, rfl, ha0, ha1, hn, hbel⟩ := hrel
  have HA0 := xh ha0; clear ha0
  have HA1 := xh ha1; clear ha1
  have HN := xh hn; clear hn
  have HBEL := xh hbel; clear hbel
  by_cases hlt : k < l.length
  ·obtain ⟨b, off, rfl, _⟩ := HC.out.form (by omega)
   obtain ⟨x0, x1, x2⟩ := (HC.out.below HBEL.out).at_ hlt
   have HGET : Hid (l[k]? = some l[k]) := List.getElem?_eq_getElem hlt
   have HPRE : Hid (0 < k → l[k - 1]? = some l[k - 1]) := fun h => List.getElem?_eq_getElem (by omega)
   have HY := xh (HF.out l[k] (List.getElem_mem hlt))
   generalize l[k] = y at x0 x1 x2 HGET HY
   have HNO : Hid (¬ NormAt l k y → T = false) := fun h => by rw [← HT.out]; exact yy461 fun g => h (g k y HGET.out)
   have HYES : Hid (NormAt l k y → ∀ i c, i < k + 1 → l[i]? = some c → NormAt l i c) := fun h i c hi hc => by
    by_cases e : i = k
    ·subst e
     rw [HGET.out] at hc
     injection hc with hc
     subst hc
     exact h
    ·exact HN.out i c (by omega) hc
   obtain ⟨kd, n, tx⟩ := y
   simp only at x0 x1 x2
   have hnew : Below wr.heap.size wr (wr.alloc (Obj.cells #[Value.int .i64 kd, Value.int .i64 n, Value.string (bstr tx)] 51)) := (Below.refl _ _).alloc (Nat.le_refl _) _
   have HB1 : Hid (Below w.heap.size w (wr.alloc (Obj.cells #[Value.int .i64 kd, Value.int .i64 n, Value.string (bstr tx)] 51))) := HBEL.out.trans (hnew.mono HBEL.out.size)
   clear hnew
   have GW := xh (fun w => yy411 kd n tx HY.out.1.2.2.1 HY.out.2 w)
   have HSAME : Hid (kd = la → T = false) := fun h => HNO.out fun g => by
    rcases Nat.eq_zero_or_pos k with e | e
    ·have := HA0.out e
     rcases g.1 with ⟨g, _⟩ | ⟨g, _⟩ <;> simp only at g <;> omega
    ·have h1 := HA1.out e _ (HPRE.out e)
     exact g.2 _ e (HPRE.out e) (by show _ = kd; omega)
   have HLATE : Hid (la = 3 → kd = 2 → T = false) := fun h2 h => HNO.out fun g => by
    rcases Nat.eq_zero_or_pos k with e | e
    ·have := HA0.out e; omega
    ·have h1 := HA1.out e _ (HPRE.out e)
     rcases g.1 with ⟨g, _⟩ | ⟨_, _, _, _, g⟩
     ·simp only at g; omega
     ·exact g _ e (HPRE.out e) (by omega)
   have HBAD : Hid (¬ Whole ⟨kd, n, tx⟩ → T = false) := fun h => HNO.out fun g => h (by
    rcases g.1 with g | ⟨h1, h2, h3, h4, _⟩
    ·exact .inl g
    ·exact .inr ⟨h1, h2, h3, h4⟩)
   have HGOOD : Hid (¬ kd = la → ¬ (la = 3 ∧ kd = 2) → Whole ⟨kd, n, tx⟩ → NormAt l k ⟨kd, n, tx⟩) := fun h1 h2 h => by
    have hp : ∀ p, 0 < k → l[k - 1]? = some p → p.kind = la := fun p h h' => HA1.out h p h'
    refine ⟨?_, fun p h0 h' e => h1 (by have := hp p h0 h'; simp only at e; omega)⟩
    rcases h with g | ⟨g1, g2, g3, g4⟩
    ·exact .inl g
    ·exact .inr ⟨g1, g2, g3, g4, fun p h0 h' e => h2 ⟨by have := hp p h0 h'; omega, g1⟩⟩
   have HNEXT : Hid (0 < k + 1 → ∀ p, l[k + 1 - 1]? = some p → p.kind = kd) := fun _ p h => by
    rw [Nat.add_sub_cancel, HGET.out] at h
    injection h with h
    subst h
    rfl
   by_cases h3 : la = 3
   ·by_cases h2 : kd = 2
    ·have HFA := xh (HLATE.out h3 h2)
     subst h3 h2
     go_wp2
     go_ret
     exact ⟨by rw [HFA.out]; rfl, HB1.out⟩
    ·have g2 : (kd == 2) = false := xn h2
     by_cases he : kd = la
     ·have HFA := xh (HSAME.out he)
      subst he
      subst h3
      go_wp2
      go_ret
      exact ⟨by rw [HFA.out]; rfl, HB1.out⟩
     ·have HG := xh (HGOOD.out he (fun h => h2 h.2))
      subst h3
      have ge : (kd == 3) = false := xn he
      clear he h2
      go_wp2_with fail
      refine (GW.out _).mono ?_
      rintro e w1 ⟨r, hr, rfl, hb1⟩
      have HB2 : Hid (Below w.heap.size w w1) := HB1.out.trans (hb1.mono (by have := HB1.out.size; simpa using this))
      have HR := xh hr
      have c0 := (hb1.cell (p := ⟨wr.heap.size, 0, none⟩) (by simp)).trans (cell_of_row _ _ _ _ _ _ (heap_alloc_new wr _))
      clear hb1 hr
      cases r with
      | false =>
       have HFA := xh (HBAD.out fun h => by have := HR.out.2 h; cases this)
       go_wp2
       go_ret
       exact ⟨by rw [HFA.out]; rfl, HB2.out⟩
      | true =>
       have HOK := xh (HYES.out (HG.out (HR.out.1 rfl)))
       replace c0 : w1.cell? ⟨wr.heap.size, 0, none⟩ = some (.int .i64 kd) := c0
       go_wp2
       go_roundw
       case rel => exact ⟨k + 1, kd, by omega, by go_num, rfl, fun h => by omega, HNEXT.out, HOK.out, HB2.out⟩
       case measure => simp [intOf]; omega
   ·have g3 : (la == 3) = false := xn h3
    by_cases he : kd = la
    ·have HFA := xh (HSAME.out he)
     subst he
     clear h3
     go_wp2
     go_ret
     exact ⟨by rw [HFA.out]; rfl, HB1.out⟩
    ·have HG := xh (HGOOD.out he (fun h => h3 h.1))
     have ge : (kd == la) = false := xn he
     clear he h3
     go_wp2_with fail
     refine (GW.out _).mono ?_
     rintro e w1 ⟨r, hr, rfl, hb1⟩
     have HB2 : Hid (Below w.heap.size w w1) := HB1.out.trans (hb1.mono (by have := HB1.out.size; simpa using this))
     have HR := xh hr
     have c0 := (hb1.cell (p := ⟨wr.heap.size, 0, none⟩) (by simp)).trans (cell_of_row _ _ _ _ _ _ (heap_alloc_new wr _))
     clear hb1 hr
     cases r with
     | false =>
      have HFA := xh (HBAD.out fun h => by have := HR.out.2 h; cases this)
      go_wp2
      go_ret
      exact ⟨by rw [HFA.out]; rfl, HB2.out⟩
     | true =>
      have HOK := xh (HYES.out (HG.out (HR.out.1 rfl)))
      replace c0 : w1.cell? ⟨wr.heap.size, 0, none⟩ = some (.int .i64 kd) := c0
      go_wp2
      go_roundw
      case rel => exact ⟨k + 1, kd, by omega, by go_num, rfl, fun h => by omega, HNEXT.out, HOK.out, HB2.out⟩
      case measure => simp [intOf]; omega
  ·have HF : Hid (T = true) := by
    show T = true
    rw [← HT.out]
    exact yy123 fun i c h => HN.out i c (by have := (List.getElem?_eq_some_iff.1 h).1; omega) h
   go_wp2
   go_ret
   exact ⟨by rw [HF.out]; rfl, HBEL.out⟩
theorem yy151 (A : Option Addr) (c : Nat) (l : List CompV) (hl : l.length ≤ maxLen) (hf : Fine1 l) (w : World) (hc : yy6 w A l) :
  Calls Tryd.prog 53 #[.slice A l.length c] w fun e w' => e = .returned (.int .i64 (rCheck l : Int)) ∧ Below w.heap.size w w' := by
 have HL := xh hl
 unfold maxLen at hl
 have GN := xh (yy276 A c l HL.out hf w hc)
 have GB := xh (fun w h => yy191 A c l HL.out w h)
 have GO := xh (fun w h => yy241 A c l HL.out hf w h)
 have HC := xh hc; clear hc hf
 obtain ⟨T, HT⟩ : ∃ T, Hid (rCheck l = T) := ⟨_, xh rfl⟩
 rw [HT.out]
 unfold rCheck at HT
 by_cases h100 : 100 < l.length
 ·rw [if_pos h100] at HT
  go_enter Tryd.func53, Tryd.ntmps53
  go_wp2
  go_ret
  exact ⟨by rw [← HT.out]; rfl, Below.refl _ _⟩
 ·rw [if_neg h100] at HT
  cases hnb : nrmB l with
  | false =>
   rw [hnb, if_pos rfl] at HT
   rw [hnb] at GN
   clear hnb
   go_enter Tryd.func53, Tryd.ntmps53
   go_wp2_with fail
   refine GN.out.mono ?_
   rintro e w1 ⟨rfl, hb1⟩
   have HB1 := xh hb1; clear hb1
   go_wp2
   go_ret
   exact ⟨by rw [← HT.out]; rfl, HB1.out⟩
  | true =>
   rw [hnb, if_neg (by simp)] at HT
   rw [hnb] at GN
   clear hnb
   obtain ⟨p, HP⟩ : ∃ x, Hid (rBase l = x) := ⟨_, xh rfl⟩
   obtain ⟨q, HQ⟩ : ∃ x, Hid (rOut l = x) := ⟨_, xh rfl⟩
   rw [HP.out] at GB HT
   rw [HQ.out] at GO HT
   go_enter Tryd.func53, Tryd.ntmps53
   go_wp2_with fail
   refine GN.out.mono ?_
   rintro e w1 ⟨rfl, hb1⟩
   have HB1 := xh hb1; clear hb1
   go_wp2_with fail
   refine (GB.out w1 (HC.out.below HB1.out)).mono ?_
   rintro e w2 ⟨rfl, hb2⟩
   have HB2 : Hid (Below w.heap.size w w2) := HB1.out.trans (hb2.mono HB1.out.size)
   clear hb2
   by_cases hp : 2000 < p
   ·rw [if_pos (.inl hp)] at HT
    go_wp2
    go_ret
    exact ⟨by rw [← HT.out]; rfl, HB2.out⟩
   ·go_wp2_with fail
    refine (GO.out w2 (HC.out.below HB2.out)).mono ?_
    rintro e w3 ⟨rfl, hb3⟩
    have HB3 : Hid (Below w.heap.size w w3) := HB2.out.trans (hb3.mono HB2.out.size)
    clear hb3
    by_cases hq : 2000 < q
    ·rw [if_pos (.inr hq)] at HT
     go_wp2
     go_ret
     exact ⟨by rw [← HT.out]; rfl, HB3.out⟩
    ·rw [if_neg (by omega)] at HT
     go_wp2
     go_ret
     exact ⟨by rw [← HT.out]; rfl, HB3.out⟩
end Go.Proofs.YtjpjdkdbgjipnaaDoor
