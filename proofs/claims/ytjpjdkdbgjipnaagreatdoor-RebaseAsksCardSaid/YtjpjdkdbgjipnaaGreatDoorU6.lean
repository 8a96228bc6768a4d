/- A row of cells that was just laid. No condition. (Merged of 5 texts.) -/
import Derived.Test.YtjpjdkdbgjipnaaGreatDoorU1
import Derived.Laws.DeepStrings4
import Derived.Laws.Strings3
import Derived.Laws.Concat
import Derived.Deep.Slices
import Derived.Deep.OwnRows
import Derived.Deep.AppendLies
namespace Go.Proofs.YtjpjdkdbgjipnaaGreatDoor
open Go.RowKit Go.Deep
theorem yy205 (l : List Nat) : (bstr l).data.size = l.length := bstr_size l
theorem byte_at {l : List Nat} (hb : ∀ x ∈ l, x < 256) {k c : Nat} {t : List Nat} (h : l.drop k = c :: t) (w : World) :
  (Instr.index 9 (.string (bstr l)) (.int .i64 (k : Int))).run Tryz.prog w = .ok (.int .u8 (c : Int)) w := by
 have hk : k < l.length := by
  rcases Nat.lt_or_ge k l.length with h1 | h1
  ·exact h1
  ·rw [List.drop_eq_nil_of_le h1] at h; cases h
 have hc : l[k]? = some c := by rw [← List.head?_drop, h]; rfl
 have hc2 : l[k] = c := by rw [List.getElem?_eq_getElem hk] at hc; injection hc
 have hlt := hb l[k] (List.getElem_mem hk)
 rw [run_index_string w 9 _ .i64 _ Tryz.underlying9, dif_pos ⟨by omega, by rw [bstr_size]; omega⟩]
 have e : ((bstr l)[(k : Int).toNat]'(by rw [bstr_size]; omega)).toNat = c := by
  have e1 : (bstr l)[(k : Int).toNat]'(by rw [bstr_size]; omega) = (bstr l).data[k]'(by rw [yy205]; exact hk) := by
   simp only [Int.toNat_natCast]
   rfl
  rw [e1]
  have e2 : (bstr l).data.toList[k]? = some (UInt8.ofNat l[k]) := by
   rw [bstr, strOfNums_data, List.map_map, List.getElem?_map, List.getElem?_eq_getElem hk]
   simp
  have e3 : (bstr l).data[k]'(by rw [yy205]; exact hk) = UInt8.ofNat l[k] := by
   have : (bstr l).data[k]? = some (UInt8.ofNat l[k]) := by rw [← Array.getElem?_toList]; exact e2
   rw [Array.getElem?_eq_getElem (by rw [yy205]; exact hk)] at this
   injection this
  rw [e3, hc2]
  rw [hc2] at hlt
  simp
  omega
 rw [e]
theorem yy94 (l : List Nat) : (bstr l).data.toList = l.map fun x : Nat => UInt8.ofNat x := by
 rw [bstr, strOfNums_data, List.map_map]
 rfl
theorem yy130 {s : ByteArray} {l : List Nat} (h : s.data.toList = l.map fun x : Nat => UInt8.ofNat x) : s = bstr l := by
 have e : s.data = (bstr l).data := Array.toList_inj.1 (by rw [h, yy94])
 cases s
 have e2 : bstr l = ⟨(bstr l).data⟩ := rfl
 rw [e2]
 simp only at e
 rw [e]
theorem yy335 (l : List Nat) (a b : Nat) : (bstr l).extract a b = bstr ((l.take b).drop a) := by
 refine yy130 ?_
 rw [ByteArray.data_extract, Array.toList_extract, yy94, List.extract_eq_take_drop, List.map_drop, List.map_take, List.drop_take]
theorem yy482 (l : List Nat) (a b : Nat) (h1 : a ≤ b) (h2 : b ≤ l.length) (w : World) :
  (Instr.slice 9 (.string (bstr l)) (some (.int .i64 (a : Int))) (some (.int .i64 (b : Int))) none).run Tryz.prog w = .ok (.string (bstr ((l.take b).drop a))) w := by
 rw [run_slice_string_if w 9 _ .i64 .i64 _ _ Tryz.underlying9, if_pos ⟨by omega, by rw [bstr_size]; omega⟩, if_pos ⟨by omega, by omega⟩, Int.toNat_natCast, Int.toNat_natCast, yy335]
theorem yy429 (a b : List Nat) : bstr a ++ bstr b = bstr (a ++ b) := by
 refine yy130 ?_
 rw [ByteArray.data_append, Array.toList_append, yy94, yy94, List.map_append]
theorem yy657 (a b : List Nat) (ha : a.length ≤ 1099511627776) (hb : b.length ≤ 1099511627776) (w : World) : (Op.stringOp .add (bstr a) (bstr b)).run Tryz.prog w = .ok (.string (bstr (a ++ b))) w := by
 rw [run_string_add_sum w _ _ (by rw [bstr_size, bstr_size]; omega), yy429]
theorem yy658 (s : ByteArray) : ∃ l, (∀ x ∈ l, x < 256) ∧ s = bstr l := by
 refine ⟨s.data.toList.map UInt8.toNat, ?_, ?_⟩
 ·intro x hx
  obtain ⟨b, _, rfl⟩ := List.mem_map.1 hx
  exact b.toNat_lt
 ·refine yy130 ?_
  rw [List.map_map]
  conv => lhs; rw [← List.map_id s.data.toList]
  refine List.map_congr_left fun x _ => ?_
  simp
end Go.Proofs.YtjpjdkdbgjipnaaGreatDoor
namespace Go.Proofs.YtjpjdkdbgjipnaaGreatDoor
open Go.ChangeShapes Go.WideShapes Go.ChangeAt Go.RowKit Go.Deep
def yy7 (w : World) (A : Option Addr) (l : List Value) : Prop :=
 l = [] ∨ ∃ b off, A = some ⟨b, off, none⟩ ∧ b < w.heap.size ∧ ∀ (j : Nat) (v : Value), l[j]? = some v → w.cell? ⟨b, off + j, none⟩ = some v
theorem yy7.below {w w' : World} {A : Option Addr} {l : List Value} (h : yy7 w A l) (hb : Below w.heap.size w w') : yy7 w' A l := by
 rcases h with h | ⟨b, off, hA, hlt, hc⟩
 ·exact .inl h
 ·exact .inr ⟨b, off, hA, Nat.lt_of_lt_of_le hlt hb.size, fun j c hj => (hb.cell (p := ⟨b, off + j, none⟩) hlt).trans (hc j c hj)⟩
theorem yy7.drew {w : World} {A : Option Addr} {l : List Value} (h : yy7 w A l) : yy7 w.drew A l := h
theorem yy7.form {w : World} {A : Option Addr} {l : List Value} (h : yy7 w A l) (h0 : l ≠ []) : ∃ b off, A = some ⟨b, off, none⟩ ∧ b < w.heap.size := by
 rcases h with h | ⟨b, off, e, hlt, _⟩
 ·exact absurd h h0
 ·exact ⟨b, off, e, hlt⟩
theorem yy7.cell {w : World} {b off : Nat} {l : List Value} (h : yy7 w (some ⟨b, off, none⟩) l) {j : Nat} {v : Value} (hj : l[j]? = some v) : w.cell? ⟨b, off + j, none⟩ = some v := by
 rcases h with rfl | ⟨b', off', e, _, hc⟩
 ·simp at hj
 ·injection e with e
  injection e with e1 e2 e3
  subst e1 e2
  exact hc j v hj
theorem flat_get {α : Type} (g : α → List Value) (k : Nat) (hg : ∀ x, (g x).length = k) : ∀ (l : List α) (i : Nat) (hi : i < l.length) (f : Nat), f < k → (l.flatMap g)[i * k + f]? = (g l[i])[f]? := by
 intro l
 induction l with
 | nil => intro i hi; simp at hi
 | cons x l ih =>
  intro i hi f hf
  rw [List.flatMap_cons]
  cases i with
  | zero => rw [Nat.zero_mul, Nat.zero_add, List.getElem?_append_left (by rw [hg]; exact hf)]; rfl
  | succ i =>
   rw [List.getElem?_append_right (by rw [hg, Nat.succ_mul]; omega), hg, show (i + 1) * k + f - k = i * k + f by rw [Nat.succ_mul]; omega, ih i (by simpa using hi) f hf]
   rfl
theorem yy30 {α : Type} (g : α → List Value) (k : Nat) (hg : ∀ x, (g x).length = k) (l : List α) : (l.flatMap g).length = l.length * k := by
 induction l with
 | nil => simp
 | cons x l ih => rw [List.flatMap_cons, List.length_append, hg, ih, List.length_cons, Nat.succ_mul]; omega
theorem yy632 {α : Type} {g : α → List Value} {k : Nat} (hg : ∀ x, (g x).length = k) {l : List α} {j : Nat} {v : Value} (hk : 0 < k) (h : (l.flatMap g)[j]? = some v) : ∃ i f, ∃ hi : i < l.length, f < k ∧ j = i * k + f ∧ (g l[i])[f]? = some v := by
 have hj : j < l.length * k := by rw [← yy30 g k hg]; exact (List.getElem?_eq_some_iff.1 h).1
 have hi : j / k < l.length := Nat.div_lt_of_lt_mul (by rw [Nat.mul_comm]; exact hj)
 have hf : j % k < k := Nat.mod_lt _ hk
 have e : j = j / k * k + j % k := by rw [Nat.mul_comm]; exact (Nat.div_add_mod j k).symm
 refine ⟨j / k, j % k, hi, hf, e, ?_⟩
 rw [← flat_get g k hg l _ hi _ hf, ← e]
 exact h
section
variable {H : Type} {enc : TypeId × Value → H} {P : Program} {w : World}
theorem yy95 {t e : TypeId} {fs : Array Field} {k fuel : Nat} {cs : List Value} {x : DataW H × List MemPlace} (ht : P.underlying t = some (.slice e)) (he : P.underlying e = some (.struct fs)) (ce : P.cellsOf e = k)
  (h : DataW.trod enc P w 0 (fun _ => true) true fuel t cs = some x) (hlt : ∀ p ∈ x.2, p.block < w.heap.size) :
  ∃ (A : Option Addr) (n cap m : Nat), cs = [.slice A n cap] ∧ n ≤ cap ∧ cap ≤ maxLen ∧ (0 < n * k → ∃ b off, A = some ⟨b, off, none⟩ ∧ b < w.heap.size) ∧ ∀ i, i < n → ∃ R : List Value, R.length = k ∧ (∀ b off, A = some ⟨b, off, none⟩ → ∀ f, f < k → w.cell? ⟨b, off + (i * k + f), none⟩ = R[f]?) ∧
   ∀ (j : Nat) (f : Field), fs[j]? = some f → ∃ y, DataW.trod enc P w 0 (fun _ => true) true m f.type ((R.drop f.offset).take (P.cellsOf f.type)) = some y ∧ ∀ p ∈ y.2, p.block < w.heap.size := by
 rcases open_slice ht h with ⟨rfl, rfl⟩ | ⟨a, len, cap, m, n, D, Pl, rfl, _, hl, hm, hmm, rfl, hx⟩
 ·exact ⟨none, 0, 0, 0, rfl, Nat.le_refl _, Nat.zero_le _, fun h0 => by simp at h0, fun i hi => by omega⟩
 ·simp only [if_true] at hmm
  subst hmm
  have hform : 0 < len * k → ∃ b off, (some a : Option Addr) = some ⟨b, off, none⟩ ∧ b < w.heap.size := by
   intro h0
   have hk : 0 < k := Nat.pos_of_mul_pos_left h0
   have hn : 0 < len := Nat.pos_of_mul_pos_right h0
   obtain ⟨cs', h1, _⟩ := hx 0 (by omega)
   rw [ce] at h1
   obtain ⟨_, hlen, hcell⟩ := World.cells?_some h1
   have hc0 := hcell 0 hk
   rw [Nat.zero_mul, add_add, Nat.add_zero, List.getElem?_eq_getElem (by omega)] at hc0
   obtain ⟨b, off, q⟩ := a
   have hq : q = none := by simpa [Addr.add] using World.cell?_spot hc0
   subst hq
   exact ⟨b, off, rfl, World.block_lt_of_cell? w _ (by simpa [Addr.add] using hc0)⟩
  refine ⟨some a, len, m, n - 1, rfl, hl, hm, hform, fun i hi => ?_⟩
  obtain ⟨cs', h1, h2⟩ := hx i (by omega)
  rw [ce] at h1
  obtain ⟨_, hlen, hcell⟩ := World.cells?_some h1
  obtain ⟨xs, n', hn', hxy, _, hxl, hf⟩ := DataW.trod_struct he h2
  refine ⟨cs', hlen, ?_, ?_⟩
  ·rintro b off hA f hf'
   injection hA with hA
   subst hA
   have := hcell f hf'
   rw [add_add, Go.WideShapes.add_plain] at this
   exact this
  ·intro j f hj
   have h3 := hf j f hj
   have hjl : j < xs.length := by rw [hxl]; exact (Array.getElem?_eq_some_iff.1 hj).1
   rw [List.getElem?_eq_getElem hjl] at h3
   rw [show n - 1 = n' by omega]
   refine ⟨xs[j], h3, fun p hp => hlt p ?_⟩
   refine List.mem_append_right _ (List.mem_flatMap.2 ⟨i, List.mem_range.2 (by omega), ?_⟩)
   simp only [Prod.mk.injEq] at hxy
   rw [hxy.2]
   exact List.mem_flatMap.2 ⟨xs[j], List.getElem_mem hjl, hp⟩
end
end Go.Proofs.YtjpjdkdbgjipnaaGreatDoor
namespace Go.Proofs.YtjpjdkdbgjipnaaGreatDoor
open Go.RowKit Go.Deep
structure Only (g : Nat) (w w' : World) : Prop where
 os : w'.os = w.os
 tape : w'.tape = w.tape
 output : w'.output = w.output
 size : w.heap.size ≤ w'.heap.size
 block : ∀ k, k < w.heap.size → k ≠ g → w'.heap[k]? = w.heap[k]?
theorem Only.refl (g : Nat) (w : World) : Only g w w := ⟨rfl, rfl, rfl, Nat.le_refl _, fun _ _ _ => rfl⟩
theorem Only.trans {g : Nat} {a b c : World} (h : Only g a b) (k : Only g b c) : Only g a c :=
 ⟨k.os.trans h.os, k.tape.trans h.tape, k.output.trans h.output, Nat.le_trans h.size k.size, fun i hi hg => (k.block i (Nat.lt_of_lt_of_le hi h.size) hg).trans (h.block i hi hg)⟩
theorem Only.of_below {g : Nat} {w w' : World} (h : Below w.heap.size w w') : Only g w w' := ⟨h.os, h.tape, h.output, h.size, fun k hk _ => h.block k hk⟩
theorem Only.drew {g : Nat} {a w : World} (h : Only g a w) : Only g a w.drew := ⟨h.os, h.tape, h.output, h.size, h.block⟩
theorem Only.set {g : Nat} {a w : World} (h : Only g a w) (i : Nat) (v : Value) : Only g a (w.setCell ⟨g, i, none⟩ v) :=
 h.trans ⟨rfl, rfl, rfl, by simp [World.setCell], fun k _ hk => Below.heap_setCell _ _ _ _ hk⟩
theorem Only.below {g : Nat} {W w w' : World} (h : Only g w w') (hb : Below W.heap.size W w) (hg : W.heap.size ≤ g) : Below W.heap.size W w' :=
 hb.trans ⟨h.os, h.tape, h.output, h.size, fun k hk => h.block k (Nat.lt_of_lt_of_le hk hb.size) (by omega)⟩
theorem own_below {w w' : World} {base : Nat} {e : TypeId} {size : Nat} {v : Value} {n : Nat} {xs : List Value} (h : w.ownsRow base e size v n xs) (hb : Below w.heap.size w w') : w'.ownsRow base e size v n xs := by
 refine ⟨h.1, ?_⟩
 rcases h.2 with h2 | ⟨g', cap, cur, hv, hg, hh, h3, h4, h5⟩
 ·exact .inl h2
 ·have hlt : g' < w.heap.size := by
   rcases Nat.lt_or_ge g' w.heap.size with hlt | hge
   ·exact hlt
   ·rw [Array.getElem?_eq_none hge] at hh; cases hh
  exact .inr ⟨g', cap, cur, hv, hg, by rw [hb.block g' hlt]; exact hh, h3, h4, h5⟩
theorem yy216 {w w' : World} {base g : Nat} {e : TypeId} {size : Nat} {v : Value} {n : Nat} {xs : List Value} (h : w.ownsRow base e size v n xs) (ho : Only g w w') (hg : g < base) : w'.ownsRow base e size v n xs := by
 refine ⟨h.1, ?_⟩
 rcases h.2 with h2 | ⟨g', cap, cur, hv, hgb, hh, h3, h4, h5⟩
 ·exact .inl h2
 ·have hlt : g' < w.heap.size := by
   rcases Nat.lt_or_ge g' w.heap.size with hlt | hge
   ·exact hlt
   ·rw [Array.getElem?_eq_none hge] at hh; cases hh
  exact .inr ⟨g', cap, cur, hv, hgb, by rw [ho.block g' hlt (by omega)]; exact hh, h3, h4, h5⟩
theorem yy7.of_own {w : World} {base : Nat} {e : TypeId} {size : Nat} {A : Option Addr} {n c : Nat} {xs : List Value} (h : w.ownsRow base e size (.slice A n c) n xs) : yy7 w A xs := by
 by_cases h0 : n = 0
 ·subst h0
  exact .inl (List.eq_nil_of_length_eq_zero (by rw [h.1, Nat.zero_mul]))
 ·obtain ⟨g, cap, hv, _, hlt⟩ := h.form (by omega)
  injection hv with h1 h2 h3
  subst h1
  subst h3
  refine .inr ⟨g, 0, rfl, hlt, fun j x hx => ?_⟩
  have := h.cells (g := g) rfl j x hx
  rw [Nat.zero_add]
  rw [Go.WideShapes.add_plain, Nat.zero_add] at this
  exact this
theorem yy36 {w : World} {base base' : Nat} {e : TypeId} {size : Nat} {v : Value} {n : Nat} {xs : List Value} (h : w.ownsRow base e size v n xs) (hb : base' ≤ base) : w.ownsRow base' e size v n xs := by
 refine ⟨h.1, ?_⟩
 rcases h.2 with h2 | ⟨g', cap, cur, hv, hgb, hh, h3, h4, h5⟩
 ·exact .inl h2
 ·exact .inr ⟨g', cap, cur, hv, by omega, hh, h3, h4, h5⟩
theorem yy198 {w w' : World} {base base2 : Nat} {e e2 : TypeId} {size size2 : Nat} {v v2 : Value} {n n2 : Nat} {xs xs2 : List Value} (h : w.ownsRow base e size v n xs) (h2 : w.ownsRow base2 e2 size2 v2 n2 xs2) (he : e ≠ e2) (hg : w.grownBy w' v2.ownBlock) : w'.ownsRow base e size v n xs := by
 refine ⟨h.1, ?_⟩
 rcases h.2 with h0 | ⟨g', cap, cur, hv, hgb, hh, h3, h4, h5⟩
 ·exact .inl h0
 ·have hlt : g' < w.heap.size := by
   rcases Nat.lt_or_ge g' w.heap.size with hlt | hge
   ·exact hlt
   ·rw [Array.getElem?_eq_none hge] at hh; cases hh
  refine .inr ⟨g', cap, cur, hv, hgb, ?_, h3, h4, h5⟩
  rw [hg.block g' hlt ?_]
  ·exact hh
  ·intro e0
   rcases h2.2 with ⟨rfl, _⟩ | ⟨g2, cap2, cur2, rfl, _, hh2, _⟩
   ·simp [Value.ownBlock] at e0
   ·simp [Value.ownBlock] at e0
    subst e0
    rw [hh] at hh2
    injection hh2 with hh2
    injection hh2 with _ hh2
    exact he hh2
theorem yy400 {w : World} {base : Nat} {e : TypeId} {size : Nat} {v : Value} {n : Nat} {xs : List Value} (h : w.ownsRow base e size v n xs) : n ≤ maxLen := by
 rcases h.2 with ⟨_, h0⟩ | ⟨_, _, _, _, _, _, h1, h2, _⟩
 ·rw [h0]; exact Nat.zero_le _
 ·exact Nat.le_trans h1 h2
theorem yy7.lit {w : World} {cs : Array Value} {t : TypeId} {fr : Nat × Nat} {l : List Value} {g : Nat} (hc : ∀ (j : Nat) (v : Value), l[j]? = some v → cs[j]? = some v) (hg : g = w.heap.size) : yy7 (w.alloc (.cells cs t fr)) (some ⟨g, 0, none⟩) l := by
 subst hg
 exact .inr ⟨w.heap.size, 0, rfl, by simp, fun j v hv => by rw [Nat.zero_add, cell_of_row _ _ _ cs t fr (heap_alloc_new w _), hc j v hv]⟩
end Go.Proofs.YtjpjdkdbgjipnaaGreatDoor
