/- A world for the witness of a card: the settled one, the table of conflicts holding what the program's text lays. No condition. (Merged of 19 texts.) -/
import Derived.Test.YtjpjdkdbgjipnaaDoorU0
import Derived.Laws.DeepStrings4
import Derived.Laws.Strings3
import Derived.Laws.Concat
import Derived.Deep.Slices
import Derived.Test.YtjpjdkdbgjipnaaDoorRows
import Derived.Laws.Rows
import Derived.Test.YtjpjdkdbgjipnaaDoorCards
import Derived.Test.YtjpjdkdbgjipnaaDoorTie
import Derived.WalkKit
import Derived.ProofKit
import Derived.OpenShut
import Derived.Deep.DeepHandedRow
namespace Go.Proofs.YtjpjdkdbgjipnaaDoor
open Go.RowKit Go.Deep
theorem yy252 (l : List Nat) : (bstr l).data.size = l.length := bstr_size l
theorem byte_at {l : List Nat} (hb : ∀ x ∈ l, x < 256) {k c : Nat} {t : List Nat} (h : l.drop k = c :: t) (w : World) :
  (Instr.index 9 (.string (bstr l)) (.int .i64 (k : Int))).run Tryd.prog w = .ok (.int .u8 (c : Int)) w := by
 have hk : k < l.length := by
  rcases Nat.lt_or_ge k l.length with h1 | h1
  ·exact h1
  ·rw [List.drop_eq_nil_of_le h1] at h; cases h
 have hc : l[k]? = some c := by rw [← List.head?_drop, h]; rfl
 have hc2 : l[k] = c := by rw [List.getElem?_eq_getElem hk] at hc; injection hc
 have hlt := hb l[k] (List.getElem_mem hk)
 rw [run_index_string w 9 _ .i64 _ Tryd.underlying9, dif_pos ⟨by omega, by rw [bstr_size]; omega⟩]
 have e : ((bstr l)[(k : Int).toNat]'(by rw [bstr_size]; omega)).toNat = c := by
  have e1 : (bstr l)[(k : Int).toNat]'(by rw [bstr_size]; omega) = (bstr l).data[k]'(by rw [yy252]; exact hk) := by
   simp only [Int.toNat_natCast]
   rfl
  rw [e1]
  have e2 : (bstr l).data.toList[k]? = some (UInt8.ofNat l[k]) := by
   rw [bstr, strOfNums_data, List.map_map, List.getElem?_map, List.getElem?_eq_getElem hk]
   simp
  have e3 : (bstr l).data[k]'(by rw [yy252]; exact hk) = UInt8.ofNat l[k] := by
   have : (bstr l).data[k]? = some (UInt8.ofNat l[k]) := by rw [← Array.getElem?_toList]; exact e2
   rw [Array.getElem?_eq_getElem (by rw [yy252]; exact hk)] at this
   injection this
  rw [e3, hc2]
  rw [hc2] at hlt
  simp
  omega
 rw [e]
theorem yy114 (l : List Nat) : (bstr l).data.toList = l.map fun x : Nat => UInt8.ofNat x := by
 rw [bstr, strOfNums_data, List.map_map]
 rfl
theorem yy165 {s : ByteArray} {l : List Nat} (h : s.data.toList = l.map fun x : Nat => UInt8.ofNat x) : s = bstr l := by
 have e : s.data = (bstr l).data := Array.toList_inj.1 (by rw [h, yy114])
 cases s
 have e2 : bstr l = ⟨(bstr l).data⟩ := rfl
 rw [e2]
 simp only at e
 rw [e]
theorem yy412 (l : List Nat) (a b : Nat) : (bstr l).extract a b = bstr ((l.take b).drop a) := by
 refine yy165 ?_
 rw [ByteArray.data_extract, Array.toList_extract, yy114, List.extract_eq_take_drop, List.map_drop, List.map_take, List.drop_take]
theorem yy568 (l : List Nat) (a b : Nat) (h1 : a ≤ b) (h2 : b ≤ l.length) (w : World) :
  (Instr.slice 9 (.string (bstr l)) (some (.int .i64 (a : Int))) (some (.int .i64 (b : Int))) none).run Tryd.prog w = .ok (.string (bstr ((l.take b).drop a))) w := by
 rw [run_slice_string_if w 9 _ .i64 .i64 _ _ Tryd.underlying9, if_pos ⟨by omega, by rw [bstr_size]; omega⟩, if_pos ⟨by omega, by omega⟩, Int.toNat_natCast, Int.toNat_natCast, yy412]
theorem yy516 (a b : List Nat) : bstr a ++ bstr b = bstr (a ++ b) := by
 refine yy165 ?_
 rw [ByteArray.data_append, Array.toList_append, yy114, yy114, List.map_append]
theorem yy569 (a b : List Nat) (ha : a.length ≤ 1099511627776) (hb : b.length ≤ 1099511627776) (w : World) : (Op.stringOp .add (bstr a) (bstr b)).run Tryd.prog w = .ok (.string (bstr (a ++ b))) w := by
 rw [run_string_add_sum w _ _ (by rw [bstr_size, bstr_size]; omega), yy516]
theorem yy774 (s : ByteArray) : ∃ l, (∀ x ∈ l, x < 256) ∧ s = bstr l := by
 refine ⟨s.data.toList.map UInt8.toNat, ?_, ?_⟩
 ·intro x hx
  obtain ⟨b, _, rfl⟩ := List.mem_map.1 hx
  exact b.toNat_lt
 ·refine yy165 ?_
  rw [List.map_map]
  conv => lhs; rw [← List.map_id s.data.toList]
  refine List.map_congr_left fun x _ => ?_
  simp
end Go.Proofs.YtjpjdkdbgjipnaaDoor
namespace Go.Proofs.YtjpjdkdbgjipnaaDoor
open Go.ChangeShapes Go.WideShapes Go.ChangeAt Go.RowKit Go.Deep
def yy6 (w : World) (A : Option Addr) (l : List Value) : Prop :=
 l = [] ∨ ∃ b off, A = some ⟨b, off, none⟩ ∧ b < w.heap.size ∧ ∀ (j : Nat) (v : Value), l[j]? = some v → w.cell? ⟨b, off + j, none⟩ = some v
theorem yy6.below {w w' : World} {A : Option Addr} {l : List Value} (h : yy6 w A l) (hb : Below w.heap.size w w') : yy6 w' A l := by
 rcases h with h | ⟨b, off, hA, hlt, hc⟩
 ·exact .inl h
 ·exact .inr ⟨b, off, hA, Nat.lt_of_lt_of_le hlt hb.size, fun j c hj => (hb.cell (p := ⟨b, off + j, none⟩) hlt).trans (hc j c hj)⟩
theorem yy6.drew {w : World} {A : Option Addr} {l : List Value} (h : yy6 w A l) : yy6 w.drew A l := h
theorem yy6.form {w : World} {A : Option Addr} {l : List Value} (h : yy6 w A l) (h0 : l ≠ []) : ∃ b off, A = some ⟨b, off, none⟩ ∧ b < w.heap.size := by
 rcases h with h | ⟨b, off, e, hlt, _⟩
 ·exact absurd h h0
 ·exact ⟨b, off, e, hlt⟩
theorem yy6.cell {w : World} {b off : Nat} {l : List Value} (h : yy6 w (some ⟨b, off, none⟩) l) {j : Nat} {v : Value} (hj : l[j]? = some v) : w.cell? ⟨b, off + j, none⟩ = some v := by
 rcases h with rfl | ⟨b', off', e, _, hc⟩
 ·simp at hj
 ·injection e with e
  injection e with e1 e2 e3
  subst e1 e2
  exact hc j v hj
theorem flat_get {α : Type} (g : α → List Value) (k : Nat) (hg : ∀ x, (g x).length = k) : ∀ (l : List α) (i : Nat) (hi : i < l.length) (f : Nat), f < k → (l.flatMap g)[i * k + f]? = (g l[i])[f]? := by
 intro l
 induction l with
 | nil => intro i hi; simp at hi
 | cons x l ih =>
  intro i hi f hf
  rw [List.flatMap_cons]
  cases i with
  | zero => rw [Nat.zero_mul, Nat.zero_add, List.getElem?_append_left (by rw [hg]; exact hf)]; rfl
  | succ i =>
   rw [List.getElem?_append_right (by rw [hg, Nat.succ_mul]; omega), hg, show (i + 1) * k + f - k = i * k + f by rw [Nat.succ_mul]; omega, ih i (by simpa using hi) f hf]
   rfl
theorem yy29 {α : Type} (g : α → List Value) (k : Nat) (hg : ∀ x, (g x).length = k) (l : List α) : (l.flatMap g).length = l.length * k := by
 induction l with
 | nil => simp
 | cons x l ih => rw [List.flatMap_cons, List.length_append, hg, ih, List.length_cons, Nat.succ_mul]; omega
theorem yy745 {α : Type} {g : α → List Value} {k : Nat} (hg : ∀ x, (g x).length = k) {l : List α} {j : Nat} {v : Value} (hk : 0 < k) (h : (l.flatMap g)[j]? = some v) : ∃ i f, ∃ hi : i < l.length, f < k ∧ j = i * k + f ∧ (g l[i])[f]? = some v := by
 have hj : j < l.length * k := by rw [← yy29 g k hg]; exact (List.getElem?_eq_some_iff.1 h).1
 have hi : j / k < l.length := Nat.div_lt_of_lt_mul (by rw [Nat.mul_comm]; exact hj)
 have hf : j % k < k := Nat.mod_lt _ hk
 have e : j = j / k * k + j % k := by rw [Nat.mul_comm]; exact (Nat.div_add_mod j k).symm
 refine ⟨j / k, j % k, hi, hf, e, ?_⟩
 rw [← flat_get g k hg l _ hi _ hf, ← e]
 exact h
section
variable {H : Type} {enc : TypeId × Value → H} {P : Program} {w : World}
theorem yy115 {t e : TypeId} {fs : Array Field} {k fuel : Nat} {cs : List Value} {x : DataW H × List MemPlace} (ht : P.underlying t = some (.slice e)) (he : P.underlying e = some (.struct fs)) (ce : P.cellsOf e = k)
  (h : DataW.trod enc P w 0 (fun _ => true) true fuel t cs = some x) (hlt : ∀ p ∈ x.2, p.block < w.heap.size) :
  ∃ (A : Option Addr) (n cap m : Nat), cs = [.slice A n cap] ∧ n ≤ cap ∧ cap ≤ maxLen ∧ (0 < n * k → ∃ b off, A = some ⟨b, off, none⟩ ∧ b < w.heap.size) ∧ ∀ i, i < n → ∃ R : List Value, R.length = k ∧ (∀ b off, A = some ⟨b, off, none⟩ → ∀ f, f < k → w.cell? ⟨b, off + (i * k + f), none⟩ = R[f]?) ∧
   ∀ (j : Nat) (f : Field), fs[j]? = some f → ∃ y, DataW.trod enc P w 0 (fun _ => true) true m f.type ((R.drop f.offset).take (P.cellsOf f.type)) = some y ∧ ∀ p ∈ y.2, p.block < w.heap.size := by
 rcases open_slice ht h with ⟨rfl, rfl⟩ | ⟨a, len, cap, m, n, D, Pl, rfl, _, hl, hm, hmm, rfl, hx⟩
 ·exact ⟨none, 0, 0, 0, rfl, Nat.le_refl _, Nat.zero_le _, fun h0 => by simp at h0, fun i hi => by omega⟩
 ·simp only [if_true] at hmm
  subst hmm
  have hform : 0 < len * k → ∃ b off, (some a : Option Addr) = some ⟨b, off, none⟩ ∧ b < w.heap.size := by
   intro h0
   have hk : 0 < k := Nat.pos_of_mul_pos_left h0
   have hn : 0 < len := Nat.pos_of_mul_pos_right h0
   obtain ⟨cs', h1, _⟩ := hx 0 (by omega)
   rw [ce] at h1
   obtain ⟨_, hlen, hcell⟩ := World.cells?_some h1
   have hc0 := hcell 0 hk
   rw [Nat.zero_mul, add_add, Nat.add_zero, List.getElem?_eq_getElem (by omega)] at hc0
   obtain ⟨b, off, q⟩ := a
   have hq : q = none := by simpa [Addr.add] using World.cell?_spot hc0
   subst hq
   exact ⟨b, off, rfl, World.block_lt_of_cell? w _ (by simpa [Addr.add] using hc0)⟩
  refine ⟨some a, len, m, n - 1, rfl, hl, hm, hform, fun i hi => ?_⟩
  obtain ⟨cs', h1, h2⟩ := hx i (by omega)
  rw [ce] at h1
  obtain ⟨_, hlen, hcell⟩ := World.cells?_some h1
  obtain ⟨xs, n', hn', hxy, _, hxl, hf⟩ := DataW.trod_struct he h2
  refine ⟨cs', hlen, ?_, ?_⟩
  ·rintro b off hA f hf'
   injection hA with hA
   subst hA
   have := hcell f hf'
   rw [add_add, Go.WideShapes.add_plain] at this
   exact this
  ·intro j f hj
   have h3 := hf j f hj
   have hjl : j < xs.length := by rw [hxl]; exact (Array.getElem?_eq_some_iff.1 hj).1
   rw [List.getElem?_eq_getElem hjl] at h3
   rw [show n - 1 = n' by omega]
   refine ⟨xs[j], h3, fun p hp => hlt p ?_⟩
   refine List.mem_append_right _ (List.mem_flatMap.2 ⟨i, List.mem_range.2 (by omega), ?_⟩)
   simp only [Prod.mk.injEq] at hxy
   rw [hxy.2]
   exact List.mem_flatMap.2 ⟨xs[j], List.getElem_mem hjl, hp⟩
end
def Fit64 (n : Int) : Prop := -9223372036854775808 ≤ n ∧ n ≤ 9223372036854775807
def Bytes (l : List Nat) : Prop := (∀ x ∈ l, x < 256) ∧ l.length ≤ maxLen
section
variable {H : Type} {enc : TypeId × Value → H} {w : World}
theorem yy672 {n : Int} (h : (Lit.int .i64 n).wf = true) : Fit64 n := by simpa [Fit64, Lit.wf, IntKind.min, IntKind.max, IntKind.signed, IntKind.bits] using h
theorem yy776 (s : ByteArray) (h : s.size ≤ maxLen) : ∃ l, Bytes l ∧ s = bstr l := by
 obtain ⟨l, hl, rfl⟩ := yy774 s
 exact ⟨l, ⟨hl, by rw [bstr_size] at h; exact h⟩, rfl⟩
theorem yy178 {α : Type} (cells : α → List Value) (k : Nat) (hk : 0 < k) (hc : ∀ x, (cells x).length = k) {A : Option Addr} {n : Nat} (f : Nat → α) (hform : 0 < n * k → ∃ b off, A = some ⟨b, off, none⟩ ∧ b < w.heap.size)
  (h : ∀ i, i < n → ∀ b off, A = some ⟨b, off, none⟩ → ∀ j, j < k → w.cell? ⟨b, off + (i * k + j), none⟩ = (cells (f i))[j]?) : yy6 w A (((List.range n).map f).flatMap cells) := by
 by_cases h0 : n = 0
 ·subst h0
  exact .inl rfl
 ·obtain ⟨b, off, rfl, hb⟩ := hform (Nat.mul_pos (by omega) hk)
  refine .inr ⟨b, off, rfl, hb, fun j v hj => ?_⟩
  obtain ⟨i, q, hi, hq, rfl, hv⟩ := yy745 hc hk hj
  rw [List.length_map, List.length_range] at hi
  rw [h i hi b off rfl q hq, ← hv]
  simp
theorem yy166 {R : List Value} {o : Nat} {v : Value} (h : (R.drop o).take 1 = [v]) : R[o]? = some v := by
 have h2 := congrArg (fun l : List Value => l[0]?) h
 simpa using h2
set_option maxRecDepth 100000 in
theorem yy158 {R : List Value} {y : DataW H × List MemPlace} {m o : Nat} (h : DataW.trod enc Tryd.prog w 0 (fun _ => true) true m 3 ((R.drop o).take (Tryd.prog.cellsOf 3)) = some y) : ∃ n, R[o]? = some (.int .i64 n) ∧ Fit64 n := by
 obtain ⟨n, e, _, hw⟩ := DataW.trod_int Tryd.underlying3 h
 rw [show Tryd.prog.cellsOf 3 = 1 by kernel_rfl] at e
 exact ⟨n, yy166 e, yy672 hw⟩
set_option maxRecDepth 100000 in
theorem yy570 {R : List Value} {y : DataW H × List MemPlace} {m o : Nat} (h : DataW.trod enc Tryd.prog w 0 (fun _ => true) true m 4 ((R.drop o).take (Tryd.prog.cellsOf 4)) = some y) : ∃ b, R[o]? = some (.bool b) := by
 obtain ⟨b, e, _⟩ := DataW.trod_bool Tryd.underlying4 h
 rw [show Tryd.prog.cellsOf 4 = 1 by kernel_rfl] at e
 exact ⟨b, yy166 e⟩
set_option maxRecDepth 100000 in
theorem yy323 {R : List Value} {y : DataW H × List MemPlace} {m o : Nat} (h : DataW.trod enc Tryd.prog w 0 (fun _ => true) true m 9 ((R.drop o).take (Tryd.prog.cellsOf 9)) = some y) : ∃ l, R[o]? = some (.string (bstr l)) ∧ Bytes l := by
 obtain ⟨s, e, _, hs⟩ := DataW.trod_string Tryd.underlying9 h
 rw [show Tryd.prog.cellsOf 9 = 1 by kernel_rfl] at e
 obtain ⟨l, hl, rfl⟩ := yy776 s hs
 exact ⟨l, yy166 e, hl⟩
end
structure CompV where
 kind : Int
 n : Int
 text : List Nat
instance : Inhabited CompV := ⟨⟨0, 0, []⟩⟩
def CompV.Good (c : CompV) : Prop := Fit64 c.kind ∧ Fit64 c.n ∧ Bytes c.text
def yy5 (c : CompV) : List Value := [.int .i64 c.kind, .int .i64 c.n, .string (bstr c.text)]
theorem yy47 (c : CompV) : (yy5 c).length = 3 := rfl
def yy7 (w : World) (A : Option Addr) (l : List CompV) : Prop := yy6 w A (l.flatMap yy5)
theorem yy7.below {w w' : World} {A : Option Addr} {l : List CompV} (h : yy7 w A l) (hb : Below w.heap.size w w') : yy7 w' A l := yy6.below h hb
theorem yy7.drew {w : World} {A : Option Addr} {l : List CompV} (h : yy7 w A l) : yy7 w.drew A l := yy6.drew h
theorem yy7.form {w : World} {A : Option Addr} {l : List CompV} (h : yy7 w A l) (h0 : 0 < l.length) : ∃ b off, A = some ⟨b, off, none⟩ ∧ b < w.heap.size :=
 yy6.form h (by intro e; have := congrArg List.length e; rw [yy29 yy5 3 yy47] at this; simp at this; omega)
theorem yy7.at_ {w : World} {b off : Nat} {l : List CompV} (h : yy7 w (some ⟨b, off, none⟩) l) {i : Nat} (hi : i < l.length) :
  w.cell? ⟨b, off + i * 3, none⟩ = some (.int .i64 l[i].kind) ∧ w.cell? ⟨b, off + i * 3 + 1, none⟩ = some (.int .i64 l[i].n) ∧ w.cell? ⟨b, off + i * 3 + 2, none⟩ = some (.string (bstr l[i].text)) := by
 refine ⟨?_, ?_, ?_⟩
 ·exact yy6.cell h (j := i * 3 + 0) (by rw [flat_get yy5 3 yy47 l i hi 0 (by omega)]; rfl)
 ·rw [Nat.add_assoc]; exact yy6.cell h (by rw [flat_get yy5 3 yy47 l i hi 1 (by omega)]; rfl)
 ·rw [Nat.add_assoc]; exact yy6.cell h (by rw [flat_get yy5 3 yy47 l i hi 2 (by omega)]; rfl)
section
variable {H : Type} {enc : TypeId × Value → H} {w : World}
set_option maxRecDepth 100000 in
theorem yy128 {fuel : Nat} {cs : List Value} {x : DataW H × List MemPlace} (h : DataW.trod enc Tryd.prog w 0 (fun _ => true) true fuel 40 cs = some x) (hlt : ∀ p ∈ x.2, p.block < w.heap.size) :
  ∃ A l c, cs = [.slice A (List.length l) c] ∧ yy7 w A l ∧ (∀ y ∈ l, y.Good) ∧ l.length ≤ c ∧ c ≤ maxLen := by
 obtain ⟨A, n, cap, m, rfl, hn, hcap, hform, hrec⟩ := yy115 (k := 3) Tryd.underlying40 Tryd.underlying51 (by kernel_rfl) h hlt
 have each : ∀ i, i < n → ∃ y : CompV, y.Good ∧ ∀ b off, A = some ⟨b, off, none⟩ → ∀ j, j < 3 → w.cell? ⟨b, off + (i * 3 + j), none⟩ = (yy5 y)[j]? := by
  intro i hi
  obtain ⟨R, hR, hcell, hf⟩ := hrec i hi
  obtain ⟨y0, h0, _⟩ := hf 0 _ rfl
  obtain ⟨y1, h1, _⟩ := hf 1 _ rfl
  obtain ⟨y2, h2, _⟩ := hf 2 _ rfl
  obtain ⟨k0, e0, w0⟩ := yy158 (o := 0) h0
  obtain ⟨k1, e1, w1⟩ := yy158 (o := 1) h1
  obtain ⟨l2, e2, w2⟩ := yy323 (o := 2) h2
  match R, hR with
  | [r0, r1, r2], _ =>
   simp only [List.getElem?_cons_zero, List.getElem?_cons_succ, Option.some.injEq] at e0 e1 e2
   subst e0 e1 e2
   exact ⟨⟨k0, k1, l2⟩, ⟨w0, w1, w2⟩, hcell⟩
 obtain ⟨f, hf⟩ := choose_lt each
 refine ⟨A, (List.range n).map f, cap, by simp, yy178 yy5 3 (by omega) yy47 f hform (fun i hi => (hf i hi).2), ?_, by simpa using hn, hcap⟩
 intro y hy
 obtain ⟨i, hi, rfl⟩ := List.mem_map.1 hy
 exact (hf i (List.mem_range.1 hi)).1
set_option maxRecDepth 100000 in
theorem yy366 {base : Nat} {v : Value} {d : DataW H} {p : List MemPlace} (hv : Value.okWide Tryd.prog w .any base 40 v) (h : DataW.Trod enc Tryd.prog w 0 (fun _ => true) true 40 v d p) (hlt : ∀ x ∈ p, x.block < w.heap.size) :
  ∃ A l c, v = .slice A (List.length l) c ∧ yy7 w A l ∧ (∀ y ∈ l, y.Good) ∧ l.length ≤ c ∧ c ≤ maxLen := by
 obtain ⟨a0, len, cap, rfl⟩ := okWide_slice Tryd.underlying40 hv
 obtain ⟨fuel, hf⟩ := h
 obtain ⟨A, l, c, e, h1⟩ := yy128 hf hlt
 simp only [Value.cells, List.cons.injEq, and_true] at e
 exact ⟨A, l, c, e, h1⟩
set_option maxRecDepth 100000 in
theorem yy673 {R : List Value} {y : DataW H × List MemPlace} {m o : Nat} (h : DataW.trod enc Tryd.prog w 0 (fun _ => true) true m 40 ((R.drop o).take (Tryd.prog.cellsOf 40)) = some y) (hlt : ∀ p ∈ y.2, p.block < w.heap.size) :
  ∃ A l c, R[o]? = some (.slice A (List.length l) c) ∧ yy7 w A l ∧ (∀ z ∈ l, z.Good) ∧ l.length ≤ c ∧ c ≤ maxLen := by
 obtain ⟨A, l, c, e, h1⟩ := yy128 h hlt
 rw [show Tryd.prog.cellsOf 40 = 1 by kernel_rfl] at e
 exact ⟨A, l, c, yy166 e, h1⟩
end
end Go.Proofs.YtjpjdkdbgjipnaaDoor
namespace Go.Proofs.YtjpjdkdbgjipnaaDoor
noncomputable def validB (l : List Nat) : Bool := @decide (∃ vs, V l vs) (Classical.propDecidable _)
theorem yy181 {l vs : List Nat} (h : V l vs) : validB l = true := by unfold validB; exact @decide_eq_true _ (Classical.propDecidable _) ⟨vs, h⟩
theorem yy235 {l : List Nat} (h : ¬ ∃ vs, V l vs) : validB l = false := by unfold validB; exact @decide_eq_false _ (Classical.propDecidable _) h
def hld (a b : Int) : Int := min (min (max a 0) 1099511627776 + min (max b 0) 1099511627776) 1099511627776
theorem yy129 (a b : Int) : 0 ≤ hld a b := by unfold hld; omega
theorem yy182 (a b : Int) : hld a b ≤ 1099511627776 := by unfold hld; omega
def yy64 (l : List Nat) : Nat := match st l with | some (v, _) => (enc v).length | none => 1
theorem yy107 (l : List Nat) : 0 < yy64 l := by
 unfold yy64
 split
 ·exact yy367 _
 ·omega
theorem yy254 {l : List Nat} (h : l ≠ []) : yy64 l ≤ l.length := by
 unfold yy64
 split
 ·next v r hs =>
  have := congrArg List.length (yy180 hs).2
  rw [List.length_append] at this
  omega
 ·have := List.length_pos_iff.2 h
  omega
def loose (l : List Nat) : Nat := if h : l = [] then 0 else 1 + loose (l.drop (yy64 l))
termination_by l.length
decreasing_by
 have := yy107 l
 have := List.length_pos_iff.2 h
 simp only [List.length_drop]
 omega
theorem yy236 : loose [] = 0 := by rw [loose, dif_pos rfl]
theorem yy183 {l : List Nat} (h : l ≠ []) : loose l = 1 + loose (l.drop (yy64 l)) := by rw [loose, dif_neg h]
theorem yy167 (l : List Nat) : loose l ≤ l.length := by
 by_cases h : l = []
 ·rw [h, yy236]; simp
 ·rw [yy183 h]
  have h1 := yy107 l
  have h2 := yy254 h
  have := yy167 (l.drop (yy64 l))
  rw [List.length_drop] at this
  omega
termination_by l.length
decreasing_by
 have := yy107 l
 have := List.length_pos_iff.2 h
 simp only [List.length_drop]
 omega
theorem yy369 : ∀ (vs : List Nat), (∀ v ∈ vs, May v) → loose (E vs) = vs.length
 | [], _ => by rw [E_nil, yy236]; rfl
 | v :: vs, h => by
  have hv := h v (by simp)
  have hne : E (v :: vs) ≠ [] := by
   intro e
   have := E_pos (v := v) (vs := vs)
   rw [e] at this
   simp at this
  have hs : yy64 (E (v :: vs)) = (enc v).length := by
   rw [yy64, E_cons, st_enc hv]
  rw [yy183 hne, hs, E_cons, List.drop_left' rfl, yy369 vs fun x hx => h x (by simp [hx]), List.length_cons]
  omega
theorem V.loose {l vs : List Nat} (h : V l vs) : loose l = vs.length := by rw [← h.bytes]; exact yy369 vs h.may
def yy45 (n : Int) (c : CompV) : Int := if c.kind = 1 ∨ c.kind = 3 then hld n c.n else n
def yy65 (n : Int) (c : CompV) : Int := if c.kind = 1 then hld n c.n else if c.kind = 2 then hld n (loose c.text : Int) else n
def rBase (l : List CompV) : Int := l.foldl yy45 0
def rOut (l : List CompV) : Int := l.foldl yy65 0
theorem yy777 : rOut [] = 0 := rfl
theorem yy370 (l : List CompV) (c : CompV) : rBase (l ++ [c]) = yy45 (rBase l) c := by rw [rBase, List.foldl_append]; rfl
theorem yy324 (l : List CompV) (c : CompV) : rOut (l ++ [c]) = yy65 (rOut l) c := by rw [rOut, List.foldl_append]; rfl
theorem yy470 (l : List CompV) : 0 ≤ rBase l ∧ rBase l ≤ 1099511627776 := by
 have : ∀ (l : List CompV) (n : Int), 0 ≤ n → n ≤ 1099511627776 → 0 ≤ l.foldl yy45 n ∧ l.foldl yy45 n ≤ 1099511627776 := by
  intro l
  induction l with
  | nil => intro n h1 h2; exact ⟨h1, h2⟩
  | cons c l ih =>
   intro n h1 h2
   rw [List.foldl_cons]
   unfold yy45
   split
   ·exact ih _ (yy129 _ _) (yy182 _ _)
   ·exact ih _ h1 h2
 exact this l 0 (by omega) (by omega)
theorem yy778 (l : List CompV) : 0 ≤ rOut l ∧ rOut l ≤ 1099511627776 := by
 have : ∀ (l : List CompV) (n : Int), 0 ≤ n → n ≤ 1099511627776 → 0 ≤ l.foldl yy65 n ∧ l.foldl yy65 n ≤ 1099511627776 := by
  intro l
  induction l with
  | nil => intro n h1 h2; exact ⟨h1, h2⟩
  | cons c l ih =>
   intro n h1 h2
   rw [List.foldl_cons]
   unfold yy65
   split
   ·exact ih _ (yy129 _ _) (yy182 _ _)
   ·split
    ·exact ih _ (yy129 _ _) (yy182 _ _)
    ·exact ih _ h1 h2
 exact this l 0 (by omega) (by omega)
def NormAt (l : List CompV) (i : Nat) (c : CompV) : Prop :=
 (((c.kind = 1 ∨ c.kind = 3) ∧ 1 ≤ c.n ∧ c.text = []) ∨ (c.kind = 2 ∧ c.n = 0 ∧ c.text ≠ [] ∧ (∃ vs, V c.text vs) ∧ ∀ p, 0 < i → l[i - 1]? = some p → p.kind ≠ 3)) ∧ ∀ p, 0 < i → l[i - 1]? = some p → p.kind ≠ c.kind
def Nrm (l : List CompV) : Prop := ∀ i c, l[i]? = some c → NormAt l i c
noncomputable def nrmB (l : List CompV) : Bool := @decide (Nrm l) (Classical.propDecidable _)
theorem yy168 {l : List CompV} (h : Nrm l) : nrmB l = true := by unfold nrmB; exact @decide_eq_true _ (Classical.propDecidable _) h
theorem yy571 {l : List CompV} (h : ¬ Nrm l) : nrmB l = false := by unfold nrmB; exact @decide_eq_false _ (Classical.propDecidable _) h
noncomputable def rCheck (l : List CompV) : Nat := if 100 < l.length then 3 else if nrmB l = false then 1 else if 2000 < rBase l ∨ 2000 < rOut l then 3 else 0
def Fine1 (l : List CompV) : Prop := ∀ y ∈ l, y.Good ∧ y.text.length ≤ 1099511627776
end Go.Proofs.YtjpjdkdbgjipnaaDoor
namespace Go.Proofs.YtjpjdkdbgjipnaaDoor
open Go.ChangeShapes Go.WideShapes Go.ChangeAt Go.RowKit Go.Deep
structure NodeV where
 id : Int
 parent : Int
 name : List Nat
 dir : Bool
 text : List Nat
instance : Inhabited NodeV := ⟨⟨0, 0, [], false, []⟩⟩
def NodeV.Good (c : NodeV) : Prop := Fit64 c.id ∧ Fit64 c.parent ∧ Bytes c.name ∧ Bytes c.text
def yy8 (c : NodeV) : List Value := [.int .i64 c.id, .int .i64 c.parent, .string (bstr c.name), .bool c.dir, .string (bstr c.text)]
theorem yy23 (c : NodeV) : (yy8 c).length = 5 := rfl
def yy14 (w : World) (A : Option Addr) (l : List NodeV) : Prop := yy6 w A (l.flatMap yy8)
theorem yy14.below {w w' : World} {A : Option Addr} {l : List NodeV} (h : yy14 w A l) (hb : Below w.heap.size w w') : yy14 w' A l := yy6.below h hb
theorem yy14.drew {w : World} {A : Option Addr} {l : List NodeV} (h : yy14 w A l) : yy14 w.drew A l := yy6.drew h
theorem yy14.form {w : World} {A : Option Addr} {l : List NodeV} (h : yy14 w A l) (h0 : 0 < l.length) : ∃ b off, A = some ⟨b, off, none⟩ ∧ b < w.heap.size :=
 yy6.form h (by intro e; have := congrArg List.length e; rw [yy29 yy8 5 yy23] at this; simp at this; omega)
theorem yy14.at_ {w : World} {b off : Nat} {l : List NodeV} (h : yy14 w (some ⟨b, off, none⟩) l) {i : Nat} (hi : i < l.length) :
  w.cell? ⟨b, off + i * 5, none⟩ = some (.int .i64 l[i].id) ∧ w.cell? ⟨b, off + i * 5 + 1, none⟩ = some (.int .i64 l[i].parent) ∧ w.cell? ⟨b, off + i * 5 + 2, none⟩ = some (.string (bstr l[i].name)) ∧
   w.cell? ⟨b, off + i * 5 + 3, none⟩ = some (.bool l[i].dir) ∧ w.cell? ⟨b, off + i * 5 + 4, none⟩ = some (.string (bstr l[i].text)) := by
 refine ⟨?_, ?_, ?_, ?_, ?_⟩
 ·exact yy6.cell h (j := i * 5 + 0) (by rw [flat_get yy8 5 yy23 l i hi 0 (by omega)]; rfl)
 ·rw [Nat.add_assoc]; exact yy6.cell h (by rw [flat_get yy8 5 yy23 l i hi 1 (by omega)]; rfl)
 ·rw [Nat.add_assoc]; exact yy6.cell h (by rw [flat_get yy8 5 yy23 l i hi 2 (by omega)]; rfl)
 ·rw [Nat.add_assoc]; exact yy6.cell h (by rw [flat_get yy8 5 yy23 l i hi 3 (by omega)]; rfl)
 ·rw [Nat.add_assoc]; exact yy6.cell h (by rw [flat_get yy8 5 yy23 l i hi 4 (by omega)]; rfl)
section
variable {H : Type} {enc : TypeId × Value → H} {w : World}
set_option maxRecDepth 100000 in
theorem yy263 {fuel : Nat} {cs : List Value} {x : DataW H × List MemPlace} (h : DataW.trod enc Tryd.prog w 0 (fun _ => true) true fuel 22 cs = some x) (hlt : ∀ p ∈ x.2, p.block < w.heap.size) :
  ∃ A l c, cs = [.slice A (List.length l) c] ∧ yy14 w A l ∧ (∀ y ∈ l, y.Good) ∧ l.length ≤ c ∧ c ≤ maxLen := by
 obtain ⟨A, n, cap, m, rfl, hn, hcap, hform, hrec⟩ := yy115 (k := 5) Tryd.underlying22 Tryd.underlying44 (by kernel_rfl) h hlt
 have each : ∀ i, i < n → ∃ y : NodeV, y.Good ∧ ∀ b off, A = some ⟨b, off, none⟩ → ∀ j, j < 5 → w.cell? ⟨b, off + (i * 5 + j), none⟩ = (yy8 y)[j]? := by
  intro i hi
  obtain ⟨R, hR, hcell, hf⟩ := hrec i hi
  obtain ⟨y0, h0, _⟩ := hf 0 _ rfl
  obtain ⟨y1, h1, _⟩ := hf 1 _ rfl
  obtain ⟨y2, h2, _⟩ := hf 2 _ rfl
  obtain ⟨y3, h3, _⟩ := hf 3 _ rfl
  obtain ⟨y4, h4, _⟩ := hf 4 _ rfl
  obtain ⟨k0, e0, w0⟩ := yy158 (o := 0) h0
  obtain ⟨k1, e1, w1⟩ := yy158 (o := 1) h1
  obtain ⟨l2, e2, w2⟩ := yy323 (o := 2) h2
  obtain ⟨b3, e3⟩ := yy570 (o := 3) h3
  obtain ⟨l4, e4, w4⟩ := yy323 (o := 4) h4
  match R, hR with
  | [r0, r1, r2, r3, r4], _ =>
   simp only [List.getElem?_cons_zero, List.getElem?_cons_succ, Option.some.injEq] at e0 e1 e2 e3 e4
   subst e0 e1 e2 e3 e4
   exact ⟨⟨k0, k1, l2, b3, l4⟩, ⟨w0, w1, w2, w4⟩, hcell⟩
 obtain ⟨f, hf⟩ := choose_lt each
 refine ⟨A, (List.range n).map f, cap, by simp, yy178 yy8 5 (by omega) yy23 f hform (fun i hi => (hf i hi).2), ?_, by simpa using hn, hcap⟩
 intro y hy
 obtain ⟨i, hi, rfl⟩ := List.mem_map.1 hy
 exact (hf i (List.mem_range.1 hi)).1
end
structure ActV where
 kind : Int
 id : Int
 parent : Int
 name : List Nat
 dir : Bool
 opsA : Option Addr
 opsC : Nat
 ops : List CompV
instance : Inhabited ActV := ⟨⟨0, 0, 0, [], false, none, 0, []⟩⟩
def ActV.Good (c : ActV) : Prop := Fit64 c.kind ∧ Fit64 c.id ∧ Fit64 c.parent ∧ Bytes c.name ∧ (∀ y ∈ c.ops, y.Good) ∧ c.ops.length ≤ c.opsC ∧ c.opsC ≤ maxLen
def yy1 (c : ActV) : List Value := [.int .i64 c.kind, .int .i64 c.id, .int .i64 c.parent, .string (bstr c.name), .bool c.dir, .slice c.opsA c.ops.length c.opsC]
theorem yy17 (c : ActV) : (yy1 c).length = 6 := rfl
def ActsAt (w : World) (A : Option Addr) (l : List ActV) : Prop := yy6 w A (l.flatMap yy1) ∧ ∀ y ∈ l, yy7 w y.opsA y.ops
theorem ActsAt.below {w w' : World} {A : Option Addr} {l : List ActV} (h : ActsAt w A l) (hb : Below w.heap.size w w') : ActsAt w' A l := ⟨yy6.below h.1 hb, fun y hy => (h.2 y hy).below hb⟩
theorem ActsAt.form {w : World} {A : Option Addr} {l : List ActV} (h : ActsAt w A l) (h0 : 0 < l.length) : ∃ b off, A = some ⟨b, off, none⟩ ∧ b < w.heap.size :=
 yy6.form h.1 (by intro e; have := congrArg List.length e; rw [yy29 yy1 6 yy17] at this; simp at this; omega)
theorem ActsAt.at_ {w : World} {b off : Nat} {l : List ActV} (h : ActsAt w (some ⟨b, off, none⟩) l) {i : Nat} (hi : i < l.length) :
  w.cell? ⟨b, off + i * 6, none⟩ = some (.int .i64 l[i].kind) ∧ w.cell? ⟨b, off + i * 6 + 1, none⟩ = some (.int .i64 l[i].id) ∧ w.cell? ⟨b, off + i * 6 + 2, none⟩ = some (.int .i64 l[i].parent) ∧
   w.cell? ⟨b, off + i * 6 + 3, none⟩ = some (.string (bstr l[i].name)) ∧ w.cell? ⟨b, off + i * 6 + 4, none⟩ = some (.bool l[i].dir) ∧ w.cell? ⟨b, off + i * 6 + 5, none⟩ = some (.slice l[i].opsA l[i].ops.length l[i].opsC) := by
 refine ⟨?_, ?_, ?_, ?_, ?_, ?_⟩
 ·exact yy6.cell h.1 (j := i * 6 + 0) (by rw [flat_get yy1 6 yy17 l i hi 0 (by omega)]; rfl)
 ·rw [Nat.add_assoc]; exact yy6.cell h.1 (by rw [flat_get yy1 6 yy17 l i hi 1 (by omega)]; rfl)
 ·rw [Nat.add_assoc]; exact yy6.cell h.1 (by rw [flat_get yy1 6 yy17 l i hi 2 (by omega)]; rfl)
 ·rw [Nat.add_assoc]; exact yy6.cell h.1 (by rw [flat_get yy1 6 yy17 l i hi 3 (by omega)]; rfl)
 ·rw [Nat.add_assoc]; exact yy6.cell h.1 (by rw [flat_get yy1 6 yy17 l i hi 4 (by omega)]; rfl)
 ·rw [Nat.add_assoc]; exact yy6.cell h.1 (by rw [flat_get yy1 6 yy17 l i hi 5 (by omega)]; rfl)
section
variable {H : Type} {enc : TypeId × Value → H} {w : World}
set_option maxRecDepth 100000 in
theorem yy159 {fuel : Nat} {cs : List Value} {x : DataW H × List MemPlace} (h : DataW.trod enc Tryd.prog w 0 (fun _ => true) true fuel 23 cs = some x) (hlt : ∀ p ∈ x.2, p.block < w.heap.size) :
  ∃ A l c, cs = [.slice A (List.length l) c] ∧ ActsAt w A l ∧ (∀ y ∈ l, y.Good) ∧ l.length ≤ c ∧ c ≤ maxLen := by
 obtain ⟨A, n, cap, m, rfl, hn, hcap, hform, hrec⟩ := yy115 (k := 6) Tryd.underlying23 Tryd.underlying46 (by kernel_rfl) h hlt
 have each : ∀ i, i < n → ∃ y : ActV, (y.Good ∧ yy7 w y.opsA y.ops) ∧ ∀ b off, A = some ⟨b, off, none⟩ → ∀ j, j < 6 → w.cell? ⟨b, off + (i * 6 + j), none⟩ = (yy1 y)[j]? := by
  intro i hi
  obtain ⟨R, hR, hcell, hf⟩ := hrec i hi
  obtain ⟨y0, h0, _⟩ := hf 0 _ rfl
  obtain ⟨y1, h1, _⟩ := hf 1 _ rfl
  obtain ⟨y2, h2, _⟩ := hf 2 _ rfl
  obtain ⟨y3, h3, _⟩ := hf 3 _ rfl
  obtain ⟨y4, h4, _⟩ := hf 4 _ rfl
  obtain ⟨y5, h5, p5⟩ := hf 5 _ rfl
  obtain ⟨k0, e0, w0⟩ := yy158 (o := 0) h0
  obtain ⟨k1, e1, w1⟩ := yy158 (o := 1) h1
  obtain ⟨k2, e2, w2⟩ := yy158 (o := 2) h2
  obtain ⟨l3, e3, w3⟩ := yy323 (o := 3) h3
  obtain ⟨b4, e4⟩ := yy570 (o := 4) h4
  obtain ⟨A5, l5, c5, e5, at5, g5, n5, m5⟩ := yy673 (o := 5) h5 p5
  match R, hR with
  | [r0, r1, r2, r3, r4, r5], _ =>
   simp only [List.getElem?_cons_zero, List.getElem?_cons_succ, Option.some.injEq] at e0 e1 e2 e3 e4 e5
   subst e0 e1 e2 e3 e4 e5
   exact ⟨⟨k0, k1, k2, l3, b4, A5, c5, l5⟩, ⟨⟨w0, w1, w2, w3, g5, n5, m5⟩, at5⟩, hcell⟩
 obtain ⟨f, hf⟩ := choose_lt each
 refine ⟨A, (List.range n).map f, cap, by simp, ⟨yy178 yy1 6 (by omega) yy17 f hform (fun i hi => (hf i hi).2), ?_⟩, ?_, by simpa using hn, hcap⟩
 ·intro y hy
  obtain ⟨i, hi, rfl⟩ := List.mem_map.1 hy
  exact (hf i (List.mem_range.1 hi)).1.2
 ·intro y hy
  obtain ⟨i, hi, rfl⟩ := List.mem_map.1 hy
  exact (hf i (List.mem_range.1 hi)).1.1
set_option maxRecDepth 100000 in
theorem yy794 {R : List Value} {y : DataW H × List MemPlace} {m o : Nat} (h : DataW.trod enc Tryd.prog w 0 (fun _ => true) true m 23 ((R.drop o).take (Tryd.prog.cellsOf 23)) = some y) (hlt : ∀ p ∈ y.2, p.block < w.heap.size) :
  ∃ A l c, R[o]? = some (.slice A (List.length l) c) ∧ ActsAt w A l ∧ (∀ z ∈ l, z.Good) ∧ l.length ≤ c ∧ c ≤ maxLen := by
 obtain ⟨A, l, c, e, h1⟩ := yy159 h hlt
 rw [show Tryd.prog.cellsOf 23 = 1 by kernel_rfl] at e
 exact ⟨A, l, c, yy166 e, h1⟩
end
structure OneK where
 id : Int
 ops : List CompV
 edited : Bool
 removed : Bool
 created : Bool
 moved : Bool
 parent : Int
 name : List Nat
structure OneV where
 k : OneK
 opsA : Option Addr
 opsC : Nat
instance : Inhabited OneV := ⟨⟨⟨0, [], false, false, false, false, 0, []⟩, none, 0⟩⟩
def OneV.Good (c : OneV) : Prop := Fit64 c.k.id ∧ Fit64 c.k.parent ∧ Bytes c.k.name ∧ (∀ y ∈ c.k.ops, y.Good) ∧ c.k.ops.length ≤ c.opsC ∧ c.opsC ≤ maxLen
def yy10 (c : OneV) : List Value := [.int .i64 c.k.id, .slice c.opsA c.k.ops.length c.opsC, .bool c.k.edited, .bool c.k.removed, .bool c.k.created, .bool c.k.moved, .int .i64 c.k.parent, .string (bstr c.k.name)]
theorem yy28 (c : OneV) : (yy10 c).length = 8 := rfl
def OnesAt (w : World) (A : Option Addr) (l : List OneV) : Prop := yy6 w A (l.flatMap yy10) ∧ ∀ y ∈ l, yy7 w y.opsA y.k.ops
theorem OnesAt.below {w w' : World} {A : Option Addr} {l : List OneV} (h : OnesAt w A l) (hb : Below w.heap.size w w') : OnesAt w' A l := ⟨yy6.below h.1 hb, fun y hy => (h.2 y hy).below hb⟩
theorem OnesAt.form {w : World} {A : Option Addr} {l : List OneV} (h : OnesAt w A l) (h0 : 0 < l.length) : ∃ b off, A = some ⟨b, off, none⟩ ∧ b < w.heap.size :=
 yy6.form h.1 (by intro e; have := congrArg List.length e; rw [yy29 yy10 8 yy28] at this; simp at this; omega)
theorem OnesAt.at_ {w : World} {b off : Nat} {l : List OneV} (h : OnesAt w (some ⟨b, off, none⟩) l) {i : Nat} (hi : i < l.length) :
  w.cell? ⟨b, off + i * 8, none⟩ = some (.int .i64 l[i].k.id) ∧ w.cell? ⟨b, off + i * 8 + 1, none⟩ = some (.slice l[i].opsA l[i].k.ops.length l[i].opsC) ∧ w.cell? ⟨b, off + i * 8 + 2, none⟩ = some (.bool l[i].k.edited) ∧ w.cell? ⟨b, off + i * 8 + 3, none⟩ = some (.bool l[i].k.removed) ∧
   w.cell? ⟨b, off + i * 8 + 4, none⟩ = some (.bool l[i].k.created) ∧ w.cell? ⟨b, off + i * 8 + 5, none⟩ = some (.bool l[i].k.moved) ∧ w.cell? ⟨b, off + i * 8 + 6, none⟩ = some (.int .i64 l[i].k.parent) ∧ w.cell? ⟨b, off + i * 8 + 7, none⟩ = some (.string (bstr l[i].k.name)) := by
 refine ⟨?_, ?_, ?_, ?_, ?_, ?_, ?_, ?_⟩
 ·exact yy6.cell h.1 (j := i * 8 + 0) (by rw [flat_get yy10 8 yy28 l i hi 0 (by omega)]; rfl)
 ·rw [Nat.add_assoc]; exact yy6.cell h.1 (by rw [flat_get yy10 8 yy28 l i hi 1 (by omega)]; rfl)
 ·rw [Nat.add_assoc]; exact yy6.cell h.1 (by rw [flat_get yy10 8 yy28 l i hi 2 (by omega)]; rfl)
 ·rw [Nat.add_assoc]; exact yy6.cell h.1 (by rw [flat_get yy10 8 yy28 l i hi 3 (by omega)]; rfl)
 ·rw [Nat.add_assoc]; exact yy6.cell h.1 (by rw [flat_get yy10 8 yy28 l i hi 4 (by omega)]; rfl)
 ·rw [Nat.add_assoc]; exact yy6.cell h.1 (by rw [flat_get yy10 8 yy28 l i hi 5 (by omega)]; rfl)
 ·rw [Nat.add_assoc]; exact yy6.cell h.1 (by rw [flat_get yy10 8 yy28 l i hi 6 (by omega)]; rfl)
 ·rw [Nat.add_assoc]; exact yy6.cell h.1 (by rw [flat_get yy10 8 yy28 l i hi 7 (by omega)]; rfl)
section
variable {H : Type} {enc : TypeId × Value → H} {w : World}
end
end Go.Proofs.YtjpjdkdbgjipnaaDoor
namespace Go.Proofs.YtjpjdkdbgjipnaaDoor
open Go.RowKit Go.Deep
def wts (limit : Nat) : Nat → List (List Nat) → Nat
 | n, [] => n
 | n, x :: L => if n ≤ limit then wts limit (capSum n x) L else n
theorem yy188 (limit n : Nat) : wts limit n [] = n := rfl
theorem yy337 (limit n : Nat) (L : List (List Nat)) (k : Nat) (h : k < L.length) : wts limit n (L.drop k) = if n ≤ limit then wts limit (capSum n L[k]) (L.drop (k + 1)) else n := by
 rw [List.drop_eq_getElem_cons h]
 rfl
theorem yy108 (xs : List Nat) : ∀ n, n ≤ 1099511627776 → capSum n xs ≤ 1099511627776 := by
 induction xs with
 | nil => intro n hn; exact hn
 | cons x xs ih =>
  intro n hn
  rw [capSum]
  split
  ·exact Nat.le_refl _
  ·exact ih _ (by omega)
theorem yy587 (xs : List Nat) : ∀ n, capSum n xs < 1099511627776 → capSum n xs = n + xs.sum := by
 induction xs with
 | nil => intro n _; rfl
 | cons x xs ih =>
  intro n h
  rw [capSum] at h ⊢
  split at h
  ·omega
  ·rename_i h1
   rw [if_neg h1, ih _ h, List.sum_cons]
   omega
theorem yy588 (limit : Nat) (hl : limit < 1099511627776) (L : List (List Nat)) : ∀ n, wts limit n L ≤ limit → wts limit n L = n + (L.map List.sum).sum := by
 induction L with
 | nil => intro n _; rfl
 | cons x L ih =>
  intro n h
  have e : wts limit n (x :: L) = if n ≤ limit then wts limit (capSum n x) L else n := rfl
  rw [e] at h ⊢
  split at h
  ·rename_i hn
   rw [if_pos hn]
   have h1 := ih _ h
   have h2 := yy587 x n (by omega)
   rw [h1, h2, List.map_cons, List.sum_cons]
   omega
  ·omega
theorem yy589 (limit : Nat) (L : List (List Nat)) : ∀ n, n ≤ 1099511627776 → wts limit n L ≤ 1099511627776 := by
 induction L with
 | nil => intro n hn; exact hn
 | cons x L ih =>
  intro n hn
  show (if n ≤ limit then wts limit (capSum n x) L else n) ≤ 1099511627776
  split
  ·exact ih _ (yy108 x n hn)
  ·exact hn
attribute [irreducible] wts
theorem yy264 (w : World) (t : TypeId) (cs : Array Value) (xs : List Nat) (h : ∀ j x : Nat, xs[j]? = some x → cs[j]? = some (.int .i64 (x : Int))) (g : Nat) (hg : g = w.heap.size) : NatsAt (w.alloc (.cells cs t)) g 0 xs := by
 subst hg
 intro j x hx
 rw [Nat.zero_add, cell_of_row _ _ _ _ t (0, 0) (heap_alloc_new w _)]
 exact h j x hx
def yy102 (c : CompV) : List Nat := [c.text.length, 2]
def yy30 (limit : Nat) (l : List CompV) : Nat := wts limit 0 (l.map yy102)
set_option maxRecDepth 100000 in
theorem yy338 (limit : Nat) (b off cap : Nat) (l : List CompV) (hl : l.length ≤ maxLen) (hg : ∀ y ∈ l, y.Good) (w : World) (hc : yy7 w (some ⟨b, off, none⟩) l) :
  Calls Tryd.prog 19 #[.slice (some ⟨b, off, none⟩) l.length cap, .int .i64 (limit : Int)] w fun e w' => e = .returned (.int .i64 ((yy30 limit l : Nat) : Int)) ∧ Below w.heap.size w w' := by
 unfold maxLen at hl
 have HC := xh hc; clear hc
 have HG := xh hg; clear hg
 obtain ⟨T, HT⟩ : ∃ T, Hid (yy30 limit l = T) := ⟨_, rfl⟩
 rw [HT.out]
 go_enter Tryd.func19, Tryd.ntmps19
 go_wp2
 go_loopw [5, 6] (fun t i wr => ∃ k m : Nat, k ≤ l.length ∧ i = .int .i64 k ∧ t = .int .i64 (m : Int) ∧ m ≤ 1099511627776 ∧ wts limit m ((l.map yy102).drop k) = T ∧ Below w.heap.size w wr) (fun _ i _ => l.length - (intOf i).toNat)
 case atStart => exact ⟨0, 0, Nat.zero_le _, rfl, rfl, by omega, HT.out, Below.refl _ _⟩
 case round =>
  obtain ⟨k, m, hk, rfl, rfl, hm, he, hbel⟩ := hrel
  have HE := xh he; clear he
  have HB := xh hbel; clear hbel
  by_cases hlt : k < l.length
  ·have HW := xh (HE.out ▸ yy337 limit m (l.map yy102) k (by simpa using hlt) : T = _)
   have HX : Hid ((l.map yy102)[k]'(by simpa using hlt) = [l[k].text.length, 2]) := by show _ = _; rw [List.getElem_map]; rfl
   by_cases hml : m ≤ limit
   ·have hcell := ((HC.out.below HB.out).at_ hlt).2.2
    have hxl := (HG.out _ (List.getElem_mem hlt)).2.2.2
    unfold maxLen at hxl
    have hsz := bstr_size l[k].text
    obtain ⟨S, HS0⟩ : ∃ S, Hid (bstr l[k].text = S) := ⟨bstr l[k].text, xh rfl⟩
    obtain ⟨a, HA⟩ : ∃ a, Hid (l[k].text.length = a) := ⟨l[k].text.length, xh rfl⟩
    rw [HS0.out] at hcell hsz
    rw [HA.out] at hsz hxl HX
    have HR : Hid (wts limit (capSum m [a, 2]) ((l.map yy102).drop (k + 1)) = T) := by show _ = _; rw [HW.out, if_pos hml, HX.out]
    obtain ⟨r, HRR⟩ : ∃ r, Hid (capSum m [a, 2] = r) := ⟨_, rfl⟩
    have hr : r ≤ 1099511627776 := by rw [← HRR.out]; exact yy108 _ m hm
    rw [HRR.out] at HR
    have HS := xh (fun g hg' => yy95 m (by omega) g 0 2 [a, 2] (by simp [maxLen]) (by simp; omega) _ (yy264 wr 3 #[.int .i64 (a : Int), .int .i64 2] [a, 2] (fun j x hx => by
     match j, hx with
     | 0, hx => cases hx; rfl
     | 1, hx => cases hx; rfl) g hg'))
    rw [HRR.out] at HS
    clear HW HRR
    go_wp2_with (go_at_call 26; refine (HS.out _ rfl).mono ?_; rintro e w' ⟨rfl, rfl⟩)
    go_roundw
    case rel => exact ⟨k + 1, r, by omega, by go_num, rfl, hr, HR.out, HB.out.alloc HB.out.size _⟩
    case measure => simp [intOf]; omega
   ·have HR : Hid (m = T) := by show _ = _; rw [HW.out, if_neg hml]
    have hml' : limit < m := by omega
    go_wp2
    go_ret
    exact ⟨by rw [← HR.out]; rfl, HB.out⟩
  ·have HR : Hid (m = T) := by
    show m = T
    rw [← HE.out, List.drop_eq_nil_of_le (by simp; omega), yy188]
   go_wp2
   go_ret
   exact ⟨by rw [← HR.out]; rfl, HB.out⟩
theorem yy339 (limit : Nat) (A : Option Addr) (cap : Nat) (w : World) :
  Calls Tryd.prog 19 #[.slice A 0 cap, .int .i64 (limit : Int)] w fun e w' => e = .returned (.int .i64 ((yy30 limit [] : Nat) : Int)) ∧ Below w.heap.size w w' := by
 have HR : Hid (0 = yy30 limit []) := by show 0 = yy30 limit []; rw [yy30, List.map_nil, yy188]
 go_enter Tryd.func19, Tryd.ntmps19
 go_wp2
 refine wp_loop_rounds 1 ?_
 rw [rounds_succ]
 go_wp2
 go_ret
 exact ⟨by rw [← HR.out]; rfl, Below.refl _ _⟩
theorem yy223 {A : Option Addr} {l : List CompV} (limit : Nat) (cap : Nat) (hl : l.length ≤ maxLen) (hg : ∀ y ∈ l, y.Good) (w : World) (h : yy7 w A l) :
  Calls Tryd.prog 19 #[.slice A l.length cap, .int .i64 (limit : Int)] w fun e w' => e = .returned (.int .i64 ((yy30 limit l : Nat) : Int)) ∧ Below w.heap.size w w' := by
 cases l with
 | nil => exact yy339 limit A cap w
 | cons c l =>
  obtain ⟨b, off, rfl, _⟩ := h.form (by simp)
  exact yy338 limit b off cap _ hl hg w h
theorem yy6.lit {w : World} {cs : Array Value} {t : TypeId} {fr : Nat × Nat} {l : List Value} {g : Nat} (hc : ∀ (j : Nat) (v : Value), l[j]? = some v → cs[j]? = some v) (hg : g = w.heap.size) : yy6 (w.alloc (.cells cs t fr)) (some ⟨g, 0, none⟩) l := by
 subst hg
 exact .inr ⟨w.heap.size, 0, rfl, by simp, fun j v hv => by rw [Nat.zero_add, cell_of_row _ _ _ cs t fr (heap_alloc_new w _), hc j v hv]⟩
end Go.Proofs.YtjpjdkdbgjipnaaDoor
namespace Go.Proofs.YtjpjdkdbgjipnaaDoor
def okByte (x : Nat) : Prop := (97 ≤ x ∧ x ≤ 122) ∨ (48 ≤ x ∧ x ≤ 57) ∨ x = 46 ∨ x = 45 ∨ x = 95
instance (x : Nat) : Decidable (okByte x) := by unfold okByte; infer_instance
def IsName (s : List Nat) : Prop := 1 ≤ s.length ∧ s.length ≤ 20 ∧ s ≠ [46] ∧ s ≠ [46, 46] ∧ ∀ x ∈ s, okByte x
instance (s : List Nat) : Decidable (IsName s) := by unfold IsName; infer_instance
def rName (s : List Nat) : Bool := decide (IsName s)
theorem yy104 {s : List Nat} (h : IsName s) : rName s = true := decide_eq_true h
theorem yy210 {s : List Nat} (h : ¬ IsName s) : rName s = false := decide_eq_false h
def rFind (l : List NodeV) (id : Int) : Option Nat := l.findIdx? (fun y => decide (y.id = id))
theorem yy240 {l : List NodeV} {id : Int} {k : Nat} (hk : k < l.length) (h : l[k].id = id) (hn : ∀ (j : Nat) (hj : j < l.length), j < k → l[j].id ≠ id) : rFind l id = some k := by
 unfold rFind
 rw [List.findIdx?_eq_some_iff_getElem]
 exact ⟨hk, decide_eq_true h, fun j hj => by simpa using hn j (by omega) hj⟩
theorem yy345 {l : List NodeV} {id : Int} (h : ∀ y ∈ l, y.id ≠ id) : rFind l id = none := by
 unfold rFind
 rw [List.findIdx?_eq_none_iff]
 exact fun y hy => decide_eq_false (h y hy)
theorem yy21 {l : List NodeV} {id : Int} {k : Nat} (h : rFind l id = some k) : ∃ hk : k < l.length, l[k].id = id ∧ ∀ (j : Nat) (hj : j < l.length), j < k → l[j].id ≠ id := by
 unfold rFind at h
 rw [List.findIdx?_eq_some_iff_getElem] at h
 obtain ⟨hk, h1, h2⟩ := h
 exact ⟨hk, of_decide_eq_true h1, fun j hj hjk => by simpa using h2 j hjk⟩
theorem yy380 {l : List NodeV} {id : Int} (h : rFind l id = none) : ∀ y ∈ l, y.id ≠ id := by
 unfold rFind at h
 rw [List.findIdx?_eq_none_iff] at h
 exact fun y hy => of_decide_eq_false (h y hy)
def findI : Option Nat → Int
 | some k => (k : Int)
 | none => -1
def rChild (l : List NodeV) (parent : Int) (name : List Nat) : Int := match l.find? (fun y => decide (y.parent = parent ∧ y.name = name)) with
 | some y => y.id
 | none => -1
theorem yy696 {l : List NodeV} {parent : Int} {name : List Nat} {k : Nat} (hk : k < l.length) (h : l[k].parent = parent ∧ l[k].name = name) (hn : ∀ (j : Nat) (hj : j < l.length), j < k → ¬ (l[j].parent = parent ∧ l[j].name = name)) : rChild l parent name = l[k].id := by
 have : l.find? (fun y => decide (y.parent = parent ∧ y.name = name)) = some l[k] := by
  rw [List.find?_eq_some_iff_getElem]
  exact ⟨decide_eq_true h, k, hk, rfl, fun j hj => by rw [decide_eq_false (hn j (by omega) hj)]; rfl⟩
 unfold rChild
 rw [this]
theorem yy528 {l : List NodeV} {parent : Int} {name : List Nat} (h : ∀ y ∈ l, ¬ (y.parent = parent ∧ y.name = name)) : rChild l parent name = -1 := by
 have : l.find? (fun y => decide (y.parent = parent ∧ y.name = name)) = none := by
  rw [List.find?_eq_none]
  exact fun y hy => by rw [decide_eq_false (h y hy)]; exact Bool.false_ne_true
 unfold rChild
 rw [this]
def wthn (l : List NodeV) (top : Int) : Nat → Int → Bool
 | 0, _ => true
 | n + 1, id => if id = top then true else match rFind l id with
  | none => false
  | some k => wthn l top n ((l[k]?).getD default).parent
theorem yy346 (l : List NodeV) (top id : Int) : wthn l top 0 id = true := rfl
theorem yy428 (l : List NodeV) (top : Int) (n : Nat) : wthn l top (n + 1) top = true := if_pos rfl
theorem yy241 {l : List NodeV} {top id : Int} (h : id ≠ top) (hf : rFind l id = none) (n : Nat) : wthn l top (n + 1) id = false := by
 rw [wthn, if_neg h, hf]
theorem yy484 {l : List NodeV} {top id : Int} (h : id ≠ top) {k : Nat} (hk : k < l.length) (hf : rFind l id = some k) (n : Nat) : wthn l top (n + 1) id = wthn l top n l[k].parent := by
 rw [wthn, if_neg h, hf]
 show wthn l top n ((l[k]?).getD default).parent = _
 rw [List.getElem?_eq_getElem hk]
 rfl
def yy80 (l : List NodeV) (id top : Int) : Bool := wthn l top (l.length + 1) id
noncomputable def sameN (l m : List NodeV) : Bool := @decide (l = m) (Classical.propDecidable _)
theorem yy485 {l m : List NodeV} (h : l = m) : sameN l m = true := by unfold sameN; exact @decide_eq_true _ (Classical.propDecidable _) h
theorem yy600 {l m : List NodeV} (h : ¬ l = m) : sameN l m = false := by unfold sameN; exact @decide_eq_false _ (Classical.propDecidable _) h
theorem yy601 (l : List NodeV) : sameN l l = true := yy485 rfl
attribute [irreducible] rFind rChild wthn yy80 IsName okByte
theorem yy133 {x : Nat} : okByte x ↔ (97 ≤ x ∧ x ≤ 122) ∨ (48 ≤ x ∧ x ≤ 57) ∨ x = 46 ∨ x = 45 ∨ x = 95 := by unfold okByte; exact Iff.rfl
theorem yy43 {s : List Nat} : IsName s ↔ 1 ≤ s.length ∧ s.length ≤ 20 ∧ s ≠ [46] ∧ s ≠ [46, 46] ∧ ∀ x ∈ s, okByte x := by unfold IsName; exact Iff.rfl
theorem yy111 (l : List NodeV) (id top : Int) : yy80 l id top = wthn l top (l.length + 1) id := by unfold yy80; rfl
end Go.Proofs.YtjpjdkdbgjipnaaDoor
namespace Go.Proofs.YtjpjdkdbgjipnaaDoor
open Go.RowKit Go.Deep
def aKey (a : ActV) : Int × Int × Int × List Nat × Bool × List CompV := (a.kind, a.id, a.parent, a.name, a.dir, a.ops)
noncomputable def sameA (a b : ActV) : Bool := @decide (aKey a = aKey b) (Classical.propDecidable _)
theorem yy192 {a b : ActV} (h : aKey a = aKey b) : sameA a b = true := by unfold sameA; exact @decide_eq_true _ (Classical.propDecidable _) h
theorem yy73 {a b : ActV} (h : ¬ aKey a = aKey b) : sameA a b = false := by unfold sameA; exact @decide_eq_false _ (Classical.propDecidable _) h
noncomputable def sameAs (l m : List ActV) : Bool := @decide (l.map aKey = m.map aKey) (Classical.propDecidable _)
theorem yy279 {l m : List ActV} (h : l.map aKey = m.map aKey) : sameAs l m = true := by unfold sameAs; exact @decide_eq_true _ (Classical.propDecidable _) h
theorem yy496 {l m : List ActV} (h : ¬ l.map aKey = m.map aKey) : sameAs l m = false := by unfold sameAs; exact @decide_eq_false _ (Classical.propDecidable _) h
def aPlain (a : ActV) : ActV :=
 if a.kind = 1 then ⟨1, a.id, a.parent, a.name, a.dir, none, 0, []⟩
 else if a.kind = 2 then ⟨2, a.id, 0, [], false, none, 0, []⟩
 else if a.kind = 3 then ⟨3, a.id, a.parent, a.name, false, none, 0, []⟩
 else if a.kind = 4 then ⟨4, a.id, 0, [], false, a.opsA, a.opsC, a.ops⟩
 else ⟨a.kind, 0, 0, [], false, none, 0, []⟩
theorem yy612 {a : ActV} (h : a.kind = 1) : aPlain a = ⟨1, a.id, a.parent, a.name, a.dir, none, 0, []⟩ := by rw [aPlain, if_pos h]
theorem yy436 {a : ActV} (h : a.kind = 2) : aPlain a = ⟨2, a.id, 0, [], false, none, 0, []⟩ := by rw [aPlain, if_neg (by omega), if_pos h]
theorem yy613 {a : ActV} (h : a.kind = 3) : aPlain a = ⟨3, a.id, a.parent, a.name, false, none, 0, []⟩ := by rw [aPlain, if_neg (by omega), if_neg (by omega), if_pos h]
theorem yy437 {a : ActV} (h : a.kind = 4) : aPlain a = ⟨4, a.id, 0, [], false, a.opsA, a.opsC, a.ops⟩ := by rw [aPlain, if_neg (by omega), if_neg (by omega), if_neg (by omega), if_pos h]
theorem yy614 {a : ActV} (h : a.kind ≠ 1 ∧ a.kind ≠ 2 ∧ a.kind ≠ 3 ∧ a.kind ≠ 4) : aPlain a = ⟨a.kind, 0, 0, [], false, none, 0, []⟩ := by rw [aPlain, if_neg h.1, if_neg h.2.1, if_neg h.2.2.1, if_neg h.2.2.2]
theorem Good.plain {a : ActV} (h : a.Good) : (aPlain a).Good := by
 obtain ⟨h1, h2, h3, h4, h5, h6, h7⟩ := h
 have z : Fit64 0 := by unfold Fit64; omega
 have zb : Bytes [] := ⟨fun x hx => by simp at hx, by simp⟩
 unfold aPlain
 split
 ·exact ⟨show Fit64 1 by unfold Fit64; omega, h2, h3, h4, by simp, by simp, by simp⟩
 split
 ·exact ⟨show Fit64 2 by unfold Fit64; omega, h2, z, zb, by simp, by simp, by simp⟩
 split
 ·exact ⟨show Fit64 3 by unfold Fit64; omega, h2, h3, h4, by simp, by simp, by simp⟩
 split
 ·exact ⟨show Fit64 4 by unfold Fit64; omega, h2, z, zb, h5, h6, h7⟩
 ·exact ⟨h1, z, z, zb, by simp, by simp, by simp⟩
theorem comps_plain {w : World} {a : ActV} (h : yy7 w a.opsA a.ops) : yy7 w (aPlain a).opsA (aPlain a).ops := by
 unfold aPlain
 split
 ·exact .inl rfl
 split
 ·exact .inl rfl
 split
 ·exact .inl rfl
 split
 ·exact h
 ·exact .inl rfl
end Go.Proofs.YtjpjdkdbgjipnaaDoor
namespace Go.Proofs.YtjpjdkdbgjipnaaDoor
open Go.ChangeShapes Go.WideShapes Go.ChangeAt Go.RowKit Go.Deep
def confC : Array Value := #[.int .i64 4, .int .i64 2, .int .i64 0, .int .i64 12, .int .i64 2, .int .i64 9, .int .i64 2, .int .i64 13, .int .i64 3, .int .i64 2, .int .i64 0, .int .i64 12, .int .i64 3, .int .i64 16, .int .i64 0, .int .i64 13, .int .i64 1, .int .i64 4, .int .i64 0, .int .i64 13, .int .i64 1, .int .i64 32, .int .i64 0, .int .i64 12, .int .i64 3, .int .i64 32, .int .i64 0, .int .i64 12]
def ConfAt (w : World) : Prop := ∃ t f, w.heap[0]? = some (.cells confC t f)
theorem ConfAt.lt {w : World} (h : ConfAt w) : 0 < w.heap.size := by
 obtain ⟨t, f, h⟩ := h
 exact (Array.getElem?_eq_some_iff.1 h).1
theorem ConfAt.below {w w' : World} (h : ConfAt w) (hb : Below w.heap.size w w') : ConfAt w' := by
 have hl := h.lt
 obtain ⟨t, f, h⟩ := h
 exact ⟨t, f, (hb.block _ hl).trans h⟩
section
variable {H : Type} {enc : TypeId × Value → H} {w : World} {base : Nat} {sp : Nat → Bool} {held : Bool}
set_option maxRecDepth 100000 in
theorem yy445 {m o : Nat} {R : List Value} {a : Int} {p : List MemPlace} (h : DataW.trod enc Tryd.prog w base sp held m 3 ((R.drop o).take (Tryd.prog.cellsOf 3)) = some (.lit (.int .i64 a), p)) : R[o]? = some (.int .i64 a) := by
 obtain ⟨n, e, hx, _⟩ := DataW.trod_int Tryd.underlying3 h
 injection hx with hx _
 injection hx with hx
 injection hx with _ hx
 rw [show Tryd.prog.cellsOf 3 = 1 by kernel_rfl] at e
 rw [hx]
 exact yy166 e
set_option maxRecDepth 100000 in
theorem yy631 {m o : Nat} {R : List Value} {a : Int} {p : List MemPlace} (h : DataW.trod enc Tryd.prog w base sp held m 33 ((R.drop o).take (Tryd.prog.cellsOf 33)) = some (.lit (.int .i64 a), p)) : R[o]? = some (.int .i64 a) := by
 obtain ⟨n, e, hx, _⟩ := DataW.trod_int Tryd.underlying33 h
 injection hx with hx _
 injection hx with hx
 injection hx with _ hx
 rw [show Tryd.prog.cellsOf 33 = 1 by kernel_rfl] at e
 rw [hx]
 exact yy166 e
set_option maxRecDepth 100000 in
theorem yy175 {m : Nat} {r0 r1 r2 r3 : Value} {a b c d : Int} {p : List MemPlace} (h : DataW.trod enc Tryd.prog w base sp held m 91 [r0, r1, r2, r3] = some (.agg [.lit (.int .i64 a), .lit (.int .i64 b), .lit (.int .i64 c), .lit (.int .i64 d)], p)) :
  r0 = .int .i64 a ∧ r1 = .int .i64 b ∧ r2 = .int .i64 c ∧ r3 = .int .i64 d := by
 obtain ⟨xs, n, _, hx, hl, hlen, hg⟩ := DataW.trod_struct Tryd.underlying91 h
 match xs, hlen with
 | [y0, y1, y2, y3], _ =>
 have h0 := hg 0 _ rfl
 have h1 := hg 1 _ rfl
 have h2 := hg 2 _ rfl
 have h3 := hg 3 _ rfl
 injection hx with hx _
 simp only [List.map_cons, List.map_nil, DataW.agg.injEq, List.cons.injEq, and_true] at hx
 obtain ⟨e0, e1, e2, e3⟩ := hx
 obtain ⟨z0, q0⟩ := y0
 obtain ⟨z1, q1⟩ := y1
 obtain ⟨z2, q2⟩ := y2
 obtain ⟨z3, q3⟩ := y3
 simp only at e0 e1 e2 e3
 subst e0 e1 e2 e3
 have k0 := yy445 (R := [r0, r1, r2, r3]) (o := 0) h0
 have k1 := yy445 (R := [r0, r1, r2, r3]) (o := 1) h1
 have k2 := yy445 (R := [r0, r1, r2, r3]) (o := 2) h2
 have k3 := yy631 (R := [r0, r1, r2, r3]) (o := 3) h3
 simp only [List.getElem?_cons_zero, List.getElem?_cons_succ, Option.some.injEq] at k0 k1 k2 k3
 exact ⟨k0, k1, k2, k3⟩
set_option maxRecDepth 100000 in
set_option maxHeartbeats 1000000 in
theorem yy632 {m : Nat} {cs : List Value} {p : List MemPlace} (h : DataW.trod enc Tryd.prog w base sp held m 92 cs = some (Rows.laid_ropewalk_rebase_conflicts, p)) : cs = confC.toList := by
 obtain ⟨xs, n, _, hx, hl, hlen, hg⟩ := DataW.trod_array Tryd.underlying92 h
 rw [show Tryd.prog.cellsOf 92 = 28 by kernel_rfl] at hl
 rw [show Tryd.prog.cellsOf 91 = 4 by kernel_rfl] at hg
 match cs, hl with
 | [a0, a1, a2, a3, b0, b1, b2, b3, c0, c1, c2, c3, d0, d1, d2, d3, e0, e1, e2, e3, f0, f1, f2, f3, g0, g1, g2, g3], _ =>
 match xs, hlen with
 | [y0, y1, y2, y3, y4, y5, y6], _ =>
 have h0 := hg 0 (by omega)
 have h1 := hg 1 (by omega)
 have h2 := hg 2 (by omega)
 have h3 := hg 3 (by omega)
 have h4 := hg 4 (by omega)
 have h5 := hg 5 (by omega)
 have h6 := hg 6 (by omega)
 unfold Rows.laid_ropewalk_rebase_conflicts at hx
 injection hx with hx _
 simp only [List.map_cons, List.map_nil, DataW.agg.injEq, List.cons.injEq, and_true] at hx
 obtain ⟨k0, k1, k2, k3, k4, k5, k6⟩ := hx
 obtain ⟨z0, q0⟩ := y0
 obtain ⟨z1, q1⟩ := y1
 obtain ⟨z2, q2⟩ := y2
 obtain ⟨z3, q3⟩ := y3
 obtain ⟨z4, q4⟩ := y4
 obtain ⟨z5, q5⟩ := y5
 obtain ⟨z6, q6⟩ := y6
 simp only at k0 k1 k2 k3 k4 k5 k6
 subst k0 k1 k2 k3 k4 k5 k6
 obtain ⟨rfl, rfl, rfl, rfl⟩ := yy175 h0
 obtain ⟨rfl, rfl, rfl, rfl⟩ := yy175 h1
 obtain ⟨rfl, rfl, rfl, rfl⟩ := yy175 h2
 obtain ⟨rfl, rfl, rfl, rfl⟩ := yy175 h3
 obtain ⟨rfl, rfl, rfl, rfl⟩ := yy175 h4
 obtain ⟨rfl, rfl, rfl, rfl⟩ := yy175 h5
 obtain ⟨rfl, rfl, rfl, rfl⟩ := yy175 h6
 rfl
end
set_option maxRecDepth 100000 in
theorem yy98 {w : World} (h : laidMet Tryd.prog [("ropewalk/rebase.conflicts", Rows.laid_ropewalk_rebase_conflicts)] w) : ConfAt w := by
 obtain ⟨ps, ⟨g, t, cs, fuel, p, q, hg, ht, hv, htr, _⟩, _⟩ := h
 obtain rfl : 0 = g := Option.some.inj ((show Tryd.prog.globalNamed "ropewalk/rebase.conflicts" = some 0 by kernel_rfl).symm.trans hg)
 obtain rfl : 92 = t := Option.some.inj ((show (Tryd.prog.globals[0]?).map (·.type) = some 92 by kernel_rfl).symm.trans ht)
 have hc := yy632 htr
 have e : cs = confC := by rw [← Array.toList_inj]; exact hc
 subst e
 unfold World.var? at hv
 rw [hg] at hv
 simp only [Option.bind_some] at hv
 split at hv
 ·rename_i c1 t1 f1 h1
  injection hv with hv
  subst hv
  exact ⟨t1, f1, h1⟩
 ·cases hv
end Go.Proofs.YtjpjdkdbgjipnaaDoor
namespace Go.Proofs.YtjpjdkdbgjipnaaDoor
open Go.RowKit Go.Deep
theorem yy161 (w : World) (x y : Obj) : ((w.alloc x).alloc y).heap[w.heap.size + 1]? = some y := by
 have := heap_alloc_new (w.alloc x) y
 rwa [World.size_alloc] at this
set_option maxHeartbeats 1000000 in
set_option maxRecDepth 100000 in
theorem yy448 (a : ActV) (w : World) :
  Calls Tryd.prog 45 #[.agg (yy1 a).toArray] w fun e w' => e = .returned (.agg (yy1 (aPlain a)).toArray) ∧ Below w.heap.size w w' := by
 obtain ⟨k, i, p, n, d, A, c, o⟩ := a
 by_cases h1 : k = 1
 ·rw [yy612 h1]
  subst h1
  unfold yy1
  go_enter Tryd.func45, Tryd.ntmps45
  go_wp2
  refine bodyPost_ret (results_cell_row rfl _ _ (w.heap.size + 1) 46 #[.int .i64 1, .int .i64 i, .int .i64 p, .string (bstr n), .bool d, .slice none 0 0] (0, 0) _ rfl (yy161 _ _ _) Tryd.underlying46 rfl (by kernel_rfl)) rfl ?_
  exact ⟨rfl, ((Below.refl _ _).alloc (Nat.le_refl _) _).alloc (by simp) _⟩
 by_cases h2 : k = 2
 ·rw [yy436 h2]
  subst h2
  unfold yy1
  go_enter Tryd.func45, Tryd.ntmps45
  go_wp2
  refine bodyPost_ret (results_cell_row rfl _ _ (w.heap.size + 1) 46 #[.int .i64 2, .int .i64 i, .int .i64 0, .string (bstr []), .bool false, .slice none 0 0] (0, 0) _ rfl (yy161 _ _ _) Tryd.underlying46 rfl (by kernel_rfl)) rfl ?_
  exact ⟨rfl, ((Below.refl _ _).alloc (Nat.le_refl _) _).alloc (by simp) _⟩
 by_cases h3 : k = 3
 ·rw [yy613 h3]
  subst h3
  unfold yy1
  go_enter Tryd.func45, Tryd.ntmps45
  go_wp2
  refine bodyPost_ret (results_cell_row rfl _ _ (w.heap.size + 1) 46 #[.int .i64 3, .int .i64 i, .int .i64 p, .string (bstr n), .bool false, .slice none 0 0] (0, 0) _ rfl (yy161 _ _ _) Tryd.underlying46 rfl (by kernel_rfl)) rfl ?_
  exact ⟨rfl, ((Below.refl _ _).alloc (Nat.le_refl _) _).alloc (by simp) _⟩
 by_cases h4 : k = 4
 ·rw [yy437 h4]
  subst h4
  unfold yy1
  go_enter Tryd.func45, Tryd.ntmps45
  go_wp2
  refine bodyPost_ret (results_cell_row rfl _ _ (w.heap.size + 1) 46 #[.int .i64 4, .int .i64 i, .int .i64 0, .string (bstr []), .bool false, .slice A o.length c] (0, 0) _ rfl (yy161 _ _ _) Tryd.underlying46 rfl (by kernel_rfl)) rfl ?_
  exact ⟨rfl, ((Below.refl _ _).alloc (Nat.le_refl _) _).alloc (by simp) _⟩
 ·rw [yy614 ⟨h1, h2, h3, h4⟩]
  have g1 : (k == 1) = false := xn h1
  have g2 : (k == 2) = false := xn h2
  have g3 : (k == 3) = false := xn h3
  have g4 : (k == 4) = false := xn h4
  clear h1 h2 h3 h4
  unfold yy1
  go_enter Tryd.func45, Tryd.ntmps45
  go_wp2
  refine bodyPost_ret (results_cell_row rfl _ _ (w.heap.size + 1) 46 #[.int .i64 k, .int .i64 0, .int .i64 0, .string (bstr []), .bool false, .slice none 0 0] (0, 0) _ rfl (yy161 _ _ _) Tryd.underlying46 rfl (by kernel_rfl)) rfl ?_
  exact ⟨rfl, ((Below.refl _ _).alloc (Nat.le_refl _) _).alloc (by simp) _⟩
end Go.Proofs.YtjpjdkdbgjipnaaDoor
namespace Go.Proofs.YtjpjdkdbgjipnaaDoor
open Go.ChangeShapes Go.WideShapes Go.ChangeAt Go.RowKit Go.Deep
structure CommitV where
 rev : Int
 client : Int
 seq : Int
 actsA : Option Addr
 actsC : Nat
 acts : List ActV
instance : Inhabited CommitV := ⟨⟨0, 0, 0, none, 0, []⟩⟩
def CommitV.Good (c : CommitV) : Prop := Fit64 c.rev ∧ Fit64 c.client ∧ Fit64 c.seq ∧ (∀ y ∈ c.acts, y.Good) ∧ c.acts.length ≤ c.actsC ∧ c.actsC ≤ maxLen
def yy62 (c : CommitV) : List Value := [.int .i64 c.rev, .int .i64 c.client, .int .i64 c.seq, .slice c.actsA c.acts.length c.actsC]
theorem yy41 (c : CommitV) : (yy62 c).length = 4 := rfl
def yy70 (w : World) (A : Option Addr) (l : List CommitV) : Prop := yy6 w A (l.flatMap yy62) ∧ ∀ y ∈ l, ActsAt w y.actsA y.acts
theorem yy70.below {w w' : World} {A : Option Addr} {l : List CommitV} (h : yy70 w A l) (hb : Below w.heap.size w w') : yy70 w' A l := ⟨yy6.below h.1 hb, fun y hy => (h.2 y hy).below hb⟩
theorem yy70.form {w : World} {A : Option Addr} {l : List CommitV} (h : yy70 w A l) (h0 : 0 < l.length) : ∃ b off, A = some ⟨b, off, none⟩ ∧ b < w.heap.size :=
 yy6.form h.1 (by intro e; have := congrArg List.length e; rw [yy29 yy62 4 yy41] at this; simp at this; omega)
theorem yy70.at_ {w : World} {b off : Nat} {l : List CommitV} (h : yy70 w (some ⟨b, off, none⟩) l) {i : Nat} (hi : i < l.length) :
  w.cell? ⟨b, off + i * 4, none⟩ = some (.int .i64 l[i].rev) ∧ w.cell? ⟨b, off + i * 4 + 1, none⟩ = some (.int .i64 l[i].client) ∧ w.cell? ⟨b, off + i * 4 + 2, none⟩ = some (.int .i64 l[i].seq) ∧
   w.cell? ⟨b, off + i * 4 + 3, none⟩ = some (.slice l[i].actsA l[i].acts.length l[i].actsC) := by
 refine ⟨?_, ?_, ?_, ?_⟩
 ·exact yy6.cell h.1 (j := i * 4 + 0) (by rw [flat_get yy62 4 yy41 l i hi 0 (by omega)]; rfl)
 ·rw [Nat.add_assoc]; exact yy6.cell h.1 (by rw [flat_get yy62 4 yy41 l i hi 1 (by omega)]; rfl)
 ·rw [Nat.add_assoc]; exact yy6.cell h.1 (by rw [flat_get yy62 4 yy41 l i hi 2 (by omega)]; rfl)
 ·rw [Nat.add_assoc]; exact yy6.cell h.1 (by rw [flat_get yy62 4 yy41 l i hi 3 (by omega)]; rfl)
section
variable {H : Type} {enc : TypeId × Value → H} {w : World}
set_option maxRecDepth 100000 in
theorem yy219 {fuel : Nat} {cs : List Value} {x : DataW H × List MemPlace} (h : DataW.trod enc Tryd.prog w 0 (fun _ => true) true fuel 59 cs = some x) (hlt : ∀ p ∈ x.2, p.block < w.heap.size) :
  ∃ A l c, cs = [.slice A (List.length l) c] ∧ yy70 w A l ∧ (∀ y ∈ l, y.Good) ∧ l.length ≤ c ∧ c ≤ maxLen := by
 obtain ⟨A, n, cap, m, rfl, hn, hcap, hform, hrec⟩ := yy115 (k := 4) Tryd.underlying59 Tryd.underlying61 (by kernel_rfl) h hlt
 have each : ∀ i, i < n → ∃ y : CommitV, (y.Good ∧ ActsAt w y.actsA y.acts) ∧ ∀ b off, A = some ⟨b, off, none⟩ → ∀ j, j < 4 → w.cell? ⟨b, off + (i * 4 + j), none⟩ = (yy62 y)[j]? := by
  intro i hi
  obtain ⟨R, hR, hcell, hf⟩ := hrec i hi
  obtain ⟨y0, h0, _⟩ := hf 0 _ rfl
  obtain ⟨y1, h1, _⟩ := hf 1 _ rfl
  obtain ⟨y2, h2, _⟩ := hf 2 _ rfl
  obtain ⟨y3, h3, p3⟩ := hf 3 _ rfl
  obtain ⟨k0, e0, w0⟩ := yy158 (o := 0) h0
  obtain ⟨k1, e1, w1⟩ := yy158 (o := 1) h1
  obtain ⟨k2, e2, w2⟩ := yy158 (o := 2) h2
  obtain ⟨A3, l3, c3, e3, at3, g3, n3, m3⟩ := yy794 (o := 3) h3 p3
  match R, hR with
  | [r0, r1, r2, r3], _ =>
   simp only [List.getElem?_cons_zero, List.getElem?_cons_succ, Option.some.injEq] at e0 e1 e2 e3
   subst e0 e1 e2 e3
   exact ⟨⟨k0, k1, k2, A3, c3, l3⟩, ⟨⟨w0, w1, w2, g3, n3, m3⟩, at3⟩, hcell⟩
 obtain ⟨f, hf⟩ := choose_lt each
 refine ⟨A, (List.range n).map f, cap, by simp, ⟨yy178 yy62 4 (by omega) yy41 f hform (fun i hi => (hf i hi).2), ?_⟩, ?_, by simpa using hn, hcap⟩
 ·intro y hy
  obtain ⟨i, hi, rfl⟩ := List.mem_map.1 hy
  exact (hf i (List.mem_range.1 hi)).1.2
 ·intro y hy
  obtain ⟨i, hi, rfl⟩ := List.mem_map.1 hy
  exact (hf i (List.mem_range.1 hi)).1.1
set_option maxRecDepth 100000 in
theorem yy464 {base : Nat} {v : Value} {d : DataW H} {p : List MemPlace} (hv : Value.okWide Tryd.prog w .any base 59 v) (h : DataW.Trod enc Tryd.prog w 0 (fun _ => true) true 59 v d p) (hlt : ∀ x ∈ p, x.block < w.heap.size) :
  ∃ A l c, v = .slice A (List.length l) c ∧ yy70 w A l ∧ (∀ y ∈ l, y.Good) ∧ l.length ≤ c ∧ c ≤ maxLen := by
 obtain ⟨a0, len, cap, rfl⟩ := okWide_slice Tryd.underlying59 hv
 obtain ⟨fuel, hf⟩ := h
 obtain ⟨A, l, c, e, h1⟩ := yy219 hf hlt
 simp only [Value.cells, List.cons.injEq, and_true] at e
 exact ⟨A, l, c, e, h1⟩
end
end Go.Proofs.YtjpjdkdbgjipnaaDoor
namespace Go.Proofs.YtjpjdkdbgjipnaaDoor
open Go.ChangeShapes Go.WideShapes Go.ChangeAt Go.RowKit
variable {H : Type} {enc : TypeId × Value → H} {w : World}
set_option maxRecDepth 100000 in
theorem yy664 {base : Nat} {v : Value} {d : DataW H} {p : List MemPlace} (hv : Value.okWide Tryd.prog w .any base 22 v) (h : DataW.Trod enc Tryd.prog w 0 (fun _ => true) true 22 v d p) (hlt : ∀ x ∈ p, x.block < w.heap.size) :
  ∃ A l c, v = .slice A (List.length l) c ∧ yy14 w A l ∧ (∀ y ∈ l, y.Good) ∧ l.length ≤ c ∧ c ≤ maxLen := by
 obtain ⟨a0, len, cap, rfl⟩ := okWide_slice Tryd.underlying22 hv
 obtain ⟨fuel, hf⟩ := h
 obtain ⟨A, l, c, e, h1⟩ := yy263 hf hlt
 simp only [Value.cells, List.cons.injEq, and_true] at e
 exact ⟨A, l, c, e, h1⟩
set_option maxRecDepth 100000 in
theorem yy363 {base : Nat} {v : Value} {d : DataW H} {p : List MemPlace} (hv : Value.okWide Tryd.prog w .any base 23 v) (h : DataW.Trod enc Tryd.prog w 0 (fun _ => true) true 23 v d p) (hlt : ∀ x ∈ p, x.block < w.heap.size) :
  ∃ A l c, v = .slice A (List.length l) c ∧ ActsAt w A l ∧ (∀ y ∈ l, y.Good) ∧ l.length ≤ c ∧ c ≤ maxLen := by
 obtain ⟨a0, len, cap, rfl⟩ := okWide_slice Tryd.underlying23 hv
 obtain ⟨fuel, hf⟩ := h
 obtain ⟨A, l, c, e, h1⟩ := yy159 hf hlt
 simp only [Value.cells, List.cons.injEq, and_true] at e
 exact ⟨A, l, c, e, h1⟩
def yy890 : Obj → Obj
 | .cells _ t frozen => .cells confC t frozen
 | o => o
noncomputable def yy52 (os : Os) : World :=
 { World.holding Tryd.prog os ⟨#[], #[], []⟩ with heap := (World.holding Tryd.prog os ⟨#[], #[], []⟩).heap.modify 0 yy890 }
end Go.Proofs.YtjpjdkdbgjipnaaDoor
