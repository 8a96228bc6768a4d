/- The contract of alike.Block, of any number: a text of so many small letters. Condition: no more than 2^20 of them. (XBlock has the number 1 alone.) (Merged of 4 texts.) -/
import Derived.Test.YtjpjdkdbgjipnaaDoorV0
import Derived.Laws.DeepStrings4
import Derived.Laws.Strings3
import Derived.Laws.Concat
import Derived.Deep.Slices
import Derived.Test.YtjpjdkdbgjipnaaDoorV5
import Derived.Deep.OwnRows
namespace Go.Proofs.YtjpjdkdbgjipnaaDoor
open Go.RowKit Go.Deep
theorem yy180 (l : List Nat) : (bstr l).data.size = l.length := bstr_size l
theorem byte_at {l : List Nat} (hb : ∀ x ∈ l, x < 256) {k c : Nat} {t : List Nat} (h : l.drop k = c :: t) (w : World) :
  (Instr.index 9 (.string (bstr l)) (.int .i64 (k : Int))).run Tryd.prog w = .ok (.int .u8 (c : Int)) w := by
 have hk : k < l.length := by
  rcases Nat.lt_or_ge k l.length with h1 | h1
  ·exact h1
  ·rw [List.drop_eq_nil_of_le h1] at h; cases h
 have hc : l[k]? = some c := by rw [← List.head?_drop, h]; rfl
 have hc2 : l[k] = c := by rw [List.getElem?_eq_getElem hk] at hc; injection hc
 have hlt := hb l[k] (List.getElem_mem hk)
 rw [run_index_string w 9 _ .i64 _ Tryd.underlying9, dif_pos ⟨by omega, by rw [bstr_size]; omega⟩]
 have e : ((bstr l)[(k : Int).toNat]'(by rw [bstr_size]; omega)).toNat = c := by
  have e1 : (bstr l)[(k : Int).toNat]'(by rw [bstr_size]; omega) = (bstr l).data[k]'(by rw [yy180]; exact hk) := by
   simp only [Int.toNat_natCast]
   rfl
  rw [e1]
  have e2 : (bstr l).data.toList[k]? = some (UInt8.ofNat l[k]) := by
   rw [bstr, strOfNums_data, List.map_map, List.getElem?_map, List.getElem?_eq_getElem hk]
   simp
  have e3 : (bstr l).data[k]'(by rw [yy180]; exact hk) = UInt8.ofNat l[k] := by
   have : (bstr l).data[k]? = some (UInt8.ofNat l[k]) := by rw [← Array.getElem?_toList]; exact e2
   rw [Array.getElem?_eq_getElem (by rw [yy180]; exact hk)] at this
   injection this
  rw [e3, hc2]
  rw [hc2] at hlt
  simp
  omega
 rw [e]
theorem yy85 (l : List Nat) : (bstr l).data.toList = l.map fun x : Nat => UInt8.ofNat x := by
 rw [bstr, strOfNums_data, List.map_map]
 rfl
theorem yy121 {s : ByteArray} {l : List Nat} (h : s.data.toList = l.map fun x : Nat => UInt8.ofNat x) : s = bstr l := by
 have e : s.data = (bstr l).data := Array.toList_inj.1 (by rw [h, yy85])
 cases s
 have e2 : bstr l = ⟨(bstr l).data⟩ := rfl
 rw [e2]
 simp only at e
 rw [e]
theorem yy308 (l : List Nat) (a b : Nat) : (bstr l).extract a b = bstr ((l.take b).drop a) := by
 refine yy121 ?_
 rw [ByteArray.data_extract, Array.toList_extract, yy85, List.extract_eq_take_drop, List.map_drop, List.map_take, List.drop_take]
theorem yy457 (l : List Nat) (a b : Nat) (h1 : a ≤ b) (h2 : b ≤ l.length) (w : World) :
  (Instr.slice 9 (.string (bstr l)) (some (.int .i64 (a : Int))) (some (.int .i64 (b : Int))) none).run Tryd.prog w = .ok (.string (bstr ((l.take b).drop a))) w := by
 rw [run_slice_string_if w 9 _ .i64 .i64 _ _ Tryd.underlying9, if_pos ⟨by omega, by rw [bstr_size]; omega⟩, if_pos ⟨by omega, by omega⟩, Int.toNat_natCast, Int.toNat_natCast, yy308]
theorem yy402 (a b : List Nat) : bstr a ++ bstr b = bstr (a ++ b) := by
 refine yy121 ?_
 rw [ByteArray.data_append, Array.toList_append, yy85, yy85, List.map_append]
theorem yy458 (a b : List Nat) (ha : a.length ≤ 1099511627776) (hb : b.length ≤ 1099511627776) (w : World) : (Op.stringOp .add (bstr a) (bstr b)).run Tryd.prog w = .ok (.string (bstr (a ++ b))) w := by
 rw [run_string_add_sum w _ _ (by rw [bstr_size, bstr_size]; omega), yy402]
theorem yy641 (s : ByteArray) : ∃ l, (∀ x ∈ l, x < 256) ∧ s = bstr l := by
 refine ⟨s.data.toList.map UInt8.toNat, ?_, ?_⟩
 ·intro x hx
  obtain ⟨b, _, rfl⟩ := List.mem_map.1 hx
  exact b.toNat_lt
 ·refine yy121 ?_
  rw [List.map_map]
  conv => lhs; rw [← List.map_id s.data.toList]
  refine List.map_congr_left fun x _ => ?_
  simp
end Go.Proofs.YtjpjdkdbgjipnaaDoor
namespace Go.Proofs.YtjpjdkdbgjipnaaDoor
open Go.ChangeShapes Go.WideShapes Go.ChangeAt Go.RowKit Go.Deep
def yy4 (w : World) (A : Option Addr) (l : List Value) : Prop :=
 l = [] ∨ ∃ b off, A = some ⟨b, off, none⟩ ∧ b < w.heap.size ∧ ∀ (j : Nat) (v : Value), l[j]? = some v → w.cell? ⟨b, off + j, none⟩ = some v
theorem yy4.below {w w' : World} {A : Option Addr} {l : List Value} (h : yy4 w A l) (hb : Below w.heap.size w w') : yy4 w' A l := by
 rcases h with h | ⟨b, off, hA, hlt, hc⟩
 ·exact .inl h
 ·exact .inr ⟨b, off, hA, Nat.lt_of_lt_of_le hlt hb.size, fun j c hj => (hb.cell (p := ⟨b, off + j, none⟩) hlt).trans (hc j c hj)⟩
theorem yy4.drew {w : World} {A : Option Addr} {l : List Value} (h : yy4 w A l) : yy4 w.drew A l := h
theorem yy4.form {w : World} {A : Option Addr} {l : List Value} (h : yy4 w A l) (h0 : l ≠ []) : ∃ b off, A = some ⟨b, off, none⟩ ∧ b < w.heap.size := by
 rcases h with h | ⟨b, off, e, hlt, _⟩
 ·exact absurd h h0
 ·exact ⟨b, off, e, hlt⟩
theorem yy4.cell {w : World} {b off : Nat} {l : List Value} (h : yy4 w (some ⟨b, off, none⟩) l) {j : Nat} {v : Value} (hj : l[j]? = some v) : w.cell? ⟨b, off + j, none⟩ = some v := by
 rcases h with rfl | ⟨b', off', e, _, hc⟩
 ·simp at hj
 ·injection e with e
  injection e with e1 e2 e3
  subst e1 e2
  exact hc j v hj
theorem flat_get {α : Type} (g : α → List Value) (k : Nat) (hg : ∀ x, (g x).length = k) : ∀ (l : List α) (i : Nat) (hi : i < l.length) (f : Nat), f < k → (l.flatMap g)[i * k + f]? = (g l[i])[f]? := by
 intro l
 induction l with
 | nil => intro i hi; simp at hi
 | cons x l ih =>
  intro i hi f hf
  rw [List.flatMap_cons]
  cases i with
  | zero => rw [Nat.zero_mul, Nat.zero_add, List.getElem?_append_left (by rw [hg]; exact hf)]; rfl
  | succ i =>
   rw [List.getElem?_append_right (by rw [hg, Nat.succ_mul]; omega), hg, show (i + 1) * k + f - k = i * k + f by rw [Nat.succ_mul]; omega, ih i (by simpa using hi) f hf]
   rfl
theorem yy27 {α : Type} (g : α → List Value) (k : Nat) (hg : ∀ x, (g x).length = k) (l : List α) : (l.flatMap g).length = l.length * k := by
 induction l with
 | nil => simp
 | cons x l ih => rw [List.flatMap_cons, List.length_append, hg, ih, List.length_cons, Nat.succ_mul]; omega
theorem yy611 {α : Type} {g : α → List Value} {k : Nat} (hg : ∀ x, (g x).length = k) {l : List α} {j : Nat} {v : Value} (hk : 0 < k) (h : (l.flatMap g)[j]? = some v) : ∃ i f, ∃ hi : i < l.length, f < k ∧ j = i * k + f ∧ (g l[i])[f]? = some v := by
 have hj : j < l.length * k := by rw [← yy27 g k hg]; exact (List.getElem?_eq_some_iff.1 h).1
 have hi : j / k < l.length := Nat.div_lt_of_lt_mul (by rw [Nat.mul_comm]; exact hj)
 have hf : j % k < k := Nat.mod_lt _ hk
 have e : j = j / k * k + j % k := by rw [Nat.mul_comm]; exact (Nat.div_add_mod j k).symm
 refine ⟨j / k, j % k, hi, hf, e, ?_⟩
 rw [← flat_get g k hg l _ hi _ hf, ← e]
 exact h
section
variable {H : Type} {enc : TypeId × Value → H} {P : Program} {w : World}
theorem yy309 {t e : TypeId} {fs : Array Field} {k fuel : Nat} {cs : List Value} {x : DataW H × List MemPlace} (ht : P.underlying t = some (.slice e)) (he : P.underlying e = some (.struct fs)) (ce : P.cellsOf e = k)
  (h : DataW.trod enc P w 0 (fun _ => true) true fuel t cs = some x) (hlt : ∀ p ∈ x.2, p.block < w.heap.size) :
  ∃ (A : Option Addr) (n cap m : Nat), cs = [.slice A n cap] ∧ n ≤ cap ∧ cap ≤ maxLen ∧ (0 < n * k → ∃ b off, A = some ⟨b, off, none⟩ ∧ b < w.heap.size) ∧ ∀ i, i < n → ∃ R : List Value, R.length = k ∧ (∀ b off, A = some ⟨b, off, none⟩ → ∀ f, f < k → w.cell? ⟨b, off + (i * k + f), none⟩ = R[f]?) ∧
   ∀ (j : Nat) (f : Field), fs[j]? = some f → ∃ y, DataW.trod enc P w 0 (fun _ => true) true m f.type ((R.drop f.offset).take (P.cellsOf f.type)) = some y ∧ ∀ p ∈ y.2, p.block < w.heap.size := by
 rcases open_slice ht h with ⟨rfl, rfl⟩ | ⟨a, len, cap, m, n, D, Pl, rfl, _, hl, hm, hmm, rfl, hx⟩
 ·exact ⟨none, 0, 0, 0, rfl, Nat.le_refl _, Nat.zero_le _, fun h0 => by simp at h0, fun i hi => by omega⟩
 ·simp only [if_true] at hmm
  subst hmm
  have hform : 0 < len * k → ∃ b off, (some a : Option Addr) = some ⟨b, off, none⟩ ∧ b < w.heap.size := by
   intro h0
   have hk : 0 < k := Nat.pos_of_mul_pos_left h0
   have hn : 0 < len := Nat.pos_of_mul_pos_right h0
   obtain ⟨cs', h1, _⟩ := hx 0 (by omega)
   rw [ce] at h1
   obtain ⟨_, hlen, hcell⟩ := World.cells?_some h1
   have hc0 := hcell 0 hk
   rw [Nat.zero_mul, add_add, Nat.add_zero, List.getElem?_eq_getElem (by omega)] at hc0
   obtain ⟨b, off, q⟩ := a
   have hq : q = none := by simpa [Addr.add] using World.cell?_spot hc0
   subst hq
   exact ⟨b, off, rfl, World.block_lt_of_cell? w _ (by simpa [Addr.add] using hc0)⟩
  refine ⟨some a, len, m, n - 1, rfl, hl, hm, hform, fun i hi => ?_⟩
  obtain ⟨cs', h1, h2⟩ := hx i (by omega)
  rw [ce] at h1
  obtain ⟨_, hlen, hcell⟩ := World.cells?_some h1
  obtain ⟨xs, n', hn', hxy, _, hxl, hf⟩ := DataW.trod_struct he h2
  refine ⟨cs', hlen, ?_, ?_⟩
  ·rintro b off hA f hf'
   injection hA with hA
   subst hA
   have := hcell f hf'
   rw [add_add, Go.WideShapes.add_plain] at this
   exact this
  ·intro j f hj
   have h3 := hf j f hj
   have hjl : j < xs.length := by rw [hxl]; exact (Array.getElem?_eq_some_iff.1 hj).1
   rw [List.getElem?_eq_getElem hjl] at h3
   rw [show n - 1 = n' by omega]
   refine ⟨xs[j], h3, fun p hp => hlt p ?_⟩
   refine List.mem_append_right _ (List.mem_flatMap.2 ⟨i, List.mem_range.2 (by omega), ?_⟩)
   simp only [Prod.mk.injEq] at hxy
   rw [hxy.2]
   exact List.mem_flatMap.2 ⟨xs[j], List.getElem_mem hjl, hp⟩
end
end Go.Proofs.YtjpjdkdbgjipnaaDoor
namespace Go.Proofs.YtjpjdkdbgjipnaaDoor
open Go.RowKit Go.Deep
theorem yy4.lit {w : World} {cs : Array Value} {t : TypeId} {fr : Nat × Nat} {l : List Value} {g : Nat} (hc : ∀ (j : Nat) (v : Value), l[j]? = some v → cs[j]? = some v) (hg : g = w.heap.size) : yy4 (w.alloc (.cells cs t fr)) (some ⟨g, 0, none⟩) l := by
 subst hg
 exact .inr ⟨w.heap.size, 0, rfl, by simp, fun j v hv => by rw [Nat.zero_add, cell_of_row _ _ _ cs t fr (heap_alloc_new w _), hc j v hv]⟩
def letter (n : Int) (i : Nat) : Nat := 97 + rnd (IntKind.i64.wrap (IntKind.i64.wrap (n * 7) + (i : Int))) 26
def blks (size : Nat) (n : Int) : List Nat := (List.range size).map fun i : Nat => letter n i
theorem yy161 (size : Nat) (n : Int) : (blks size n).length = size := by simp [blks]
theorem yy609 (n : Int) (i : Nat) : letter n i < 123 ∧ 97 ≤ letter n i := by
 have := rnd_lt (IntKind.i64.wrap (IntKind.i64.wrap (n * 7) + (i : Int))) (n := 26) (by omega)
 unfold letter
 omega
theorem yy762 (size : Nat) (n : Int) : ∀ x ∈ blks size n, x < 123 ∧ 97 ≤ x := by
 intro x hx
 obtain ⟨i, _, rfl⟩ := List.mem_map.1 hx
 exact yy609 n i
theorem yy763 (size : Nat) (n : Int) (i : Nat) (h : i < size) : (blks size n)[i]? = some (letter n i) := by
 rw [blks, List.getElem?_map, List.getElem?_range h]
 rfl
def yy610 (size : Nat) (n : Int) (w : World) (q : Nat) (wr : World) : Prop :=
 wr.rowIs w.heap.size 5 size (fun j => .int .u8 ((if j < q then letter n j else 0 : Nat) : Int)) ∧ Below w.heap.size w wr
set_option maxHeartbeats 1000000 in
set_option maxRecDepth 100000 in
theorem yy542 (size : Nat) (hs : size ≤ 1048576) (n : Int) (w : World) :
  Calls Tryd.prog 20 #[.int .i64 (size : Int), .int .i64 n] w fun e w' => e = .returned (.string (bstr (blks size n))) ∧ Below w.heap.size w w' := by
 have hmk := run_make_row' (P := Tryd.prog) 88 5 (.int .u8 0) 1 Tryd.underlying88 u8_info rfl .i64 .i64 size (by omega) (by omega)
 obtain ⟨M, HM⟩ : ∃ M, Hid (IntKind.i64.wrap (n * 7) = M) := ⟨_, rfl⟩
 have em := HM.out
 go_enter Tryd.func20, Tryd.ntmps20
 go_wp2
 clear hmk
 go_loopw [6] (fun i wr => ∃ q : Nat, q ≤ size ∧ i = .int .i64 q ∧ yy610 size n w q wr) (fun i _ => size - (intOf i).toNat)
 case atStart =>
  refine ⟨0, Nat.zero_le _, rfl, (World.rowIs_made w (.int .u8 0) size 5).congr fun j hj => ?_, (Below.refl _ _).alloc (Nat.le_refl _) _⟩
  rw [if_neg (by omega)]; rfl
 case round =>
  obtain ⟨q, hq, rfl, hrel⟩ := hrel
  have HREL := xh hrel; clear hrel
  by_cases hlt : q < size
  ·obtain ⟨X, HX⟩ : ∃ X, Hid (IntKind.i64.wrap (M + (q : Int)) = X) := ⟨_, rfl⟩
   have ex := HX.out
   have GR := xh (fun w => yy244 X 26 (by omega) (by omega) w)
   have hrl := rnd_lt X (n := 26) (by omega)
   obtain ⟨r, HR⟩ : ∃ r, Hid (rnd X 26 = r) := ⟨_, xh rfl⟩
   have HLT : Hid (letter n q = 97 + r) := by show letter n q = 97 + r; rw [letter, em, ex, HR.out]
   rw [HR.out] at GR hrl
   have hcell := HREL.out.1.cell hlt
   have hfr := HREL.out.1.frozen q
   go_wp2_with fail
   refine (GR.out _).mono ?_
   rintro e w' ⟨rfl, rfl⟩
   go_wp2_with fail
   go_roundw
   case rel =>
    refine ⟨q + 1, by omega, by go_num, (HREL.out.1.set q _).congr fun j hj => ?_, HREL.out.2.setCell (Nat.le_refl _) _⟩
    by_cases e : j = q
    ·subst e
     rw [if_pos rfl, if_pos (by omega), HLT.out]
     congr 1
    ·rw [if_neg e]
     by_cases h1 : j < q
     ·rw [if_pos h1, if_pos (by omega)]
     ·rw [if_neg h1, if_neg (by omega)]
   case measure => simp [intOf]; omega
  ·obtain rfl : q = size := by omega
   have HAT : Hid (BytesAt wr (some ⟨w.heap.size, 0, none⟩) (blks q n)) := by
    refine .inr ⟨w.heap.size, 0, rfl, HREL.out.1.lt, fun j c hj => ?_⟩
    have hjl : j < q := by have := (List.getElem?_eq_some_iff.1 hj).1; rwa [yy161] at this
    rw [yy763 q n j hjl] at hj
    injection hj with hj
    rw [Nat.zero_add, HREL.out.1.cell hjl, if_pos hjl, ← hj]
   have hcv := HAT.out.conv q 9 Tryd.underlying9
   rw [yy161] at hcv
   clear em
   go_wp2
   go_ret
   exact ⟨rfl, HREL.out.2⟩
end Go.Proofs.YtjpjdkdbgjipnaaDoor
