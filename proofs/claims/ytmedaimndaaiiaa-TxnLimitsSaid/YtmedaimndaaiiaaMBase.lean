/- Texts by their bytes: any text is one; what the run answers of s[i], s[a:b], s[a:], s[:b], s + t. Condition: the places are within; no more than 2^40 bytes. (Merged of 3 texts.) -/
import Derived.Test.YtmedaimndaaiiaaRows
import Derived.WalkKit
import Derived.ProofKit
import Derived.OpenShut
import Derived.OpenVars
import Derived.Lib.Hide
import Derived.Laws.BytesArg
import Derived.Laws.IdiomStrings
import Derived.Deep.OwnRows
import Derived.Maps.AppendAt
import Derived.Deep.AppendLies
import Derived.Deep.Matrix
import Derived.Laws.DeepStrings4
import Derived.Laws.Strings3
import Derived.Laws.Concat
/- What every law's claim here closes with: a call that answers true, and leaves what was there as it was, meets the law's row: the answer reads as true, and each argument reads as it did. No condition. -/
namespace Go.Proofs.Ytmedaimndaaiiaa
open Go.ChangeShapes Go.WideShapes Go.ChangeAt Go.RowKit

theorem law_own : ownKnob Try.prog.godebug = none := by kernel_rfl
theorem law_laid : laidOutB Try.prog = true := by kernel_rfl

section
variable {H : Type} {enc : TypeId × Value → H} {P : Program}

/-- All arguments read behind the call as they did before. -/
theorem trodAll_below (hl : laidOutB P = true) {W W' : World} (hb : Below W.heap.size W W') :
    ∀ {ts : List TypeId} {vs : List Value} {ds : List (DataW H)} {ps : List MemPlace}, (ts.all fun t => P.readableRec t && decide (t < P.types.size)) = true →
      DataW.TrodAll enc P W 0 (fun _ => true) true ts vs ds ps → (∀ x ∈ ps, x.block < W.heap.size) → DataW.TrodAll enc P W' 0 (fun b => decide (b < W.heap.size)) true ts vs ds ps := by
  intro ts
  induction ts with
  | nil =>
    intro vs ds ps _ h _
    obtain ⟨rfl, rfl, rfl⟩ := trodAll_nil h
    rfl
  | cons t ts ih =>
    intro vs ds ps ht h hlt
    obtain ⟨v, vs', d, ds', p, q, rfl, rfl, rfl, h1, h2⟩ := trodAll_cons h
    simp only [List.all_cons, Bool.and_eq_true] at ht
    exact ⟨p, q, Below.trod hl ht.1.1 (of_decide_eq_true ht.1.2) h1 hb (fun x hx => hlt x (List.mem_append_left _ hx)), ih ht.2 h2 (fun x hx => hlt x (List.mem_append_right _ hx)), rfl⟩

theorem law_post {f : Func} {s : ChangeSpec} {tb : TypeId} {W W' : World} {args : Array Value} {ds gs : List (DataW H)} {before : List MemPlace} (hl : laidOutB P = true)
    (hr : (f.params.toList.all fun t => P.readableRec t && decide (t < P.types.size)) = true) (hres : f.resultTypes = #[tb]) (htb : P.underlying tb = some .bool) (hv : varsRowed P s.vars = true)
    (hW : DataW.Whole enc P f.params.toList s.vars false W args.toList ds gs before) (hfn : s.fn H (ds ++ gs) = { results := [.lit (.bool true)], args := ds, vars := gs }) (hb : Below W.heap.size W W') :
    s.post enc P f false true false false W args (.bool true) W' := by
  have hW' := hW
  obtain ⟨p, q, hA, hV, rfl, _, _⟩ := hW
  have hlt : ∀ x ∈ p ++ q, x.block < W.heap.size := fun x hx => hW'.lt x hx
  refine ⟨ds, gs, p ++ q, [], p, q, hW', ?_, ?_, ?_, World.keptBut_mono (fun x hx => ⟨hx, ?_⟩) (hb.frame (· ∈ p ++ q)), fun h => by cases h⟩
  · rw [hfn, hres]
    exact trodAll_mk1 (shut_bool htb true)
  · rw [hfn]
    exact trodAll_below hl hb hr hA (fun x hx => hlt x (List.mem_append_left _ hx))
  · rw [hfn]
    exact Below.trodVars hl hb hv hV
  · exact Or.inr (List.mem_append.1 hx)
end
end Go.Proofs.Ytmedaimndaaiiaa

/- Slices of bytes that come in or go from call to call, nil among them: what they read as, in this world and in later ones; how such an argument is opened; append of such bytes onto bytes that the call itself has made. Conditions: no more than 2^46 bytes together, where bytes are appended. -/
namespace Go.Proofs.Ytmedaimndaaiiaa
open Go.ChangeShapes Go.WideShapes Go.ChangeAt Go.RowKit Go.Deep

theorem u8_info : (Try.prog.info? 5).map (fun i => (i.zero, i.size, i.bytes)) = some (some (.int .u8 0), 1, 1) := by kernel_rfl
/-- The slice value with address A reads as these bytes, and lies below the heap's end. -/
def BytesAt (w : World) (A : Option Addr) (l : List Nat) : Prop :=
  l = [] ∨ ∃ b off, A = some ⟨b, off, none⟩ ∧ b < w.heap.size ∧ ∀ j c : Nat, l[j]? = some c → w.cell? ⟨b, off + j, none⟩ = some (.int .u8 (c : Int))
theorem BytesAt.below {w w' : World} {A : Option Addr} {l : List Nat} (h : BytesAt w A l) (hb : Below w.heap.size w w') : BytesAt w' A l := by
  rcases h with h | ⟨b, off, hA, hlt, hc⟩
  · exact .inl h
  · exact .inr ⟨b, off, hA, Nat.lt_of_lt_of_le hlt hb.size, fun j c hj => (hb.cell (p := ⟨b, off + j, none⟩) hlt).trans (hc j c hj)⟩
theorem BytesAt.drew {w : World} {A : Option Addr} {l : List Nat} (h : BytesAt w A l) : BytesAt w.drew A l := h
/-- The text of these bytes. -/
def bstr (l : List Nat) : ByteArray := strOfNums (l.map fun x : Nat => (x : Int))
theorem bstr_size (l : List Nat) : (bstr l).size = l.length := by simp [bstr, strOfNums_size]
theorem bstr_inj (a b : List Nat) (ha : ∀ x ∈ a, x < 256) (hb : ∀ x ∈ b, x < 256) (h : bstr a = bstr b) : a = b := by
  have h1 := congrArg (fun s : ByteArray => s.data.toList.map UInt8.toNat) h
  have key : ∀ l : List Nat, (∀ x ∈ l, x < 256) → (bstr l).data.toList.map UInt8.toNat = l := by
    intro l hl
    rw [bstr, strOfNums_data, List.map_map, List.map_map]
    conv => rhs; rw [← List.map_id l]
    refine List.map_congr_left fun x hx => ?_
    have := hl x hx
    simp
    omega
  simp only [key a ha, key b hb] at h1
  exact h1
theorem bstr_neq {a b : ByteArray} (h : a ≠ b) : (a.toList == b.toList) = false := by
  refine beq_eq_false_iff_ne.2 fun e => h ?_
  rw [ByteArray.toList_eq, ByteArray.toList_eq] at e
  have e' := Array.toList_inj.1 e
  cases a
  cases b
  simp only at e'
  rw [e']
theorem BytesAt.conv {w : World} {A : Option Addr} {l : List Nat} (h : BytesAt w A l) (c : Nat) :
    ∀ dst, Try.prog.underlying dst = some .string → (convert 40 dst (.slice A l.length c)).run Try.prog w = .ok (.string (bstr l)) w := by
  rcases h with rfl | ⟨b, off, rfl, _, hc⟩
  · cases A with
    | none => exact run_convert_bytes_nil w 40 5 Try.underlying40 Try.underlying5 _ _
    | some a => exact fun dst hd => run_convert_bytes_back w 40 dst 5 a c [] Try.underlying40 Try.underlying5 hd (fun j hj => by simp at hj)
  · refine run_convert_bytes_arg w 40 5 Try.underlying40 Try.underlying5 b off l.length c (l.map fun x : Nat => (x : Int)) (by simp) (fun i hi => ?_)
    rw [hc i l[i] (List.getElem?_eq_getElem hi)]
    simp [List.getD, hi]

set_option maxRecDepth 100000 in
/-- An argument of type []uint8: what it reads as, with its capacity. -/
theorem open_bytes_cap {H : Type} {enc : TypeId × Value → H} {w : World} {base : Nat} {v : Value} {d : DataW H} {p : List MemPlace} (hv : Value.okWide Try.prog w .any base 40 v)
    (h : DataW.Trod enc Try.prog w 0 (fun _ => true) true 40 v d p) (hlt : ∀ x ∈ p, x.block < w.heap.size) :
    ∃ A l c, v = .slice A (List.length l) c ∧ BytesAt w A l ∧ (∀ x ∈ l, x < 256) ∧ l.length ≤ maxLen ∧ l.length ≤ c ∧ c ≤ maxLen := by
  obtain ⟨a0, len, cap, rfl⟩ := okWide_slice Try.underlying40 hv
  obtain ⟨fuel, hf⟩ := h
  rcases open_ints Try.underlying40 Try.underlying5 (by kernel_rfl) hf with ⟨hcs, hx⟩ | ⟨a, len', cap', zs, hcs, _, hl, hm, hz, hx, hcell, hwz⟩
  · simp [Value.cells] at hcs
    obtain ⟨rfl, rfl, rfl⟩ := hcs
    exact ⟨none, [], 0, rfl, .inl rfl, by simp, by simp [maxLen], by simp, by simp [maxLen]⟩
  · simp [Value.cells] at hcs
    obtain ⟨rfl, rfl, rfl⟩ := hcs
    simp only [Prod.mk.injEq] at hx
    obtain ⟨rfl, rfl⟩ := hx
    simp only [if_true] at hz
    have hw : ∀ z ∈ zs, 0 ≤ z ∧ z ≤ 255 := fun z hzz => by simpa [Lit.wf, IntKind.min, IntKind.max, IntKind.signed, IntKind.bits] using hwz z hzz
    have hlen : ((zs.take len).map Int.toNat).length = len := by simp; omega
    refine ⟨some a, (zs.take len).map Int.toNat, cap, by rw [hlen], ?_, ?_, by rw [hlen]; omega, by rw [hlen]; omega, by omega⟩
    · by_cases h0 : len = 0
      · subst h0
        exact .inl (by simp)
      · have hzp : 0 < zs.length := by omega
        obtain ⟨b, off, rfl, hc⟩ := ints_at hcell hzp
        refine .inr ⟨b, off, rfl, hlt (.cell b (off + 0)) (MemPlace.mem_row.2 ⟨0, hzp, rfl⟩), fun j c hj => ?_⟩
        rw [List.getElem?_map, Option.map_eq_some_iff] at hj
        obtain ⟨z, hz1, rfl⟩ := hj
        rw [List.getElem?_take] at hz1
        split at hz1
        · have hjl : j < zs.length := (List.getElem?_eq_some_iff.1 hz1).1
          have h0 := (hw z (List.mem_of_getElem? hz1)).1
          rw [hc j hjl, List.getD_eq_getElem?_getD, hz1, Option.getD_some, Int.toNat_of_nonneg h0]
        · cases hz1
    · intro x hx
      obtain ⟨z, hz1, rfl⟩ := List.mem_map.1 hx
      have := hw z (List.mem_of_mem_take hz1)
      omega
set_option maxRecDepth 100000 in
/-- An argument of type []uint8: what it reads as. -/
theorem open_bytes {H : Type} {enc : TypeId × Value → H} {w : World} {base : Nat} {v : Value} {d : DataW H} {p : List MemPlace} (hv : Value.okWide Try.prog w .any base 40 v)
    (h : DataW.Trod enc Try.prog w 0 (fun _ => true) true 40 v d p) (hlt : ∀ x ∈ p, x.block < w.heap.size) :
    ∃ A l c, v = .slice A (List.length l) c ∧ BytesAt w A l ∧ (∀ x ∈ l, x < 256) ∧ l.length ≤ maxLen := by
  obtain ⟨A, l, c, h1, h2, h3, h4, _⟩ := open_bytes_cap hv h hlt
  exact ⟨A, l, c, h1, h2, h3, h4⟩

def u8s (l : List Nat) : List Value := l.map fun x : Nat => .int .u8 (x : Int)
theorem u8s_one (l : List Nat) : ∀ u ∈ u8s l, u.oneCell' = true := by
  intro u hu
  obtain ⟨x, _, rfl⟩ := List.mem_map.1 hu
  rfl
theorem u8s_length (l : List Nat) : (u8s l).length = l.length := by simp [u8s]
theorem u8s_append (a b : List Nat) : u8s (a ++ b) = u8s a ++ u8s b := by simp [u8s]
theorem BytesAt.cells {w : World} {a : Addr} {l : List Nat} (h : BytesAt w (some a) l) : ∀ (j : Nat) (u : Value), (u8s l)[j]? = some u → w.cell? (a.add j) = some u := by
  intro j u hu
  rcases h with rfl | ⟨b, off, e, _, hc⟩
  · simp [u8s] at hu
  · injection e with e
    subst e
    rw [u8s, List.getElem?_map, Option.map_eq_some_iff] at hu
    obtain ⟨x, hx, rfl⟩ := hu
    rw [Go.WideShapes.add_plain]
    exact hc j x hx
theorem BytesAt.take {w : World} {A : Option Addr} {l : List Nat} (h : BytesAt w A l) (k : Nat) : BytesAt w A (l.take k) := by
  rcases h with rfl | ⟨b, off, e, hlt, hc⟩
  · exact .inl (by simp)
  · refine .inr ⟨b, off, e, hlt, fun j c hj => hc j c ?_⟩
    rw [List.getElem?_take] at hj
    split at hj
    · exact hj
    · cases hj
/-- What was there stays as it was: step by step. -/
theorem bstep {w x y : World} (h : Below w.heap.size w x) (h2 : Below x.heap.size x y) : Below w.heap.size w y := h.trans (h2.mono h.size)
theorem balloc {w x : World} (h : Below w.heap.size w x) (o : Obj) : Below w.heap.size w (x.alloc o) := h.alloc h.size o
/-- Bytes that were just laid. -/
theorem BytesAt.lit {w : World} {cs : Array Value} {t : TypeId} {fr : Nat × Nat} {l : List Nat} {g : Nat} (hc : ∀ (j x : Nat), l[j]? = some x → cs[j]? = some (Value.int .u8 (x : Int))) (hg : g = w.heap.size) : BytesAt (w.alloc (.cells cs t fr)) (some ⟨g, 0, none⟩) l := by
  subst hg
  exact .inr ⟨w.heap.size, 0, rfl, by simp, fun j x hx => by rw [Nat.zero_add, cell_of_row _ _ _ cs t fr (heap_alloc_new w _), hc j x hx]⟩
theorem BytesAt.alloc {w : World} {A : Option Addr} {l : List Nat} (h : BytesAt w A l) (o : Obj) : BytesAt (w.alloc o) A l := h.below ((Below.refl _ _).alloc (Nat.le_refl _) _)
theorem BytesAt.nil {w : World} : BytesAt w none [] := .inl rfl
theorem BytesAt.drop {w : World} {b off : Nat} {l : List Nat} (h : BytesAt w (some ⟨b, off, none⟩) l) (k : Nat) : BytesAt w (some ⟨b, off + k, none⟩) (l.drop k) := by
  rcases h with rfl | ⟨b', off', e, hlt, hc⟩
  · exact .inl (by simp)
  · injection e with e
    injection e with e1 e2 e3
    subst e1 e2
    refine .inr ⟨_, _, rfl, hlt, fun j c hj => ?_⟩
    rw [List.getElem?_drop] at hj
    rw [Nat.add_assoc]
    exact hc _ c hj
/-- The cell of one byte. -/
theorem BytesAt.cell {w : World} {b off : Nat} {l : List Nat} (h : BytesAt w (some ⟨b, off, none⟩) l) {j : Nat} (hj : j < l.length) : w.cell? ⟨b, off + j, none⟩ = some (.int .u8 ((l[j] : Nat) : Int)) := by
  rcases h with rfl | ⟨b', off', e, _, hc⟩
  · simp at hj
  · injection e with e
    injection e with e1 e2 e3
    subst e1 e2
    exact hc j _ (List.getElem?_eq_getElem hj)
theorem BytesAt.form {w : World} {A : Option Addr} {l : List Nat} (h : BytesAt w A l) (h0 : 0 < l.length) : ∃ b off, A = some ⟨b, off, none⟩ ∧ b < w.heap.size := by
  rcases h with rfl | ⟨b, off, e, hlt, _⟩
  · simp at h0
  · exact ⟨b, off, e, hlt⟩
/-- Bytes that lie in a row of the call's own. -/
theorem BytesAt.of_own {w : World} {base : Nat} {A : Option Addr} {l : List Nat} {c n : Nat} (h : w.ownsRow base 5 1 (.slice A n c) n (u8s l)) (hn : n = l.length) : BytesAt w A l := by
  subst hn
  by_cases h0 : l.length = 0
  · exact .inl (List.eq_nil_of_length_eq_zero h0)
  · obtain ⟨g, cap, hv, _, hlt⟩ := h.form (by omega)
    injection hv with h1 h2 h3
    subst h1
    subst h3
    refine .inr ⟨g, 0, rfl, hlt, fun j x hx => ?_⟩
    have hj : j < l.length := (List.getElem?_eq_some_iff.1 hx).1
    rw [Nat.zero_add, h.cellAt j (by omega), u8s, List.getElem?_map, hx]
    rfl

section
variable {P : Program} (w : World)
theorem run_append_nil (base : Nat) (t ty e : TypeId) (i : TypeInfo) (size : Nat) (ht : P.underlying t = some (.slice e)) (hi : P.info? e = some i) (v : Value) (n : Nat) (xs : List Value) (hown : w.ownsRow base e size v n xs) (c : Nat) :
    (Builtin.append_ #[t, t] ty #[v, .slice none 0 c]).run P w = .ok v w := by
  rcases hown.2 with ⟨rfl, rfl⟩ | ⟨g, cap, cur, rfl, _, _, hnc, _⟩
  · simp [Builtin.append_, run_underlying ht, sizeOf, typeInfo, hi, Builtin.lenOf, Builtin.firstCells]
  · simp [Builtin.append_, run_underlying ht, sizeOf, typeInfo, hi, Builtin.lenOf, Builtin.firstCells, hnc, storeCells]
end

/-- s[:k] and s[k:]: the address. -/
def addrHigh (A : Option Addr) (c : Nat) : Option Addr := if c = 0 then A else A.map (·.add (0 * 1))
def addrLow (A : Option Addr) (k c : Nat) : Option Addr := if c = k then A else A.map (·.add (k * 1))
theorem elem_bytes : Try.prog.elem 40 = 5 := by kernel_rfl
theorem size_byte (w : World) : (sizeOf 5).run Try.prog w = .ok 1 w := by
  obtain ⟨i0, hi0, _, hz1, _⟩ := info_parts u8_info
  simp [sizeOf, typeInfo, hi0, hz1]
theorem slice_high (A : Option Addr) (n c k : Nat) (hk : k ≤ c) (w : World) : (Instr.slice 40 (.slice A n c) none (some (.int .i64 (k : Int))) none).run Try.prog w = .ok (.slice (addrHigh A c) k c) w := by
  rw [run_slice_h (P := Try.prog) (w := w) 40 A n c (by rw [elem_bytes]; exact Try.underlying40) .i64 (k : Int) (by omega) (by omega), elem_bytes, size_byte]
  simp [Result.andThen, sliced, addrHigh]
theorem slice_low (A : Option Addr) (n c k : Nat) (hk : k ≤ n) (w : World) : (Instr.slice 40 (.slice A n c) (some (.int .i64 (k : Int))) none none).run Try.prog w = .ok (.slice (addrLow A k c) (n - k) (c - k)) w := by
  rw [run_slice_l (P := Try.prog) (w := w) 40 A n c (by rw [elem_bytes]; exact Try.underlying40) .i64 (k : Int) (by omega) (by omega), elem_bytes, size_byte]
  simp [Result.andThen, sliced, addrLow]
theorem BytesAt.high {w : World} {A : Option Addr} {l : List Nat} (h : BytesAt w A l) (c k : Nat) : BytesAt w (addrHigh A c) (l.take k) := by
  unfold addrHigh
  split
  · exact h.take k
  · rcases h with rfl | ⟨b, off, rfl, hlt, hc⟩
    · exact .inl (by simp)
    · have e : Option.map (fun x : Addr => x.add (0 * 1)) (some ⟨b, off, none⟩) = some ⟨b, off, none⟩ := by simp [Addr.add]
      rw [e]
      exact BytesAt.take (.inr ⟨b, off, rfl, hlt, hc⟩) k
theorem BytesAt.low {w : World} {A : Option Addr} {l : List Nat} (h : BytesAt w A l) (c k : Nat) (hc : l.length ≤ c) : BytesAt w (addrLow A k c) (l.drop k) := by
  unfold addrLow
  split
  · exact .inl (List.drop_eq_nil_of_le (by omega))
  · rcases h with rfl | ⟨b, off, rfl, hlt, hc⟩
    · exact .inl (by simp)
    · have e : Option.map (fun x : Addr => x.add (k * 1)) (some ⟨b, off, none⟩) = some ⟨b, off + k, none⟩ := by simp [Addr.add]
      rw [e]
      exact BytesAt.drop (.inr ⟨b, off, rfl, hlt, hc⟩) k
theorem own_slice {w : World} {base : Nat} {e : TypeId} {size : Nat} {v : Value} {n : Nat} {xs : List Value} (h : w.ownsRow base e size v n xs) : ∃ A c, v = .slice A n c := by
  rcases h.2 with ⟨rfl, rfl⟩ | ⟨g, cap, cur, rfl, _⟩
  · exact ⟨none, 0, rfl⟩
  · exact ⟨_, _, rfl⟩
/-- What an append of the bytes l onto the bytes xs leaves. -/
def Appended (base : Nat) (v : Value) (n : Nat) (xs l : List Nat) (w : World) (v' : Value) (w' : World) : Prop :=
  w'.ownsRow base 5 1 v' (n + l.length) (u8s (xs ++ l)) ∧ w.grownBy w' v.ownBlock ∧ (v'.ownBlock = v.ownBlock ∨ v'.ownBlock = some w.heap.size)
theorem Appended.below {base B n : Nat} {v v' : Value} {xs l : List Nat} {W w w' : World} (h : Appended base v n xs l w v' w') (hW : Below B W w) (hB : B ≤ w.heap.size) (hv : ∀ k, v.ownBlock = some k → B ≤ k) :
    Below B W w' ∧ ∀ k, v'.ownBlock = some k → B ≤ k :=
  ⟨hW.grown h.2.1 hB hv, fun k hk => by
    rcases h.2.2 with e | e
    · exact hv k (by rw [← e]; exact hk)
    · rw [e] at hk
      injection hk with hk
      omega⟩
theorem run_append_bytes (w : World) (ty : TypeId) (base : Nat) (v : Value) (n : Nat) (xs : List Nat) (hown : w.ownsRow base 5 1 v n (u8s xs)) (A : Option Addr) (l : List Nat) (c : Nat) (hat : BytesAt w A l)
    (hlen : n + l.length ≤ 70368744177664) (hbase : base ≤ w.heap.size) : ∃ v' w', (Builtin.append_ #[40, 40] ty #[v, .slice A l.length c]).run Try.prog w = .ok v' w' ∧ Appended base v n xs l w v' w' := by
  obtain ⟨i0, hi0, hz0, hz1, hz2⟩ := info_parts u8_info
  cases A with
  | none =>
    have hl : l = [] := by
      rcases hat with h | ⟨_, _, h, _⟩
      · exact h
      · cases h
    subst hl
    exact ⟨v, w, run_append_nil w base _ ty _ i0 1 Try.underlying40 hi0 v n _ hown c, by simpa using hown, World.grownBy.refl w _, .inl rfl⟩
  | some a =>
    obtain ⟨v', w', hrun, h2, h3, _, h5⟩ := run_append_own_at (P := Try.prog) w base 40 ty 5 i0 _ 1 1 Try.underlying40 hi0 hz0 hz1 hz2 rfl (by omega) v n (u8s xs) hown a l.length c (u8s l)
      (by rw [u8s_length]; omega) hat.cells (u8s_one _) (by simp only [maxLen]; omega) (by omega) hbase
    exact ⟨v', w', hrun, by rw [u8s_append]; exact h2, h3, h5⟩
theorem wpList_append_bytes {w : World} {ops : Array Oper} {rest : List Oper} {o : Oper} {a : Act} {Q : Exit → Act → World → Prop} (hgd : o.guard = none) (s x : Operand)
    (ho : o.op = .call { callee := .builtin .append, args := #[s, x], argTypes := #[40, 40] })
    (base : Nat) (v : Value) (n : Nat) (xs : List Nat) (hs : a.eval s = v) (hown : w.ownsRow base 5 1 v n (u8s xs)) (A : Option Addr) (l : List Nat) (c : Nat) (hx : a.eval x = .slice A l.length c) (hat : BytesAt w A l)
    (hlen : n + l.length ≤ 70368744177664) (hbase : base ≤ w.heap.size) (h : ∀ v' w', Appended base v n xs l w v' w' → wpList Try.prog ops Q rest (a.put o.dst v') w') : wpList Try.prog ops Q (o :: rest) a w := by
  refine wpList_plain hgd fun K hK => ?_
  obtain ⟨v', w', hrun, hap⟩ := run_append_bytes w o.type base v n xs hown A l c hat hlen hbase
  unfold Oper.wp execOp
  simp only [ho, resolve, invoke, builtin, Sem.run_bind, Sem.run_pure, Result.andThen_ok, List.map_toArray, List.map_cons, List.map_nil, hs, hx, hrun]
  exact hK _ _ (h v' w' hap)
/-- The same for a walk that goes operation by operation. -/
theorem wp_append_bytes {w : World} {o : Oper} {a : Act} {K : Act → World → Prop} {Q : Exit → Act → World → Prop} (s x : Operand)
    (ho : o.op = .call { callee := .builtin .append, args := #[s, x], argTypes := #[40, 40] })
    (base : Nat) (v : Value) (n : Nat) (xs : List Nat) (hs : a.eval s = v) (hown : w.ownsRow base 5 1 v n (u8s xs)) (A : Option Addr) (l : List Nat) (c : Nat) (hx : a.eval x = .slice A l.length c) (hat : BytesAt w A l)
    (hlen : n + l.length ≤ 70368744177664) (hbase : base ≤ w.heap.size) (h : ∀ v' w', Appended base v n xs l w v' w' → K (a.put o.dst v') w') : o.wp Try.prog a w K Q := by
  obtain ⟨v', w', hrun, hap⟩ := run_append_bytes w o.type base v n xs hown A l c hat hlen hbase
  unfold Oper.wp execOp
  simp only [ho, resolve, invoke, builtin, Sem.run_bind, Sem.run_pure, Result.andThen_ok, List.map_toArray, List.map_cons, List.map_nil, hs, hx, hrun]
  exact h v' w' hap
/-- A slice of just these bytes, in memory that was made since w. -/
def NewBytes (l : List Nat) (w : World) (v : Value) (w' : World) : Prop :=
  ∃ g c, v = .slice (some ⟨g, 0, none⟩) l.length c ∧ (l.length ≤ c ∧ c ≤ maxLen) ∧ w.heap.size ≤ g ∧ g < w'.heap.size ∧ (∀ j x : Nat, l[j]? = some x → w'.cell? ⟨g, 0 + j, none⟩ = some (.int .u8 (x : Int))) ∧ Below w.heap.size w w'

theorem newBytes_of_own {w wr : World} {v : Value} {l : List Nat} (h : wr.ownsRow w.heap.size 5 1 v l.length (u8s l)) (h0 : 0 < l.length) (hb : Below w.heap.size w wr) : NewBytes l w v wr := by
  obtain ⟨g, cap, hv, hg, hlt⟩ := h.form h0
  have hcap : l.length ≤ cap ∧ cap ≤ maxLen := by
    rcases h.2 with ⟨h', _⟩ | ⟨g', cap', cur, h', _, _, h1, h2, _⟩
    · rw [hv] at h'; cases h'
    · rw [hv] at h'
      injection h' with _ _ h'
      subst h'
      exact ⟨h1, h2⟩
  subst hv
  refine ⟨g, cap, rfl, hcap, hg, hlt, fun j x hx => ?_, hb⟩
  have hj : j < l.length := (List.getElem?_eq_some_iff.1 hx).1
  rw [Nat.zero_add, h.cellAt j (by omega), u8s, List.getElem?_map, hx]
  rfl
theorem NewBytes.below {l : List Nat} {w w' : World} {v : Value} (h : NewBytes l w v w') : Below w.heap.size w w' := by
  obtain ⟨_, _, _, _, _, _, _, hb⟩ := h
  exact hb
theorem NewBytes.at_ {l : List Nat} {w w' : World} {v : Value} (h : NewBytes l w v w') : ∃ A c, v = .slice A l.length c ∧ BytesAt w' A l := by
  obtain ⟨g, c, hv, _, _, hlt, hc, _⟩ := h
  exact ⟨_, c, hv, .inr ⟨g, 0, rfl, hlt, hc⟩⟩

end Go.Proofs.Ytmedaimndaaiiaa

/- Texts by their bytes: any text is one; what the run answers of s[i], s[a:b], s[a:], s[:b], s + t. Condition: the places are within; no more than 2^40 bytes. -/
namespace Go.Proofs.Ytmedaimndaaiiaa
open Go.RowKit Go.Deep

theorem bstr_dsize (l : List Nat) : (bstr l).data.size = l.length := bstr_size l
theorem byte_at {l : List Nat} (hb : ∀ x ∈ l, x < 256) {k c : Nat} {t : List Nat} (h : l.drop k = c :: t) (w : World) :
    (Instr.index 9 (.string (bstr l)) (.int .i64 (k : Int))).run Try.prog w = .ok (.int .u8 (c : Int)) w := by
  have hk : k < l.length := by
    rcases Nat.lt_or_ge k l.length with h1 | h1
    · exact h1
    · rw [List.drop_eq_nil_of_le h1] at h; cases h
  have hc : l[k]? = some c := by rw [← List.head?_drop, h]; rfl
  have hc2 : l[k] = c := by rw [List.getElem?_eq_getElem hk] at hc; injection hc
  have hlt := hb l[k] (List.getElem_mem hk)
  rw [run_index_string w 9 _ .i64 _ Try.underlying9, dif_pos ⟨by omega, by rw [bstr_size]; omega⟩]
  have e : ((bstr l)[(k : Int).toNat]'(by rw [bstr_size]; omega)).toNat = c := by
    have e1 : (bstr l)[(k : Int).toNat]'(by rw [bstr_size]; omega) = (bstr l).data[k]'(by rw [bstr_dsize]; exact hk) := by
      simp only [Int.toNat_natCast]
      rfl
    rw [e1]
    have e2 : (bstr l).data.toList[k]? = some (UInt8.ofNat l[k]) := by
      rw [bstr, strOfNums_data, List.map_map, List.getElem?_map, List.getElem?_eq_getElem hk]
      simp
    have e3 : (bstr l).data[k]'(by rw [bstr_dsize]; exact hk) = UInt8.ofNat l[k] := by
      have : (bstr l).data[k]? = some (UInt8.ofNat l[k]) := by rw [← Array.getElem?_toList]; exact e2
      rw [Array.getElem?_eq_getElem (by rw [bstr_dsize]; exact hk)] at this
      injection this
    rw [e3, hc2]
    rw [hc2] at hlt
    simp
    omega
  rw [e]

theorem bstr_data (l : List Nat) : (bstr l).data.toList = l.map fun x : Nat => UInt8.ofNat x := by
  rw [bstr, strOfNums_data, List.map_map]
  rfl
theorem bstr_of_data {s : ByteArray} {l : List Nat} (h : s.data.toList = l.map fun x : Nat => UInt8.ofNat x) : s = bstr l := by
  have e : s.data = (bstr l).data := Array.toList_inj.1 (by rw [h, bstr_data])
  cases s
  have e2 : bstr l = ⟨(bstr l).data⟩ := rfl
  rw [e2]
  simp only at e
  rw [e]
theorem bstr_extract (l : List Nat) (a b : Nat) : (bstr l).extract a b = bstr ((l.take b).drop a) := by
  refine bstr_of_data ?_
  rw [ByteArray.data_extract, Array.toList_extract, bstr_data, List.extract_eq_take_drop, List.map_drop, List.map_take, List.drop_take]
theorem slice_bstr (l : List Nat) (a b : Nat) (h1 : a ≤ b) (h2 : b ≤ l.length) (w : World) :
    (Instr.slice 9 (.string (bstr l)) (some (.int .i64 (a : Int))) (some (.int .i64 (b : Int))) none).run Try.prog w = .ok (.string (bstr ((l.take b).drop a))) w := by
  rw [run_slice_string_if w 9 _ .i64 .i64 _ _ Try.underlying9, if_pos ⟨by omega, by rw [bstr_size]; omega⟩, if_pos ⟨by omega, by omega⟩, Int.toNat_natCast, Int.toNat_natCast, bstr_extract]
theorem slice_bstr_to (l : List Nat) (b : Nat) (h2 : b ≤ l.length) (w : World) :
    (Instr.slice 9 (.string (bstr l)) none (some (.int .i64 (b : Int))) none).run Try.prog w = .ok (.string (bstr (l.take b))) w := by
  rw [run_slice_string_to_if w 9 _ .i64 _ Try.underlying9, if_pos ⟨by omega, by rw [bstr_size]; omega⟩, Int.toNat_natCast, bstr_extract]
  simp
theorem slice_bstr_from (l : List Nat) (a : Nat) (h2 : a ≤ l.length) (w : World) :
    (Instr.slice 9 (.string (bstr l)) (some (.int .i64 (a : Int))) none none).run Try.prog w = .ok (.string (bstr (l.drop a))) w := by
  rw [run_slice_string_from_if w 9 _ .i64 _ Try.underlying9, if_pos ⟨by omega, by rw [bstr_size]; omega⟩, Int.toNat_natCast, bstr_extract, bstr_size, List.take_length]
theorem bstr_append (a b : List Nat) : bstr a ++ bstr b = bstr (a ++ b) := by
  refine bstr_of_data ?_
  rw [ByteArray.data_append, Array.toList_append, bstr_data, bstr_data, List.map_append]
theorem add_bstr (a b : List Nat) (ha : a.length ≤ 1099511627776) (hb : b.length ≤ 1099511627776) (w : World) : (Op.stringOp .add (bstr a) (bstr b)).run Try.prog w = .ok (.string (bstr (a ++ b))) w := by
  rw [run_string_add_sum w _ _ (by rw [bstr_size, bstr_size]; omega), bstr_append]
theorem bstr_nil : bstr [] = { data := #[] } := rfl

theorem bstr_any (s : ByteArray) : ∃ l, (∀ x ∈ l, x < 256) ∧ s = bstr l := by
  refine ⟨s.data.toList.map UInt8.toNat, ?_, ?_⟩
  · intro x hx
    obtain ⟨b, _, rfl⟩ := List.mem_map.1 hx
    exact b.toNat_lt
  · refine bstr_of_data ?_
    rw [List.map_map]
    conv => lhs; rw [← List.map_id s.data.toList]
    refine List.map_congr_left fun x _ => ?_
    simp
end Go.Proofs.Ytmedaimndaaiiaa
