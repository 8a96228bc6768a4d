/- A statement whose order Go leaves open, where now and then two operations may come up that matter to each other: the walk parts there, and goes on in both ways; what is taken ahead yields the same in every world that keeps what the relation says. No condition beyond those that each lemma states. (Merged of 10 texts.) -/
import Derived.Test.YtnadhpajelkngaaRows
import Derived.WalkKit
import Derived.ProofKit
import Derived.OpenShut
import Derived.OpenVars
import Derived.Lib.Hide
import Derived.Laws.BytesArg
import Derived.Laws.IdiomStrings
import Derived.Deep.OwnRows
import Derived.Maps.AppendAt
import Derived.Deep.AppendLies
import Derived.Deep.Matrix
import Derived.Laws.DeepStrings4
import Derived.Laws.Strings3
import Derived.Laws.Concat
import Derived.OrdersHeld
import Derived.Deep.Quiet
import Derived.BigQuiet
import Derived.Below
import Derived.Deep.MidRow
/- What every law's claim here closes with: a call that answers true, and leaves what was there as it was, meets the law's row: the answer reads as true, and each argument reads as it did. No condition. -/
namespace Go.Proofs.Ytnadhpajelkngaa
open Go.ChangeShapes Go.WideShapes Go.ChangeAt Go.RowKit

theorem law_own : ownKnob Try.prog.godebug = none := by kernel_rfl
theorem law_laid : laidOutB Try.prog = true := by kernel_rfl

section
variable {H : Type} {enc : TypeId × Value → H} {P : Program}

/-- All arguments read behind the call as they did before. -/
theorem trodAll_below (hl : laidOutB P = true) {W W' : World} (hb : Below W.heap.size W W') :
    ∀ {ts : List TypeId} {vs : List Value} {ds : List (DataW H)} {ps : List MemPlace}, (ts.all fun t => P.readableRec t && decide (t < P.types.size)) = true →
      DataW.TrodAll enc P W 0 (fun _ => true) true ts vs ds ps → (∀ x ∈ ps, x.block < W.heap.size) → DataW.TrodAll enc P W' 0 (fun b => decide (b < W.heap.size)) true ts vs ds ps := by
  intro ts
  induction ts with
  | nil =>
    intro vs ds ps _ h _
    obtain ⟨rfl, rfl, rfl⟩ := trodAll_nil h
    rfl
  | cons t ts ih =>
    intro vs ds ps ht h hlt
    obtain ⟨v, vs', d, ds', p, q, rfl, rfl, rfl, h1, h2⟩ := trodAll_cons h
    simp only [List.all_cons, Bool.and_eq_true] at ht
    exact ⟨p, q, Below.trod hl ht.1.1 (of_decide_eq_true ht.1.2) h1 hb (fun x hx => hlt x (List.mem_append_left _ hx)), ih ht.2 h2 (fun x hx => hlt x (List.mem_append_right _ hx)), rfl⟩

theorem law_post {f : Func} {s : ChangeSpec} {tb : TypeId} {W W' : World} {args : Array Value} {ds gs : List (DataW H)} {before : List MemPlace} (hl : laidOutB P = true)
    (hr : (f.params.toList.all fun t => P.readableRec t && decide (t < P.types.size)) = true) (hres : f.resultTypes = #[tb]) (htb : P.underlying tb = some .bool) (hv : varsRowed P s.vars = true)
    (hW : DataW.Whole enc P f.params.toList s.vars false W args.toList ds gs before) (hfn : s.fn H (ds ++ gs) = { results := [.lit (.bool true)], args := ds, vars := gs }) (hb : Below W.heap.size W W') :
    s.post enc P f false true false false W args (.bool true) W' := by
  have hW' := hW
  obtain ⟨p, q, hA, hV, rfl, _, _⟩ := hW
  have hlt : ∀ x ∈ p ++ q, x.block < W.heap.size := fun x hx => hW'.lt x hx
  refine ⟨ds, gs, p ++ q, [], p, q, hW', ?_, ?_, ?_, World.keptBut_mono (fun x hx => ⟨hx, ?_⟩) (hb.frame (· ∈ p ++ q)), fun h => by cases h⟩
  · rw [hfn, hres]
    exact trodAll_mk1 (shut_bool htb true)
  · rw [hfn]
    exact trodAll_below hl hb hr hA (fun x hx => hlt x (List.mem_append_left _ hx))
  · rw [hfn]
    exact Below.trodVars hl hb hv hV
  · exact Or.inr (List.mem_append.1 hx)
end
end Go.Proofs.Ytnadhpajelkngaa

/- Slices of bytes that come in or go from call to call, nil among them: what they read as, in this world and in later ones; how such an argument is opened; append of such bytes onto bytes that the call itself has made. Conditions: no more than 2^46 bytes together, where bytes are appended. -/
namespace Go.Proofs.Ytnadhpajelkngaa
open Go.ChangeShapes Go.WideShapes Go.ChangeAt Go.RowKit Go.Deep

theorem u8_info : (Try.prog.info? 5).map (fun i => (i.zero, i.size, i.bytes)) = some (some (.int .u8 0), 1, 1) := by kernel_rfl
/-- The slice value with address A reads as these bytes, and lies below the heap's end. -/
def BytesAt (w : World) (A : Option Addr) (l : List Nat) : Prop :=
  l = [] ∨ ∃ b off, A = some ⟨b, off, none⟩ ∧ b < w.heap.size ∧ ∀ j c : Nat, l[j]? = some c → w.cell? ⟨b, off + j, none⟩ = some (.int .u8 (c : Int))
theorem BytesAt.below {w w' : World} {A : Option Addr} {l : List Nat} (h : BytesAt w A l) (hb : Below w.heap.size w w') : BytesAt w' A l := by
  rcases h with h | ⟨b, off, hA, hlt, hc⟩
  · exact .inl h
  · exact .inr ⟨b, off, hA, Nat.lt_of_lt_of_le hlt hb.size, fun j c hj => (hb.cell (p := ⟨b, off + j, none⟩) hlt).trans (hc j c hj)⟩
theorem BytesAt.drew {w : World} {A : Option Addr} {l : List Nat} (h : BytesAt w A l) : BytesAt w.drew A l := h
/-- The text of these bytes. -/
def bstr (l : List Nat) : ByteArray := strOfNums (l.map fun x : Nat => (x : Int))
theorem bstr_size (l : List Nat) : (bstr l).size = l.length := by simp [bstr, strOfNums_size]
theorem bstr_inj (a b : List Nat) (ha : ∀ x ∈ a, x < 256) (hb : ∀ x ∈ b, x < 256) (h : bstr a = bstr b) : a = b := by
  have h1 := congrArg (fun s : ByteArray => s.data.toList.map UInt8.toNat) h
  have key : ∀ l : List Nat, (∀ x ∈ l, x < 256) → (bstr l).data.toList.map UInt8.toNat = l := by
    intro l hl
    rw [bstr, strOfNums_data, List.map_map, List.map_map]
    conv => rhs; rw [← List.map_id l]
    refine List.map_congr_left fun x hx => ?_
    have := hl x hx
    simp
    omega
  simp only [key a ha, key b hb] at h1
  exact h1
theorem bstr_neq {a b : ByteArray} (h : a ≠ b) : (a.toList == b.toList) = false := by
  refine beq_eq_false_iff_ne.2 fun e => h ?_
  rw [ByteArray.toList_eq, ByteArray.toList_eq] at e
  have e' := Array.toList_inj.1 e
  cases a
  cases b
  simp only at e'
  rw [e']
theorem BytesAt.conv {w : World} {A : Option Addr} {l : List Nat} (h : BytesAt w A l) (c : Nat) :
    ∀ dst, Try.prog.underlying dst = some .string → (convert 93 dst (.slice A l.length c)).run Try.prog w = .ok (.string (bstr l)) w := by
  rcases h with rfl | ⟨b, off, rfl, _, hc⟩
  · cases A with
    | none => exact run_convert_bytes_nil w 93 5 Try.underlying93 Try.underlying5 _ _
    | some a => exact fun dst hd => run_convert_bytes_back w 93 dst 5 a c [] Try.underlying93 Try.underlying5 hd (fun j hj => by simp at hj)
  · refine run_convert_bytes_arg w 93 5 Try.underlying93 Try.underlying5 b off l.length c (l.map fun x : Nat => (x : Int)) (by simp) (fun i hi => ?_)
    rw [hc i l[i] (List.getElem?_eq_getElem hi)]
    simp [List.getD, hi]

set_option maxRecDepth 100000 in
/-- An argument of type []uint8: what it reads as, with its capacity. -/
theorem open_bytes_cap {H : Type} {enc : TypeId × Value → H} {w : World} {base : Nat} {v : Value} {d : DataW H} {p : List MemPlace} (hv : Value.okWide Try.prog w .any base 93 v)
    (h : DataW.Trod enc Try.prog w 0 (fun _ => true) true 93 v d p) (hlt : ∀ x ∈ p, x.block < w.heap.size) :
    ∃ A l c, v = .slice A (List.length l) c ∧ BytesAt w A l ∧ (∀ x ∈ l, x < 256) ∧ l.length ≤ maxLen ∧ l.length ≤ c ∧ c ≤ maxLen := by
  obtain ⟨a0, len, cap, rfl⟩ := okWide_slice Try.underlying93 hv
  obtain ⟨fuel, hf⟩ := h
  rcases open_ints Try.underlying93 Try.underlying5 (by kernel_rfl) hf with ⟨hcs, hx⟩ | ⟨a, len', cap', zs, hcs, _, hl, hm, hz, hx, hcell, hwz⟩
  · simp [Value.cells] at hcs
    obtain ⟨rfl, rfl, rfl⟩ := hcs
    exact ⟨none, [], 0, rfl, .inl rfl, by simp, by simp [maxLen], by simp, by simp [maxLen]⟩
  · simp [Value.cells] at hcs
    obtain ⟨rfl, rfl, rfl⟩ := hcs
    simp only [Prod.mk.injEq] at hx
    obtain ⟨rfl, rfl⟩ := hx
    simp only [if_true] at hz
    have hw : ∀ z ∈ zs, 0 ≤ z ∧ z ≤ 255 := fun z hzz => by simpa [Lit.wf, IntKind.min, IntKind.max, IntKind.signed, IntKind.bits] using hwz z hzz
    have hlen : ((zs.take len).map Int.toNat).length = len := by simp; omega
    refine ⟨some a, (zs.take len).map Int.toNat, cap, by rw [hlen], ?_, ?_, by rw [hlen]; omega, by rw [hlen]; omega, by omega⟩
    · by_cases h0 : len = 0
      · subst h0
        exact .inl (by simp)
      · have hzp : 0 < zs.length := by omega
        obtain ⟨b, off, rfl, hc⟩ := ints_at hcell hzp
        refine .inr ⟨b, off, rfl, hlt (.cell b (off + 0)) (MemPlace.mem_row.2 ⟨0, hzp, rfl⟩), fun j c hj => ?_⟩
        rw [List.getElem?_map, Option.map_eq_some_iff] at hj
        obtain ⟨z, hz1, rfl⟩ := hj
        rw [List.getElem?_take] at hz1
        split at hz1
        · have hjl : j < zs.length := (List.getElem?_eq_some_iff.1 hz1).1
          have h0 := (hw z (List.mem_of_getElem? hz1)).1
          rw [hc j hjl, List.getD_eq_getElem?_getD, hz1, Option.getD_some, Int.toNat_of_nonneg h0]
        · cases hz1
    · intro x hx
      obtain ⟨z, hz1, rfl⟩ := List.mem_map.1 hx
      have := hw z (List.mem_of_mem_take hz1)
      omega
set_option maxRecDepth 100000 in
/-- An argument of type []uint8: what it reads as. -/
theorem open_bytes {H : Type} {enc : TypeId × Value → H} {w : World} {base : Nat} {v : Value} {d : DataW H} {p : List MemPlace} (hv : Value.okWide Try.prog w .any base 93 v)
    (h : DataW.Trod enc Try.prog w 0 (fun _ => true) true 93 v d p) (hlt : ∀ x ∈ p, x.block < w.heap.size) :
    ∃ A l c, v = .slice A (List.length l) c ∧ BytesAt w A l ∧ (∀ x ∈ l, x < 256) ∧ l.length ≤ maxLen := by
  obtain ⟨A, l, c, h1, h2, h3, h4, _⟩ := open_bytes_cap hv h hlt
  exact ⟨A, l, c, h1, h2, h3, h4⟩

def u8s (l : List Nat) : List Value := l.map fun x : Nat => .int .u8 (x : Int)
theorem u8s_one (l : List Nat) : ∀ u ∈ u8s l, u.oneCell' = true := by
  intro u hu
  obtain ⟨x, _, rfl⟩ := List.mem_map.1 hu
  rfl
theorem u8s_length (l : List Nat) : (u8s l).length = l.length := by simp [u8s]
theorem u8s_append (a b : List Nat) : u8s (a ++ b) = u8s a ++ u8s b := by simp [u8s]
theorem BytesAt.cells {w : World} {a : Addr} {l : List Nat} (h : BytesAt w (some a) l) : ∀ (j : Nat) (u : Value), (u8s l)[j]? = some u → w.cell? (a.add j) = some u := by
  intro j u hu
  rcases h with rfl | ⟨b, off, e, _, hc⟩
  · simp [u8s] at hu
  · injection e with e
    subst e
    rw [u8s, List.getElem?_map, Option.map_eq_some_iff] at hu
    obtain ⟨x, hx, rfl⟩ := hu
    rw [Go.WideShapes.add_plain]
    exact hc j x hx
theorem BytesAt.take {w : World} {A : Option Addr} {l : List Nat} (h : BytesAt w A l) (k : Nat) : BytesAt w A (l.take k) := by
  rcases h with rfl | ⟨b, off, e, hlt, hc⟩
  · exact .inl (by simp)
  · refine .inr ⟨b, off, e, hlt, fun j c hj => hc j c ?_⟩
    rw [List.getElem?_take] at hj
    split at hj
    · exact hj
    · cases hj
/-- What was there stays as it was: step by step. -/
theorem bstep {w x y : World} (h : Below w.heap.size w x) (h2 : Below x.heap.size x y) : Below w.heap.size w y := h.trans (h2.mono h.size)
theorem balloc {w x : World} (h : Below w.heap.size w x) (o : Obj) : Below w.heap.size w (x.alloc o) := h.alloc h.size o
/-- Bytes that were just laid. -/
theorem BytesAt.lit {w : World} {cs : Array Value} {t : TypeId} {fr : Nat × Nat} {l : List Nat} {g : Nat} (hc : ∀ (j x : Nat), l[j]? = some x → cs[j]? = some (Value.int .u8 (x : Int))) (hg : g = w.heap.size) : BytesAt (w.alloc (.cells cs t fr)) (some ⟨g, 0, none⟩) l := by
  subst hg
  exact .inr ⟨w.heap.size, 0, rfl, by simp, fun j x hx => by rw [Nat.zero_add, cell_of_row _ _ _ cs t fr (heap_alloc_new w _), hc j x hx]⟩
theorem BytesAt.alloc {w : World} {A : Option Addr} {l : List Nat} (h : BytesAt w A l) (o : Obj) : BytesAt (w.alloc o) A l := h.below ((Below.refl _ _).alloc (Nat.le_refl _) _)
theorem BytesAt.nil {w : World} : BytesAt w none [] := .inl rfl
theorem BytesAt.drop {w : World} {b off : Nat} {l : List Nat} (h : BytesAt w (some ⟨b, off, none⟩) l) (k : Nat) : BytesAt w (some ⟨b, off + k, none⟩) (l.drop k) := by
  rcases h with rfl | ⟨b', off', e, hlt, hc⟩
  · exact .inl (by simp)
  · injection e with e
    injection e with e1 e2 e3
    subst e1 e2
    refine .inr ⟨_, _, rfl, hlt, fun j c hj => ?_⟩
    rw [List.getElem?_drop] at hj
    rw [Nat.add_assoc]
    exact hc _ c hj
/-- The cell of one byte. -/
theorem BytesAt.cell {w : World} {b off : Nat} {l : List Nat} (h : BytesAt w (some ⟨b, off, none⟩) l) {j : Nat} (hj : j < l.length) : w.cell? ⟨b, off + j, none⟩ = some (.int .u8 ((l[j] : Nat) : Int)) := by
  rcases h with rfl | ⟨b', off', e, _, hc⟩
  · simp at hj
  · injection e with e
    injection e with e1 e2 e3
    subst e1 e2
    exact hc j _ (List.getElem?_eq_getElem hj)
theorem BytesAt.form {w : World} {A : Option Addr} {l : List Nat} (h : BytesAt w A l) (h0 : 0 < l.length) : ∃ b off, A = some ⟨b, off, none⟩ ∧ b < w.heap.size := by
  rcases h with rfl | ⟨b, off, e, hlt, _⟩
  · simp at h0
  · exact ⟨b, off, e, hlt⟩
/-- Bytes that lie in a row of the call's own. -/
theorem BytesAt.of_own {w : World} {base : Nat} {A : Option Addr} {l : List Nat} {c n : Nat} (h : w.ownsRow base 5 1 (.slice A n c) n (u8s l)) (hn : n = l.length) : BytesAt w A l := by
  subst hn
  by_cases h0 : l.length = 0
  · exact .inl (List.eq_nil_of_length_eq_zero h0)
  · obtain ⟨g, cap, hv, _, hlt⟩ := h.form (by omega)
    injection hv with h1 h2 h3
    subst h1
    subst h3
    refine .inr ⟨g, 0, rfl, hlt, fun j x hx => ?_⟩
    have hj : j < l.length := (List.getElem?_eq_some_iff.1 hx).1
    rw [Nat.zero_add, h.cellAt j (by omega), u8s, List.getElem?_map, hx]
    rfl

section
variable {P : Program} (w : World)
theorem run_append_nil (base : Nat) (t ty e : TypeId) (i : TypeInfo) (size : Nat) (ht : P.underlying t = some (.slice e)) (hi : P.info? e = some i) (v : Value) (n : Nat) (xs : List Value) (hown : w.ownsRow base e size v n xs) (c : Nat) :
    (Builtin.append_ #[t, t] ty #[v, .slice none 0 c]).run P w = .ok v w := by
  rcases hown.2 with ⟨rfl, rfl⟩ | ⟨g, cap, cur, rfl, _, _, hnc, _⟩
  · simp [Builtin.append_, run_underlying ht, sizeOf, typeInfo, hi, Builtin.lenOf, Builtin.firstCells]
  · simp [Builtin.append_, run_underlying ht, sizeOf, typeInfo, hi, Builtin.lenOf, Builtin.firstCells, hnc, storeCells]
end

/-- s[:k] and s[k:]: the address. -/
def addrHigh (A : Option Addr) (c : Nat) : Option Addr := if c = 0 then A else A.map (·.add (0 * 1))
def addrLow (A : Option Addr) (k c : Nat) : Option Addr := if c = k then A else A.map (·.add (k * 1))
theorem elem_bytes : Try.prog.elem 93 = 5 := by kernel_rfl
theorem size_byte (w : World) : (sizeOf 5).run Try.prog w = .ok 1 w := by
  obtain ⟨i0, hi0, _, hz1, _⟩ := info_parts u8_info
  simp [sizeOf, typeInfo, hi0, hz1]
theorem slice_high (A : Option Addr) (n c k : Nat) (hk : k ≤ c) (w : World) : (Instr.slice 93 (.slice A n c) none (some (.int .i64 (k : Int))) none).run Try.prog w = .ok (.slice (addrHigh A c) k c) w := by
  rw [run_slice_h (P := Try.prog) (w := w) 93 A n c (by rw [elem_bytes]; exact Try.underlying93) .i64 (k : Int) (by omega) (by omega), elem_bytes, size_byte]
  simp [Result.andThen, sliced, addrHigh]
theorem slice_low (A : Option Addr) (n c k : Nat) (hk : k ≤ n) (w : World) : (Instr.slice 93 (.slice A n c) (some (.int .i64 (k : Int))) none none).run Try.prog w = .ok (.slice (addrLow A k c) (n - k) (c - k)) w := by
  rw [run_slice_l (P := Try.prog) (w := w) 93 A n c (by rw [elem_bytes]; exact Try.underlying93) .i64 (k : Int) (by omega) (by omega), elem_bytes, size_byte]
  simp [Result.andThen, sliced, addrLow]
theorem BytesAt.high {w : World} {A : Option Addr} {l : List Nat} (h : BytesAt w A l) (c k : Nat) : BytesAt w (addrHigh A c) (l.take k) := by
  unfold addrHigh
  split
  · exact h.take k
  · rcases h with rfl | ⟨b, off, rfl, hlt, hc⟩
    · exact .inl (by simp)
    · have e : Option.map (fun x : Addr => x.add (0 * 1)) (some ⟨b, off, none⟩) = some ⟨b, off, none⟩ := by simp [Addr.add]
      rw [e]
      exact BytesAt.take (.inr ⟨b, off, rfl, hlt, hc⟩) k
theorem BytesAt.low {w : World} {A : Option Addr} {l : List Nat} (h : BytesAt w A l) (c k : Nat) (hc : l.length ≤ c) : BytesAt w (addrLow A k c) (l.drop k) := by
  unfold addrLow
  split
  · exact .inl (List.drop_eq_nil_of_le (by omega))
  · rcases h with rfl | ⟨b, off, rfl, hlt, hc⟩
    · exact .inl (by simp)
    · have e : Option.map (fun x : Addr => x.add (k * 1)) (some ⟨b, off, none⟩) = some ⟨b, off + k, none⟩ := by simp [Addr.add]
      rw [e]
      exact BytesAt.drop (.inr ⟨b, off, rfl, hlt, hc⟩) k
theorem own_slice {w : World} {base : Nat} {e : TypeId} {size : Nat} {v : Value} {n : Nat} {xs : List Value} (h : w.ownsRow base e size v n xs) : ∃ A c, v = .slice A n c := by
  rcases h.2 with ⟨rfl, rfl⟩ | ⟨g, cap, cur, rfl, _⟩
  · exact ⟨none, 0, rfl⟩
  · exact ⟨_, _, rfl⟩
/-- What an append of the bytes l onto the bytes xs leaves. -/
def Appended (base : Nat) (v : Value) (n : Nat) (xs l : List Nat) (w : World) (v' : Value) (w' : World) : Prop :=
  w'.ownsRow base 5 1 v' (n + l.length) (u8s (xs ++ l)) ∧ w.grownBy w' v.ownBlock ∧ (v'.ownBlock = v.ownBlock ∨ v'.ownBlock = some w.heap.size)
theorem Appended.below {base B n : Nat} {v v' : Value} {xs l : List Nat} {W w w' : World} (h : Appended base v n xs l w v' w') (hW : Below B W w) (hB : B ≤ w.heap.size) (hv : ∀ k, v.ownBlock = some k → B ≤ k) :
    Below B W w' ∧ ∀ k, v'.ownBlock = some k → B ≤ k :=
  ⟨hW.grown h.2.1 hB hv, fun k hk => by
    rcases h.2.2 with e | e
    · exact hv k (by rw [← e]; exact hk)
    · rw [e] at hk
      injection hk with hk
      omega⟩
theorem run_append_bytes (w : World) (ty : TypeId) (base : Nat) (v : Value) (n : Nat) (xs : List Nat) (hown : w.ownsRow base 5 1 v n (u8s xs)) (A : Option Addr) (l : List Nat) (c : Nat) (hat : BytesAt w A l)
    (hlen : n + l.length ≤ 70368744177664) (hbase : base ≤ w.heap.size) : ∃ v' w', (Builtin.append_ #[93, 93] ty #[v, .slice A l.length c]).run Try.prog w = .ok v' w' ∧ Appended base v n xs l w v' w' := by
  obtain ⟨i0, hi0, hz0, hz1, hz2⟩ := info_parts u8_info
  cases A with
  | none =>
    have hl : l = [] := by
      rcases hat with h | ⟨_, _, h, _⟩
      · exact h
      · cases h
    subst hl
    exact ⟨v, w, run_append_nil w base _ ty _ i0 1 Try.underlying93 hi0 v n _ hown c, by simpa using hown, World.grownBy.refl w _, .inl rfl⟩
  | some a =>
    obtain ⟨v', w', hrun, h2, h3, _, h5⟩ := run_append_own_at (P := Try.prog) w base 93 ty 5 i0 _ 1 1 Try.underlying93 hi0 hz0 hz1 hz2 rfl (by omega) v n (u8s xs) hown a l.length c (u8s l)
      (by rw [u8s_length]; omega) hat.cells (u8s_one _) (by simp only [maxLen]; omega) (by omega) hbase
    exact ⟨v', w', hrun, by rw [u8s_append]; exact h2, h3, h5⟩
theorem wpList_append_bytes {w : World} {ops : Array Oper} {rest : List Oper} {o : Oper} {a : Act} {Q : Exit → Act → World → Prop} (hgd : o.guard = none) (s x : Operand)
    (ho : o.op = .call { callee := .builtin .append, args := #[s, x], argTypes := #[93, 93] })
    (base : Nat) (v : Value) (n : Nat) (xs : List Nat) (hs : a.eval s = v) (hown : w.ownsRow base 5 1 v n (u8s xs)) (A : Option Addr) (l : List Nat) (c : Nat) (hx : a.eval x = .slice A l.length c) (hat : BytesAt w A l)
    (hlen : n + l.length ≤ 70368744177664) (hbase : base ≤ w.heap.size) (h : ∀ v' w', Appended base v n xs l w v' w' → wpList Try.prog ops Q rest (a.put o.dst v') w') : wpList Try.prog ops Q (o :: rest) a w := by
  refine wpList_plain hgd fun K hK => ?_
  obtain ⟨v', w', hrun, hap⟩ := run_append_bytes w o.type base v n xs hown A l c hat hlen hbase
  unfold Oper.wp execOp
  simp only [ho, resolve, invoke, builtin, Sem.run_bind, Sem.run_pure, Result.andThen_ok, List.map_toArray, List.map_cons, List.map_nil, hs, hx, hrun]
  exact hK _ _ (h v' w' hap)
/-- The same for a walk that goes operation by operation. -/
theorem wp_append_bytes {w : World} {o : Oper} {a : Act} {K : Act → World → Prop} {Q : Exit → Act → World → Prop} (s x : Operand)
    (ho : o.op = .call { callee := .builtin .append, args := #[s, x], argTypes := #[93, 93] })
    (base : Nat) (v : Value) (n : Nat) (xs : List Nat) (hs : a.eval s = v) (hown : w.ownsRow base 5 1 v n (u8s xs)) (A : Option Addr) (l : List Nat) (c : Nat) (hx : a.eval x = .slice A l.length c) (hat : BytesAt w A l)
    (hlen : n + l.length ≤ 70368744177664) (hbase : base ≤ w.heap.size) (h : ∀ v' w', Appended base v n xs l w v' w' → K (a.put o.dst v') w') : o.wp Try.prog a w K Q := by
  obtain ⟨v', w', hrun, hap⟩ := run_append_bytes w o.type base v n xs hown A l c hat hlen hbase
  unfold Oper.wp execOp
  simp only [ho, resolve, invoke, builtin, Sem.run_bind, Sem.run_pure, Result.andThen_ok, List.map_toArray, List.map_cons, List.map_nil, hs, hx, hrun]
  exact h v' w' hap
/-- A slice of just these bytes, in memory that was made since w. -/
def NewBytes (l : List Nat) (w : World) (v : Value) (w' : World) : Prop :=
  ∃ g c, v = .slice (some ⟨g, 0, none⟩) l.length c ∧ (l.length ≤ c ∧ c ≤ maxLen) ∧ w.heap.size ≤ g ∧ g < w'.heap.size ∧ (∀ j x : Nat, l[j]? = some x → w'.cell? ⟨g, 0 + j, none⟩ = some (.int .u8 (x : Int))) ∧ Below w.heap.size w w'

theorem newBytes_of_own {w wr : World} {v : Value} {l : List Nat} (h : wr.ownsRow w.heap.size 5 1 v l.length (u8s l)) (h0 : 0 < l.length) (hb : Below w.heap.size w wr) : NewBytes l w v wr := by
  obtain ⟨g, cap, hv, hg, hlt⟩ := h.form h0
  have hcap : l.length ≤ cap ∧ cap ≤ maxLen := by
    rcases h.2 with ⟨h', _⟩ | ⟨g', cap', cur, h', _, _, h1, h2, _⟩
    · rw [hv] at h'; cases h'
    · rw [hv] at h'
      injection h' with _ _ h'
      subst h'
      exact ⟨h1, h2⟩
  subst hv
  refine ⟨g, cap, rfl, hcap, hg, hlt, fun j x hx => ?_, hb⟩
  have hj : j < l.length := (List.getElem?_eq_some_iff.1 hx).1
  rw [Nat.zero_add, h.cellAt j (by omega), u8s, List.getElem?_map, hx]
  rfl
theorem NewBytes.below {l : List Nat} {w w' : World} {v : Value} (h : NewBytes l w v w') : Below w.heap.size w w' := by
  obtain ⟨_, _, _, _, _, _, _, hb⟩ := h
  exact hb
theorem NewBytes.at_ {l : List Nat} {w w' : World} {v : Value} (h : NewBytes l w v w') : ∃ A c, v = .slice A l.length c ∧ BytesAt w' A l := by
  obtain ⟨g, c, hv, _, _, hlt, hc, _⟩ := h
  exact ⟨_, c, hv, .inr ⟨g, 0, rfl, hlt, hc⟩⟩

end Go.Proofs.Ytnadhpajelkngaa

/- Masks and sums of bits, as '&' and '|' of the run make them. Conditions: as each states. -/
namespace Go.Proofs.Ytnadhpajelkngaa
open Go.RowKit Go.Deep

theorem band_low (c j : Nat) (hc : c < 256) (hj : j ≤ 8) : bits BinOp.and IntKind.u8 (c : Int) ((2 ^ j - 1 : Nat) : Int) = ((c % 2 ^ j : Nat) : Int) := by
  have h1 : (BitVec.ofInt 8 (c : Int)).toNat = c := by rw [BitVec.ofInt_natCast, BitVec.toNat_ofNat]; omega
  have hp : 2 ^ j ≤ 2 ^ 8 := Nat.pow_le_pow_right (by omega) hj
  have h2 : (BitVec.ofInt 8 ((2 ^ j - 1 : Nat) : Int)).toNat = 2 ^ j - 1 := by rw [BitVec.ofInt_natCast, BitVec.toNat_ofNat, Nat.mod_eq_of_lt (by omega)]
  show IntKind.u8.wrap ((BitVec.ofInt 8 (c : Int) &&& BitVec.ofInt 8 ((2 ^ j - 1 : Nat) : Int)).toNat : Int) = _
  rw [BitVec.toNat_and, h1, h2, Nat.and_two_pow_sub_one_eq_mod]
  have h3 : c % 2 ^ j ≤ c := Nat.mod_le _ _
  generalize c % 2 ^ j = x at h3
  unfold IntKind.wrap
  simp [IntKind.bits, IntKind.signed]
  omega
theorem bor6 (a d : Nat) (ha : a < 32768) : bits BinOp.or IntKind.i64 ((a : Int) * 64) ((d : Int) % 64) = ((a * 64 + d % 64 : Nat) : Int) := by
  have e : ((d : Int) % 64) = ((d % 64 : Nat) : Int) := by omega
  rw [e]
  have hm : d % 64 < 64 := Nat.mod_lt _ (by omega)
  generalize d % 64 = m at hm
  have h1 : (BitVec.ofInt 64 ((a : Int) * 64)).toNat = a * 64 := by
    rw [show ((a : Int) * 64) = ((a * 64 : Nat) : Int) by omega, BitVec.ofInt_natCast, BitVec.toNat_ofNat]; omega
  have h2 : (BitVec.ofInt 64 (m : Int)).toNat = m := by rw [BitVec.ofInt_natCast, BitVec.toNat_ofNat]; omega
  show IntKind.i64.wrap ((BitVec.ofInt 64 ((a : Int) * 64) ||| BitVec.ofInt 64 (m : Int)).toNat : Int) = _
  rw [BitVec.toNat_or, h1, h2, show a * 64 = a <<< 6 by rw [Nat.shiftLeft_eq], ← Nat.shiftLeft_add_eq_or_of_lt (by omega : m < 2 ^ 6), Nat.shiftLeft_eq, IntKind.wrap_i64]
  omega

theorem band64 (c j : Nat) (hc : c < 256) (hj : j ≤ 8) : bits BinOp.and IntKind.i64 (c : Int) ((2 ^ j - 1 : Nat) : Int) = ((c % 2 ^ j : Nat) : Int) := by
  have h1 : (BitVec.ofInt 64 (c : Int)).toNat = c := by rw [BitVec.ofInt_natCast, BitVec.toNat_ofNat]; omega
  have hp : 2 ^ j ≤ 2 ^ 8 := Nat.pow_le_pow_right (by omega) hj
  have h2 : (BitVec.ofInt 64 ((2 ^ j - 1 : Nat) : Int)).toNat = 2 ^ j - 1 := by rw [BitVec.ofInt_natCast, BitVec.toNat_ofNat, Nat.mod_eq_of_lt (by omega)]
  show IntKind.i64.wrap ((BitVec.ofInt 64 (c : Int) &&& BitVec.ofInt 64 ((2 ^ j - 1 : Nat) : Int)).toNat : Int) = _
  rw [BitVec.toNat_and, h1, h2, Nat.and_two_pow_sub_one_eq_mod, IntKind.wrap_i64]
  have h3 : c % 2 ^ j ≤ c := Nat.mod_le _ _
  omega
theorem band64w (c j : Nat) (hc : c < 4294967296) (hj : j ≤ 8) : bits BinOp.and IntKind.i64 (c : Int) ((2 ^ j - 1 : Nat) : Int) = ((c % 2 ^ j : Nat) : Int) := by
  have h1 : (BitVec.ofInt 64 (c : Int)).toNat = c := by rw [BitVec.ofInt_natCast, BitVec.toNat_ofNat]; omega
  have hp : 2 ^ j ≤ 2 ^ 8 := Nat.pow_le_pow_right (by omega) hj
  have h2 : (BitVec.ofInt 64 ((2 ^ j - 1 : Nat) : Int)).toNat = 2 ^ j - 1 := by rw [BitVec.ofInt_natCast, BitVec.toNat_ofNat, Nat.mod_eq_of_lt (by omega)]
  show IntKind.i64.wrap ((BitVec.ofInt 64 (c : Int) &&& BitVec.ofInt 64 ((2 ^ j - 1 : Nat) : Int)).toNat : Int) = _
  rw [BitVec.toNat_and, h1, h2, Nat.and_two_pow_sub_one_eq_mod, IntKind.wrap_i64]
  have h3 : c % 2 ^ j ≤ c := Nat.mod_le _ _
  omega
theorem bor_add (q j m : Nat) (hm : m < 2 ^ j) (hq : q * 2 ^ j ≤ 255) (hj : j ≤ 8) : bits BinOp.or IntKind.i64 ((q * 2 ^ j : Nat) : Int) (m : Int) = ((q * 2 ^ j + m : Nat) : Int) := by
  have hp : 2 ^ j ≤ 2 ^ 8 := Nat.pow_le_pow_right (by omega) hj
  have h1 : (BitVec.ofInt 64 ((q * 2 ^ j : Nat) : Int)).toNat = q * 2 ^ j := by rw [BitVec.ofInt_natCast, BitVec.toNat_ofNat]; omega
  have h2 : (BitVec.ofInt 64 (m : Int)).toNat = m := by rw [BitVec.ofInt_natCast, BitVec.toNat_ofNat]; omega
  show IntKind.i64.wrap ((BitVec.ofInt 64 ((q * 2 ^ j : Nat) : Int) ||| BitVec.ofInt 64 (m : Int)).toNat : Int) = _
  rw [BitVec.toNat_or, h1, h2, ← Nat.shiftLeft_eq, ← Nat.shiftLeft_add_eq_or_of_lt hm, Nat.shiftLeft_eq, IntKind.wrap_i64]
  omega
theorem or128 (m : Nat) (h : m < 64) : bits BinOp.or IntKind.i64 128 (m : Int) = ((128 + m : Nat) : Int) := bor_add 2 6 m h (by omega) (by omega)
theorem or192 (m : Nat) (h : m < 32) : bits BinOp.or IntKind.i64 192 (m : Int) = ((192 + m : Nat) : Int) := bor_add 6 5 m h (by omega) (by omega)
theorem or224 (m : Nat) (h : m < 16) : bits BinOp.or IntKind.i64 224 (m : Int) = ((224 + m : Nat) : Int) := bor_add 14 4 m h (by omega) (by omega)
theorem or240 (m : Nat) (h : m < 8) : bits BinOp.or IntKind.i64 240 (m : Int) = ((240 + m : Nat) : Int) := bor_add 30 3 m h (by omega) (by omega)
theorem and63 (c : Nat) (h : c < 4294967296) : bits BinOp.and IntKind.i64 (c : Int) 63 = ((c % 64 : Nat) : Int) := band64w c 6 h (by omega)
end Go.Proofs.Ytnadhpajelkngaa

/- Texts by their bytes: any text is one; what the run answers of s[i], s[a:b], s[a:], s[:b], s + t. Condition: the places are within; no more than 2^40 bytes. -/
namespace Go.Proofs.Ytnadhpajelkngaa
open Go.RowKit Go.Deep

theorem bstr_dsize (l : List Nat) : (bstr l).data.size = l.length := bstr_size l
theorem byte_at {l : List Nat} (hb : ∀ x ∈ l, x < 256) {k c : Nat} {t : List Nat} (h : l.drop k = c :: t) (w : World) :
    (Instr.index 9 (.string (bstr l)) (.int .i64 (k : Int))).run Try.prog w = .ok (.int .u8 (c : Int)) w := by
  have hk : k < l.length := by
    rcases Nat.lt_or_ge k l.length with h1 | h1
    · exact h1
    · rw [List.drop_eq_nil_of_le h1] at h; cases h
  have hc : l[k]? = some c := by rw [← List.head?_drop, h]; rfl
  have hc2 : l[k] = c := by rw [List.getElem?_eq_getElem hk] at hc; injection hc
  have hlt := hb l[k] (List.getElem_mem hk)
  rw [run_index_string w 9 _ .i64 _ Try.underlying9, dif_pos ⟨by omega, by rw [bstr_size]; omega⟩]
  have e : ((bstr l)[(k : Int).toNat]'(by rw [bstr_size]; omega)).toNat = c := by
    have e1 : (bstr l)[(k : Int).toNat]'(by rw [bstr_size]; omega) = (bstr l).data[k]'(by rw [bstr_dsize]; exact hk) := by
      simp only [Int.toNat_natCast]
      rfl
    rw [e1]
    have e2 : (bstr l).data.toList[k]? = some (UInt8.ofNat l[k]) := by
      rw [bstr, strOfNums_data, List.map_map, List.getElem?_map, List.getElem?_eq_getElem hk]
      simp
    have e3 : (bstr l).data[k]'(by rw [bstr_dsize]; exact hk) = UInt8.ofNat l[k] := by
      have : (bstr l).data[k]? = some (UInt8.ofNat l[k]) := by rw [← Array.getElem?_toList]; exact e2
      rw [Array.getElem?_eq_getElem (by rw [bstr_dsize]; exact hk)] at this
      injection this
    rw [e3, hc2]
    rw [hc2] at hlt
    simp
    omega
  rw [e]

theorem bstr_data (l : List Nat) : (bstr l).data.toList = l.map fun x : Nat => UInt8.ofNat x := by
  rw [bstr, strOfNums_data, List.map_map]
  rfl
theorem bstr_of_data {s : ByteArray} {l : List Nat} (h : s.data.toList = l.map fun x : Nat => UInt8.ofNat x) : s = bstr l := by
  have e : s.data = (bstr l).data := Array.toList_inj.1 (by rw [h, bstr_data])
  cases s
  have e2 : bstr l = ⟨(bstr l).data⟩ := rfl
  rw [e2]
  simp only at e
  rw [e]
theorem bstr_extract (l : List Nat) (a b : Nat) : (bstr l).extract a b = bstr ((l.take b).drop a) := by
  refine bstr_of_data ?_
  rw [ByteArray.data_extract, Array.toList_extract, bstr_data, List.extract_eq_take_drop, List.map_drop, List.map_take, List.drop_take]
theorem slice_bstr (l : List Nat) (a b : Nat) (h1 : a ≤ b) (h2 : b ≤ l.length) (w : World) :
    (Instr.slice 9 (.string (bstr l)) (some (.int .i64 (a : Int))) (some (.int .i64 (b : Int))) none).run Try.prog w = .ok (.string (bstr ((l.take b).drop a))) w := by
  rw [run_slice_string_if w 9 _ .i64 .i64 _ _ Try.underlying9, if_pos ⟨by omega, by rw [bstr_size]; omega⟩, if_pos ⟨by omega, by omega⟩, Int.toNat_natCast, Int.toNat_natCast, bstr_extract]
theorem slice_bstr_to (l : List Nat) (b : Nat) (h2 : b ≤ l.length) (w : World) :
    (Instr.slice 9 (.string (bstr l)) none (some (.int .i64 (b : Int))) none).run Try.prog w = .ok (.string (bstr (l.take b))) w := by
  rw [run_slice_string_to_if w 9 _ .i64 _ Try.underlying9, if_pos ⟨by omega, by rw [bstr_size]; omega⟩, Int.toNat_natCast, bstr_extract]
  simp
theorem slice_bstr_from (l : List Nat) (a : Nat) (h2 : a ≤ l.length) (w : World) :
    (Instr.slice 9 (.string (bstr l)) (some (.int .i64 (a : Int))) none none).run Try.prog w = .ok (.string (bstr (l.drop a))) w := by
  rw [run_slice_string_from_if w 9 _ .i64 _ Try.underlying9, if_pos ⟨by omega, by rw [bstr_size]; omega⟩, Int.toNat_natCast, bstr_extract, bstr_size, List.take_length]
theorem bstr_append (a b : List Nat) : bstr a ++ bstr b = bstr (a ++ b) := by
  refine bstr_of_data ?_
  rw [ByteArray.data_append, Array.toList_append, bstr_data, bstr_data, List.map_append]
theorem add_bstr (a b : List Nat) (ha : a.length ≤ 1099511627776) (hb : b.length ≤ 1099511627776) (w : World) : (Op.stringOp .add (bstr a) (bstr b)).run Try.prog w = .ok (.string (bstr (a ++ b))) w := by
  rw [run_string_add_sum w _ _ (by rw [bstr_size, bstr_size]; omega), bstr_append]
theorem bstr_nil : bstr [] = { data := #[] } := rfl

theorem bstr_any (s : ByteArray) : ∃ l, (∀ x ∈ l, x < 256) ∧ s = bstr l := by
  refine ⟨s.data.toList.map UInt8.toNat, ?_, ?_⟩
  · intro x hx
    obtain ⟨b, _, rfl⟩ := List.mem_map.1 hx
    exact b.toNat_lt
  · refine bstr_of_data ?_
    rw [List.map_map]
    conv => lhs; rw [← List.map_id s.data.toList]
    refine List.map_congr_left fun x _ => ?_
    simp
end Go.Proofs.Ytnadhpajelkngaa

/- A statement whose order Go leaves open, and that holds calls which make memory: it is enough to walk it once, in one order, if each operation taken ahead of others only reads what is there, and each call leaves what was there as it was. No condition beyond those that each lemma states. -/
namespace Go.Proofs.Ytnadhpajelkngaa
open Go.RowKit

/-- A world that has grown out of w: what was there is as it was. -/
def Ext (w : World) : Type := { x : World // Below w.heap.size w x }
instance (w : World) : Inhabited (Ext w) := ⟨⟨w, Below.refl _ _⟩⟩
theorem Ext.cell {w : World} {a : Addr} {v : Value} (h : w.cell? a = some v) (e : Ext w) : e.val.cell? a = some v :=
  (e.property.cell (World.block_lt_of_cell? w a h)).trans h

/-- The operations that yield one value and enter no function. -/
def quietKind (o : Oper) : Bool :=
  match o.op with
  | .move _ | .assign _ | .pick _ _ _ | .load _ _ | .binOp _ _ _ _ _ | .unOp _ _ _ | .convert _ _ _ | .slice _ _ _ _ _ | .fieldAddr _ _ _ | .field _ _ _ | .indexAddr _ _ _ | .index _ _ _ | .extract _ _ => true
  | .call c => match c.callee with | .builtin .len => true | .builtin .cap => true | _ => false
  | _ => false

theorem value_of_v {α : Type} {P : Program} {s : Sem α} {f : α → Value} {w w' : World} {n : Next} (h : (do pure (Next.value (f (← s))) : Sem Next).run P w = .ok n w') : ∃ u, n = .value u := by
  simp only [Sem.run_bind, Result.andThen] at h
  split at h
  · simp only [Sem.run_pure] at h
    injection h with h1 h2
    exact ⟨_, h1.symm⟩
  · cases h

theorem value_of_kind {P : Program} {ρ : Operand → Value} {o : Oper} (hk : quietKind o = true) {w w' : World} {n : Next} (h : (execOp ρ o).run P w = .ok n w') : ∃ u, n = .value u := by
  obtain ⟨dst, op, type, pos, after, guard⟩ := o
  cases op <;> simp only [quietKind] at hk <;> simp only [execOp] at h
  case move x => simp only [Sem.run_pure] at h; injection h with h1 h2; exact ⟨_, h1.symm⟩
  case assign x => simp only [Sem.run_pure] at h; injection h with h1 h2; exact ⟨_, h1.symm⟩
  case call c =>
    obtain ⟨callee, args, argTypes⟩ := c
    cases callee with
    | builtin b =>
      cases b <;> first
        | exact (Bool.false_ne_true hk).elim
        | (simp only [resolve, invoke, builtin, Sem.run_bind, Sem.run_pure, Result.andThen] at h
           split at h
           · injection h with h1 h2
             exact ⟨_, h1.symm⟩
           · cases h)
    | invoke _ _ => exact (Bool.false_ne_true hk).elim
    | value _ => exact (Bool.false_ne_true hk).elim
  all_goals first
    | exact (Bool.false_ne_true hk).elim
    | exact value_of_v (f := id) h
    | exact value_of_v (f := fun b => if b = true then _ else _) h

/-- What is asked of a schedule: an operation that is taken ahead may come up, only yields, and nobody who could come before it touches its temporaries; any other comes up alone. -/
def schedOk (md : Region.Mode) (ops : Array Oper) : List (Nat × Bool) → Array Bool → Bool
  | [], listed => (Region.ready md ops listed).isEmpty
  | (i, true) :: s, listed => (match ops[i]? with | some o => quietKind o | none => false) && (Region.ready md ops listed).contains i && Region.free md ops listed i && schedOk md ops s (listed.setIfInBounds i true)
  | (i, false) :: s, listed => (Region.ready md ops listed == [i]) && schedOk md ops s (listed.setIfInBounds i true)

/-- The walk in the schedule's order. -/
def wpM (P : Program) (ops : Array Oper) (Q : Exit → Act → World → Prop) : List (Nat × Bool) → Act → World → Prop
  | [], a, w => Q .normal a w
  | (i, true) :: s, a, w => ∃ o, ops[i]? = some o ∧ if Region.wanted o (yielded ops a.tmps) = true then o.quiet P a (fun x => ∃ e : Ext w, x = e.val) (fun a' => wpM P ops Q s a' w) else wpM P ops Q s (a.put o.dst undef) w
  | (i, false) :: s, a, w => ∃ o, ops[i]? = some o ∧ if Region.wanted o (yielded ops a.tmps) = true then o.wp P a w (fun a' w' => Below w.heap.size w w' ∧ wpM P ops Q s a' w') Q else wpM P ops Q s (a.put o.dst undef) w

section
variable {P : Program} {ops : Array Oper} {Q : Exit → Act → World → Prop} {md : Region.Mode}

theorem wpAnyH_mono {S S' : World → Prop} (hS : ∀ w, S w → S' w) : ∀ (fuel : Nat) (listed : Array Bool) (a : Act) (w : World), wpAnyH P md ops Q S fuel listed a w → wpAnyH P md ops Q S' fuel listed a w
  | 0, _, _, _, h => h
  | fuel + 1, _, _, _, h => ⟨h.1, fun i hi => wpOp_mono (fun a' w' h' => ⟨hS _ h'.1, wpAnyH_mono hS fuel _ a' w' h'.2⟩) (h.2 i hi)⟩

theorem wpM_sound (hs : Region.noSelect ops = true) (hQ : ∀ c a d v w, Q (.panic c) (Act.put a d v) w → Q (.panic c) a w) :
    ∀ (s : List (Nat × Bool)) (listed : Array Bool) (a : Act) (w : World), schedOk md ops s listed = true → wpM P ops Q s a w → wpAnyH P md ops Q (fun x => Below w.heap.size w x) s.length listed a w := by
  intro s
  induction s with
  | nil =>
    intro listed a w hB h
    exact ⟨by simpa [schedOk] using hB, h⟩
  | cons x s ih =>
    intro listed a w hB h
    obtain ⟨i, b⟩ := x
    cases b with
    | true =>
      obtain ⟨o, ho, h⟩ := h
      simp only [schedOk, ho, Bool.and_eq_true] at hB
      obtain ⟨⟨⟨hk, hr⟩, hf⟩, hB'⟩ := hB
      split at h
      · rename_i hw
        obtain ⟨v, hv, hn⟩ := h
        refine wpAnyH_take ho hs hf hr (fun c a w h => hQ c a _ _ w h) (.inl ⟨hw, fun x hx => ?_⟩) (Below.refl _ _) (ih _ _ _ hB' hn)
        have hq := hv x ⟨⟨x, hx⟩, rfl⟩
        unfold Oper.quietAt at hq
        generalize hr : (execOp a.eval o).run P x = r at hq
        cases r with
        | halt y w' => simp only [Oper.quietUpon] at hq
        | ok n w' =>
          obtain ⟨u, rfl⟩ := value_of_kind hk hr
          simp only [Oper.quietUpon] at hq
          obtain ⟨rfl, rfl⟩ := hq
          rfl
      · rename_i hw
        exact wpAnyH_take ho hs hf hr (fun c a w h => hQ c a _ _ w h) (.inr ⟨by simpa using hw, rfl⟩) (Below.refl _ _) (ih _ _ _ hB' h)
    | false =>
      obtain ⟨o, ho, h⟩ := h
      simp only [schedOk, Bool.and_eq_true, beq_iff_eq] at hB
      refine wpAnyH_all hB.1 (by simp) (fun j hj => ?_)
      obtain rfl : j = i := by simpa using hj
      unfold wpOp
      simp only [ho]
      split at h
      · rename_i hw
        rw [if_pos hw]
        refine .inl (Oper.wp_mono (fun a' w' h' => ⟨h'.1, ?_⟩) h)
        refine wpAnyH_mono (fun x hx => h'.1.trans (hx.mono h'.1.size)) _ _ _ _ (ih _ _ _ hB.2 h'.2)
      · rename_i hw
        rw [if_neg hw]
        exact ⟨Below.refl _ _, ih _ _ _ hB.2 h⟩

/-- THE BEGINNING: the schedule is asked once, by the kernel; the walk begins in the world behind the draw. -/
theorem wp_region_mono {id : Nat} {a : Act} {w : World} (s : List (Nat × Bool)) (hm : P.follows .mixedOrders = true) (hs : (Region.noSelect ops && (s.length == ops.size) && schedOk .any ops s (Array.replicate ops.size false)) = true)
    (hQ : ∀ c a d v w, Q (.panic c) (Act.put a d v) w → Q (.panic c) a w) (h : wpM P ops Q s a w.drew) : (Code.region id ops true).wp P Q a w := by
  simp only [Bool.and_eq_true, beq_iff_eq] at hs
  refine wp_region_held (S := fun x => Below w.drew.heap.size w.drew x) hm ?_
  have := wpM_sound (md := .any) hs.1.1 hQ s _ a w.drew hs.2 h
  rw [hs.1.2] at this
  exact this

/-! ### The same over the operations themselves, written out -/
/-- The walk in the schedule's order, the operations written out. -/
def wpL (P : Program) (ops : Array Oper) (Q : Exit → Act → World → Prop) : List (Oper × Bool) → Act → World → Prop
  | [], a, w => Q .normal a w
  | (o, true) :: s, a, w => if Region.wanted o (yielded ops a.tmps) = true then o.quiet P a (fun x => ∃ e : Ext w, x = e.val) (fun a' => wpL P ops Q s a' w) else wpL P ops Q s (a.put o.dst undef) w
  | (o, false) :: s, a, w => if Region.wanted o (yielded ops a.tmps) = true then o.wp P a w (fun a' w' => Below w.heap.size w w' ∧ wpL P ops Q s a' w') Q else wpL P ops Q s (a.put o.dst undef) w
def picked (ops : List Oper) (s : List (Nat × Bool)) : List (Oper × Bool) := s.map fun x => ((ops[x.1]?).getD default, x.2)
theorem wpM_of_wpL {ops : List Oper} : ∀ (s : List (Nat × Bool)) (a : Act) (w : World), (∀ x ∈ s, x.1 < ops.length) → wpL P ops.toArray Q (picked ops s) a w → wpM P ops.toArray Q s a w
  | [], _, _, _, h => h
  | (i, true) :: s, a, w, hl, h => by
    have hi : i < ops.length := hl (i, true) (List.mem_cons_self ..)
    refine ⟨ops[i], by simp [hi], ?_⟩
    have e : (ops[i]?).getD default = ops[i] := by simp [hi]
    simp only [picked, List.map_cons, wpL, e] at h
    split at h
    · rename_i hw
      rw [if_pos hw]
      exact Oper.quiet_mono (fun a' h' => wpM_of_wpL s a' w (fun x hx => hl x (List.mem_cons_of_mem _ hx)) h') h
    · rename_i hw
      rw [if_neg hw]
      exact wpM_of_wpL s _ w (fun x hx => hl x (List.mem_cons_of_mem _ hx)) h
  | (i, false) :: s, a, w, hl, h => by
    have hi : i < ops.length := hl (i, false) (List.mem_cons_self ..)
    refine ⟨ops[i], by simp [hi], ?_⟩
    have e : (ops[i]?).getD default = ops[i] := by simp [hi]
    simp only [picked, List.map_cons, wpL, e] at h
    split at h
    · rename_i hw
      rw [if_pos hw]
      exact Oper.wp_mono (fun a' w' h' => ⟨h'.1, wpM_of_wpL s a' w' (fun x hx => hl x (List.mem_cons_of_mem _ hx)) h'.2⟩) h
    · rename_i hw
      rw [if_neg hw]
      exact wpM_of_wpL s _ w (fun x hx => hl x (List.mem_cons_of_mem _ hx)) h

/-- THE BEGINNING, for a region that is written out. -/
theorem wp_region_lit {id : Nat} {ops : List Oper} {a : Act} {w : World} (s : List (Nat × Bool)) (hm : P.follows .mixedOrders = true)
    (hs : (Region.noSelect ops.toArray && (s.length == ops.toArray.size) && schedOk .any ops.toArray s (Array.replicate ops.toArray.size false) && s.all fun x => decide (x.1 < ops.length)) = true)
    (hQ : ∀ c a d v w, Q (.panic c) (Act.put a d v) w → Q (.panic c) a w) (h : wpL P ops.toArray Q (picked ops s) a w.drew) : (Code.region id ops.toArray true).wp P Q a w := by
  rw [Bool.and_eq_true] at hs
  exact wp_region_mono s hm hs.1 hQ (wpM_of_wpL s a w.drew (fun x hx => of_decide_eq_true (List.all_eq_true.1 hs.2 x hx)) h)

theorem wpL_nil {a : Act} {w : World} (h : Q .normal a w) : wpL P ops Q [] a w := h
theorem wpL_skip {b : Bool} {s : List (Oper × Bool)} {o : Oper} {a : Act} {w : World} (hw : Region.wanted o (yielded ops a.tmps) = false) (h : wpL P ops Q s (a.put o.dst undef) w) : wpL P ops Q ((o, b) :: s) a w := by
  cases b <;> (simp only [wpL]; rw [if_neg (by rw [hw]; exact Bool.false_ne_true)]; exact h)
theorem wpL_quiet {s : List (Oper × Bool)} {o : Oper} {a : Act} {w : World} (hw : Region.wanted o (yielded ops a.tmps) = true)
    (h : ∀ K : Act → Prop, (∀ a', wpL P ops Q s a' w → K a') → o.quiet P a (fun x => ∃ e : Ext w, x = e.val) K) : wpL P ops Q ((o, true) :: s) a w := by
  simp only [wpL]; rw [if_pos hw]; exact h _ fun _ h => h
theorem wpL_call {s : List (Oper × Bool)} {o : Oper} {a : Act} {w : World} (hw : Region.wanted o (yielded ops a.tmps) = true)
    (h : ∀ K : Act → World → Prop, (∀ a' w', Below w.heap.size w w' → wpL P ops Q s a' w' → K a' w') → o.wp P a w K Q) : wpL P ops Q ((o, false) :: s) a w := by
  simp only [wpL]; rw [if_pos hw]; exact h _ fun _ _ h1 h2 => ⟨h1, h2⟩
end
attribute [irreducible] wpL
end Go.Proofs.Ytnadhpajelkngaa

/- A statement whose order Go leaves open, where now and then two operations that make memory may come up: the walk parts there, and goes on in both ways; everything else is walked once, as in Mono. No condition beyond those that each lemma states. -/
namespace Go.Proofs.Ytnadhpajelkngaa
open Go.RowKit

/-- The base below which all stays as it was: a fixed one, or all that is there. -/
def baseOf : Option Nat → World → Nat
  | none, w => w.heap.size
  | some b, _ => b
theorem baseOf_mono {β : Option Nat} {w x : World} (h : w.heap.size ≤ x.heap.size) : baseOf β w ≤ baseOf β x := by
  cases β with
  | none => exact h
  | some b => exact Nat.le_refl _
/-- A world that has grown out of w: what was there below the base is as it was. -/
def ExtB (β : Option Nat) (w : World) : Type := { x : World // Below (baseOf β w) w x }
instance (β : Option Nat) (w : World) : Inhabited (ExtB β w) := ⟨⟨w, Below.refl _ _⟩⟩
theorem base_trans {β : Option Nat} {w x y : World} (h : Below (baseOf β w) w x) (h2 : Below (baseOf β x) x y) : Below (baseOf β w) w y := h.trans (h2.mono (baseOf_mono h.size))

theorem balloc' {B : Nat} {x : World} (h : B ≤ x.heap.size) (o : Obj) : Below B x (x.alloc o) := (Below.refl _ _).alloc h o

/-- A schedule that parts in two. -/
inductive Sched (α : Type) where
  | done : Sched α
  | quiet : α → Sched α → Sched α
  | one : α → Sched α → Sched α
  | two : α → Sched α → α → Sched α → Sched α
namespace Sched
def depth {α : Type} : Sched α → Nat
  | done => 0
  | quiet _ s => s.depth + 1
  | one _ s => s.depth + 1
  | two _ s _ _ => s.depth + 1
/-- What is asked of a schedule (see Mono). -/
def ok (md : Region.Mode) (ops : Array Oper) : Sched Nat → Array Bool → Bool
  | done, listed => (Region.ready md ops listed).isEmpty
  | quiet i s, listed => (match ops[i]? with | some o => quietKind o | none => false) && (Region.ready md ops listed).contains i && Region.free md ops listed i && ok md ops s (listed.setIfInBounds i true)
  | one i s, listed => (Region.ready md ops listed == [i]) && ok md ops s (listed.setIfInBounds i true)
  | two i s j t, listed => (Region.ready md ops listed == [i, j]) && (s.depth == t.depth) && ok md ops s (listed.setIfInBounds i true) && ok md ops t (listed.setIfInBounds j true)
def under (n : Nat) : Sched Nat → Bool
  | done => true
  | quiet i s => decide (i < n) && under n s
  | one i s => decide (i < n) && under n s
  | two i s j t => decide (i < n) && under n s && (decide (j < n) && under n t)
def picked (ops : List Oper) : Sched Nat → Sched Oper
  | done => done
  | quiet i s => quiet ((ops[i]?).getD default) (picked ops s)
  | one i s => one ((ops[i]?).getD default) (picked ops s)
  | two i s j t => two ((ops[i]?).getD default) (picked ops s) ((ops[j]?).getD default) (picked ops t)
/-- The walk in the schedule's order. -/
def walk (P : Program) (β : Option Nat) (ops : Array Oper) (Q : Exit → Act → World → Prop) : Sched Oper → Act → World → Prop
  | done, a, w => Q .normal a w
  | quiet o s, a, w => if Region.wanted o (yielded ops a.tmps) = true then o.quiet P a (fun x => ∃ e : ExtB β w, x = e.val) (fun a' => walk P β ops Q s a' w) else walk P β ops Q s (a.put o.dst undef) w
  | one o s, a, w => if Region.wanted o (yielded ops a.tmps) = true then o.wp P a w (fun a' w' => Below (baseOf β w) w w' ∧ walk P β ops Q s a' w') Q else walk P β ops Q s (a.put o.dst undef) w
  | two o s o' s', a, w => (if Region.wanted o (yielded ops a.tmps) = true then o.wp P a w (fun a' w' => Below (baseOf β w) w w' ∧ walk P β ops Q s a' w') Q else walk P β ops Q s (a.put o.dst undef) w) ∧
      (if Region.wanted o' (yielded ops a.tmps) = true then o'.wp P a w (fun a' w' => Below (baseOf β w) w w' ∧ walk P β ops Q s' a' w') Q else walk P β ops Q s' (a.put o'.dst undef) w)

section
variable {P : Program} {β : Option Nat} {ops : Array Oper} {Q : Exit → Act → World → Prop} {md : Region.Mode}

theorem step_sound {ops : List Oper} {i fuel : Nat} {s : Sched Nat} {listed : Array Bool} {a : Act} {w : World} (hi : i < ops.length)
    (ih : ∀ (a : Act) (w : World), walk P β ops.toArray Q (picked ops s) a w → wpAnyH P md ops.toArray Q (fun x => Below (baseOf β w) w x) fuel (listed.setIfInBounds i true) a w)
    (h : if Region.wanted ((ops[i]?).getD default) (yielded ops.toArray a.tmps) = true then ((ops[i]?).getD default).wp P a w (fun a' w' => Below (baseOf β w) w w' ∧ walk P β ops.toArray Q (picked ops s) a' w') Q
      else walk P β ops.toArray Q (picked ops s) (a.put ((ops[i]?).getD default).dst undef) w) :
    wpOp P ops.toArray Q i (fun a' w' => Below (baseOf β w) w w' ∧ wpAnyH P md ops.toArray Q (fun x => Below (baseOf β w) w x) fuel (listed.setIfInBounds i true) a' w') a w := by
  have e : (ops[i]?).getD default = ops[i] := by simp [hi]
  have ho : ops.toArray[i]? = some ops[i] := by simp [hi]
  rw [e] at h
  unfold wpOp
  simp only [ho]
  split at h
  · rename_i hw
    rw [if_pos hw]
    refine .inl (Oper.wp_mono (fun a' w' h' => ⟨h'.1, ?_⟩) h)
    exact wpAnyH_mono (fun x hx => base_trans h'.1 hx) _ _ _ _ (ih _ _ h'.2)
  · rename_i hw
    rw [if_neg hw]
    exact ⟨Below.refl _ _, ih _ _ h⟩

theorem walk_sound {ops : List Oper} (hs : Region.noSelect ops.toArray = true) (hQ : ∀ c a d v w, Q (.panic c) (Act.put a d v) w → Q (.panic c) a w) :
    ∀ (s : Sched Nat) (listed : Array Bool) (a : Act) (w : World), ok md ops.toArray s listed = true → under ops.length s = true → walk P β ops.toArray Q (picked ops s) a w → wpAnyH P md ops.toArray Q (fun x => Below (baseOf β w) w x) s.depth listed a w := by
  intro s
  induction s with
  | done =>
    intro listed a w hB _ h
    exact ⟨by simpa [ok] using hB, h⟩
  | quiet i s ih =>
    intro listed a w hB hu h
    simp only [under, Bool.and_eq_true, decide_eq_true_eq] at hu
    have e : (ops[i]?).getD default = ops[i] := by simp [hu.1]
    have ho : ops.toArray[i]? = some ops[i] := by simp [hu.1]
    simp only [ok, ho, Bool.and_eq_true] at hB
    obtain ⟨⟨⟨hk, hr⟩, hf⟩, hB'⟩ := hB
    simp only [picked, walk, e] at h
    split at h
    · rename_i hw
      obtain ⟨v, hv, hn⟩ := h
      refine wpAnyH_take ho hs hf hr (fun c a w h => hQ c a _ _ w h) (.inl ⟨hw, fun x hx => ?_⟩) (Below.refl _ _) (ih _ _ _ hB' hu.2 hn)
      have hq := hv x ⟨⟨x, hx⟩, rfl⟩
      unfold Oper.quietAt at hq
      generalize hr : (execOp a.eval ops[i]).run P x = r at hq
      cases r with
      | halt y w' => simp only [Oper.quietUpon] at hq
      | ok n w' =>
        obtain ⟨u, rfl⟩ := value_of_kind hk hr
        simp only [Oper.quietUpon] at hq
        obtain ⟨rfl, rfl⟩ := hq
        rfl
    · rename_i hw
      exact wpAnyH_take ho hs hf hr (fun c a w h => hQ c a _ _ w h) (.inr ⟨by simpa using hw, rfl⟩) (Below.refl _ _) (ih _ _ _ hB' hu.2 h)
  | one i s ih =>
    intro listed a w hB hu h
    simp only [under, Bool.and_eq_true, decide_eq_true_eq] at hu
    simp only [ok, Bool.and_eq_true, beq_iff_eq] at hB
    simp only [picked, walk] at h
    refine wpAnyH_all hB.1 (by simp) (fun j hj => ?_)
    obtain rfl : j = i := by simpa using hj
    exact step_sound hu.1 (fun a w h => ih _ _ _ hB.2 hu.2 h) h
  | two i s j t ihs iht =>
    intro listed a w hB hu h
    simp only [under, Bool.and_eq_true, decide_eq_true_eq] at hu
    simp only [ok, Bool.and_eq_true, beq_iff_eq] at hB
    simp only [picked, walk] at h
    refine wpAnyH_all hB.1.1.1 (by simp) (fun k hk => ?_)
    rcases List.mem_cons.1 hk with rfl | hk
    · exact step_sound hu.1.1 (fun a w h => ihs _ _ _ hB.1.2 hu.1.2 h) h.1
    · obtain rfl : k = j := by simpa using hk
      refine step_sound hu.2.1 (fun a w h => ?_) h.2
      rw [hB.1.1.2]
      exact iht _ _ _ hB.2 hu.2.2 h

/-- THE BEGINNING, for a region that is written out. -/
theorem wp_region_tree (β : Option Nat) {id : Nat} {ops : List Oper} {a : Act} {w : World} (s : Sched Nat) (hm : P.follows .mixedOrders = true)
    (hs : (Region.noSelect ops.toArray && (s.depth == ops.toArray.size) && ok .any ops.toArray s (Array.replicate ops.toArray.size false) && under ops.length s) = true)
    (hQ : ∀ c a d v w, Q (.panic c) (Act.put a d v) w → Q (.panic c) a w) (h : walk P β ops.toArray Q (picked ops s) a w.drew) : (Code.region id ops.toArray true).wp P Q a w := by
  simp only [Bool.and_eq_true, beq_iff_eq] at hs
  refine wp_region_held (S := fun x => Below (baseOf β w.drew) w.drew x) hm ?_
  have := walk_sound (md := .any) hs.1.1.1 hQ s _ a w.drew hs.1.2 hs.2 h
  rw [hs.1.1.2] at this
  exact this

theorem walk_done {a : Act} {w : World} (h : Q .normal a w) : walk P β ops Q .done a w := h
theorem walk_skip_quiet {s : Sched Oper} {o : Oper} {a : Act} {w : World} (hw : Region.wanted o (yielded ops a.tmps) = false) (h : walk P β ops Q s (a.put o.dst undef) w) : walk P β ops Q (.quiet o s) a w := by
  simp only [walk]; rw [if_neg (by rw [hw]; exact Bool.false_ne_true)]; exact h
theorem walk_skip_one {s : Sched Oper} {o : Oper} {a : Act} {w : World} (hw : Region.wanted o (yielded ops a.tmps) = false) (h : walk P β ops Q s (a.put o.dst undef) w) : walk P β ops Q (.one o s) a w := by
  simp only [walk]; rw [if_neg (by rw [hw]; exact Bool.false_ne_true)]; exact h
theorem walk_quiet {s : Sched Oper} {o : Oper} {a : Act} {w : World} (hw : Region.wanted o (yielded ops a.tmps) = true)
    (h : ∀ K : Act → Prop, (∀ a', walk P β ops Q s a' w → K a') → o.quiet P a (fun x => ∃ e : ExtB β w, x = e.val) K) : walk P β ops Q (.quiet o s) a w := by
  simp only [walk]; rw [if_pos hw]; exact h _ fun _ h => h
theorem walk_one {s : Sched Oper} {o : Oper} {a : Act} {w : World} (hw : Region.wanted o (yielded ops a.tmps) = true)
    (h : ∀ K : Act → World → Prop, (∀ a' w', Below (baseOf β w) w w' → walk P β ops Q s a' w' → K a' w') → o.wp P a w K Q) : walk P β ops Q (.one o s) a w := by
  simp only [walk]; rw [if_pos hw]; exact h _ fun _ _ h1 h2 => ⟨h1, h2⟩
theorem walk_two {s t : Sched Oper} {o o' : Oper} {a : Act} {w : World} (h1 : walk P β ops Q (.one o s) a w) (h2 : walk P β ops Q (.one o' t) a w) : walk P β ops Q (.two o s o' t) a w := by
  simp only [walk] at h1 h2 ⊢; exact ⟨h1, h2⟩
end
attribute [irreducible] walk
end Sched
end Go.Proofs.Ytnadhpajelkngaa

/- A statement whose order Go leaves open, walked once, in one order: each operation taken ahead of others yields the same in every world that keeps what the relation says, and each of the others, which come up alone, keeps it. No condition beyond those that each lemma states. -/
namespace Go.Proofs.Ytnadhpajelkngaa
open Go.RowKit

/-- What later worlds keep of earlier ones. -/
structure Keep where
  r : World → World → Prop
  refl : ∀ w, r w w
  trans : ∀ {a b c}, r a b → r b c → r a c
/-- These blocks stay as they are, and nothing is lost. -/
def keepBlocks (l : List Nat) : Keep where
  r w x := w.heap.size ≤ x.heap.size ∧ ∀ k ∈ l, x.heap[k]? = w.heap[k]?
  refl _ := ⟨Nat.le_refl _, fun _ _ => rfl⟩
  trans h1 h2 := ⟨Nat.le_trans h1.1 h2.1, fun k hk => (h2.2 k hk).trans (h1.2 k hk)⟩
def ExtK (R : Keep) (w : World) : Type := { x : World // R.r w x }
instance (R : Keep) (w : World) : Inhabited (ExtK R w) := ⟨⟨w, R.refl _⟩⟩
theorem cell_of_block {w x : World} {b : Nat} (h : x.heap[b]? = w.heap[b]?) (i : Nat) : x.cell? ⟨b, i, none⟩ = w.cell? ⟨b, i, none⟩ := by simp [World.cell?, h]
theorem frozen_of_block {w x : World} {b : Nat} (h : x.heap[b]? = w.heap[b]?) (i : Nat) : x.frozen? ⟨b, i, none⟩ = w.frozen? ⟨b, i, none⟩ := by simp [World.frozen?, h]

theorem keep_one {g : Nat} {w x : World} (h : w.heap.size ≤ x.heap.size) (hg : x.heap[g]? = w.heap[g]?) : (keepBlocks [g]).r w x :=
  ⟨h, fun k hk => by rw [List.mem_singleton.1 hk]; exact hg⟩
theorem keep_two {g s : Nat} {w x : World} (h : w.heap.size ≤ x.heap.size) (hg : x.heap[g]? = w.heap[g]?) (hs : x.heap[s]? = w.heap[s]?) : (keepBlocks [g, s]).r w x :=
  ⟨h, fun k hk => by
    rcases List.mem_cons.1 hk with e | e
    · rw [e]; exact hg
    · rw [List.mem_singleton.1 e]; exact hs⟩
theorem value_of_nilCheck {P : Program} {C : World → Prop} {ρ : Operand → Value} {o : Oper} {x : Operand} (ho : o.op = .nilCheck x) {w : World} {v : Value} (h : Oper.quietUpon P C w v ((execOp ρ o).run P w)) : (execOp ρ o).run P w = .ok (.value v) w := by
  obtain ⟨dst, op, type, pos, after, guard⟩ := o
  simp only at ho
  subst ho
  simp only [execOp] at h ⊢
  generalize ρ x = y at h ⊢
  split at h
  · simp [runtimePanic, Oper.quietUpon] at h
  · simp [runtimePanic, Oper.quietUpon] at h
  · simp [runtimePanic, Oper.quietUpon] at h
  · revert h
    split
    · intro h; simp [runtimePanic, Oper.quietUpon] at h
    · rename_i t u _
      have e : Sem.run P program w = .ok P w := rfl
      simp only [Sem.run_bind, e, Result.andThen_ok]
      generalize Sem.run P (nilAhead (P.types.size + Made.depth) t u _) w = r
      intro h
      cases r with
      | halt e w' => simp only [Result.andThen, Oper.quietUpon] at h
      | ok b w' =>
        simp only [Result.andThen_ok] at h ⊢
        split at h
        · simp [unsupported, Oper.quietUpon] at h
        · rename_i hb
          rw [if_neg hb]
          simp only [Sem.run_pure, Oper.quietUpon] at h ⊢
          rw [h.1, h.2]
    · intro h
      simp only [Sem.run_pure, Oper.quietUpon] at h ⊢
      rw [h.2]
  · simp only [Sem.run_pure, Oper.quietUpon] at h ⊢
    rw [h.2]

/-- The operations that yield one value and enter no function, a nil check among them. -/
def quietKindN (o : Oper) : Bool :=
  match o.op with
  | .nilCheck _ => true
  | _ => quietKind o
theorem yields_of_quiet {P : Program} {C : World → Prop} {o : Oper} {a : Act} (hk : quietKindN o = true) {w : World} {v : Value} (h : o.quietAt P a C w v) : (execOp a.eval o).run P w = .ok (.value v) w := by
  unfold Oper.quietAt at h
  by_cases hn : ∃ x, o.op = .nilCheck x
  · obtain ⟨x, hx⟩ := hn
    exact value_of_nilCheck hx h
  · have hk' : quietKind o = true := by
      unfold quietKindN at hk
      split at hk
      · rename_i x hx
        exact (hn ⟨_, hx⟩).elim
      · exact hk
    generalize hr : (execOp a.eval o).run P w = r at h ⊢
    cases r with
    | halt y w' => simp only [Oper.quietUpon] at h
    | ok n w' =>
      obtain ⟨u, rfl⟩ := value_of_kind hk' hr
      simp only [Oper.quietUpon] at h
      rw [h.1, h.2]
/-- What is asked of a schedule (see Mono). -/
def schedOkN (md : Region.Mode) (ops : Array Oper) : List (Nat × Bool) → Array Bool → Bool
  | [], listed => (Region.ready md ops listed).isEmpty
  | (i, true) :: s, listed => (match ops[i]? with | some o => quietKindN o | none => false) && (Region.ready md ops listed).contains i && Region.free md ops listed i && schedOkN md ops s (listed.setIfInBounds i true)
  | (i, false) :: s, listed => (Region.ready md ops listed == [i]) && schedOkN md ops s (listed.setIfInBounds i true)

/-- The walk in the schedule's order. -/
def wpK (P : Program) (R : Keep) (ops : Array Oper) (Q : Exit → Act → World → Prop) : List (Nat × Bool) → Act → World → Prop
  | [], a, w => Q .normal a w
  | (i, true) :: s, a, w => ∃ o, ops[i]? = some o ∧ if Region.wanted o (yielded ops a.tmps) = true then o.quiet P a (fun x => ∃ e : ExtK R w, x = e.val) (fun a' => wpK P R ops Q s a' w) else wpK P R ops Q s (a.put o.dst undef) w
  | (i, false) :: s, a, w => ∃ o, ops[i]? = some o ∧ if Region.wanted o (yielded ops a.tmps) = true then o.wp P a w (fun a' w' => R.r w w' ∧ wpK P R ops Q s a' w') Q else wpK P R ops Q s (a.put o.dst undef) w

section
variable {P : Program} {R : Keep} {ops : Array Oper} {Q : Exit → Act → World → Prop} {md : Region.Mode}

theorem wpK_sound (hs : Region.noSelect ops = true) (hQ : ∀ c a d v w, Q (.panic c) (Act.put a d v) w → Q (.panic c) a w) :
    ∀ (s : List (Nat × Bool)) (listed : Array Bool) (a : Act) (w : World), schedOkN md ops s listed = true → wpK P R ops Q s a w → wpAnyH P md ops Q (fun x => R.r w x) s.length listed a w := by
  intro s
  induction s with
  | nil =>
    intro listed a w hB h
    exact ⟨by simpa [schedOkN] using hB, h⟩
  | cons x s ih =>
    intro listed a w hB h
    obtain ⟨i, b⟩ := x
    cases b with
    | true =>
      obtain ⟨o, ho, h⟩ := h
      simp only [schedOkN, ho, Bool.and_eq_true] at hB
      obtain ⟨⟨⟨hk, hr⟩, hf⟩, hB'⟩ := hB
      split at h
      · rename_i hw
        obtain ⟨v, hv, hn⟩ := h
        refine wpAnyH_take ho hs hf hr (fun c a w h => hQ c a _ _ w h) (.inl ⟨hw, fun x hx => ?_⟩) (R.refl _) (ih _ _ _ hB' hn)
        exact yields_of_quiet hk (hv x ⟨⟨x, hx⟩, rfl⟩)
      · rename_i hw
        exact wpAnyH_take ho hs hf hr (fun c a w h => hQ c a _ _ w h) (.inr ⟨by simpa using hw, rfl⟩) (R.refl _) (ih _ _ _ hB' h)
    | false =>
      obtain ⟨o, ho, h⟩ := h
      simp only [schedOkN, Bool.and_eq_true, beq_iff_eq] at hB
      refine wpAnyH_all hB.1 (by simp) (fun j hj => ?_)
      obtain rfl : j = i := by simpa using hj
      unfold wpOp
      simp only [ho]
      split at h
      · rename_i hw
        rw [if_pos hw]
        refine .inl (Oper.wp_mono (fun a' w' h' => ⟨h'.1, ?_⟩) h)
        exact wpAnyH_mono (fun x hx => R.trans h'.1 hx) _ _ _ _ (ih _ _ _ hB.2 h'.2)
      · rename_i hw
        rw [if_neg hw]
        exact ⟨R.refl _, ih _ _ _ hB.2 h⟩

theorem wp_region_kept (R : Keep) {id : Nat} {a : Act} {w : World} (s : List (Nat × Bool)) (hm : P.follows .mixedOrders = true) (hs : (Region.noSelect ops && (s.length == ops.size) && schedOkN .any ops s (Array.replicate ops.size false)) = true)
    (hQ : ∀ c a d v w, Q (.panic c) (Act.put a d v) w → Q (.panic c) a w) (h : wpK P R ops Q s a w.drew) : (Code.region id ops true).wp P Q a w := by
  simp only [Bool.and_eq_true, beq_iff_eq] at hs
  refine wp_region_held (S := fun x => R.r w.drew x) hm ?_
  have := wpK_sound (md := .any) hs.1.1 hQ s _ a w.drew hs.2 h
  rw [hs.1.2] at this
  exact this

/-- The walk in the schedule's order, the operations written out. -/
def wpH (P : Program) (R : Keep) (ops : Array Oper) (Q : Exit → Act → World → Prop) : List (Oper × Bool) → Act → World → Prop
  | [], a, w => Q .normal a w
  | (o, true) :: s, a, w => if Region.wanted o (yielded ops a.tmps) = true then o.quiet P a (fun x => ∃ e : ExtK R w, x = e.val) (fun a' => wpH P R ops Q s a' w) else wpH P R ops Q s (a.put o.dst undef) w
  | (o, false) :: s, a, w => if Region.wanted o (yielded ops a.tmps) = true then o.wp P a w (fun a' w' => R.r w w' ∧ wpH P R ops Q s a' w') Q else wpH P R ops Q s (a.put o.dst undef) w
theorem wpK_of_wpH {ops : List Oper} : ∀ (s : List (Nat × Bool)) (a : Act) (w : World), (∀ x ∈ s, x.1 < ops.length) → wpH P R ops.toArray Q (picked ops s) a w → wpK P R ops.toArray Q s a w
  | [], _, _, _, h => h
  | (i, true) :: s, a, w, hl, h => by
    have hi : i < ops.length := hl (i, true) (List.mem_cons_self ..)
    refine ⟨ops[i], by simp [hi], ?_⟩
    have e : (ops[i]?).getD default = ops[i] := by simp [hi]
    simp only [picked, List.map_cons, wpH, e] at h
    split at h
    · rename_i hw
      rw [if_pos hw]
      exact Oper.quiet_mono (fun a' h' => wpK_of_wpH s a' w (fun x hx => hl x (List.mem_cons_of_mem _ hx)) h') h
    · rename_i hw
      rw [if_neg hw]
      exact wpK_of_wpH s _ w (fun x hx => hl x (List.mem_cons_of_mem _ hx)) h
  | (i, false) :: s, a, w, hl, h => by
    have hi : i < ops.length := hl (i, false) (List.mem_cons_self ..)
    refine ⟨ops[i], by simp [hi], ?_⟩
    have e : (ops[i]?).getD default = ops[i] := by simp [hi]
    simp only [picked, List.map_cons, wpH, e] at h
    split at h
    · rename_i hw
      rw [if_pos hw]
      exact Oper.wp_mono (fun a' w' h' => ⟨h'.1, wpK_of_wpH s a' w' (fun x hx => hl x (List.mem_cons_of_mem _ hx)) h'.2⟩) h
    · rename_i hw
      rw [if_neg hw]
      exact wpK_of_wpH s _ w (fun x hx => hl x (List.mem_cons_of_mem _ hx)) h

/-- THE BEGINNING, for a region that is written out. -/
theorem wp_region_held_lit (R : Keep) {id : Nat} {ops : List Oper} {a : Act} {w : World} (s : List (Nat × Bool)) (hm : P.follows .mixedOrders = true)
    (hs : (Region.noSelect ops.toArray && (s.length == ops.toArray.size) && schedOkN .any ops.toArray s (Array.replicate ops.toArray.size false) && s.all fun x => decide (x.1 < ops.length)) = true)
    (hQ : ∀ c a d v w, Q (.panic c) (Act.put a d v) w → Q (.panic c) a w) (h : wpH P R ops.toArray Q (picked ops s) a w.drew) : (Code.region id ops.toArray true).wp P Q a w := by
  rw [Bool.and_eq_true] at hs
  exact wp_region_kept R s hm hs.1 hQ (wpK_of_wpH s a w.drew (fun x hx => of_decide_eq_true (List.all_eq_true.1 hs.2 x hx)) h)

theorem wpH_nil {a : Act} {w : World} (h : Q .normal a w) : wpH P R ops Q [] a w := h
theorem wpH_skip {b : Bool} {s : List (Oper × Bool)} {o : Oper} {a : Act} {w : World} (hw : Region.wanted o (yielded ops a.tmps) = false) (h : wpH P R ops Q s (a.put o.dst undef) w) : wpH P R ops Q ((o, b) :: s) a w := by
  cases b <;> (simp only [wpH]; rw [if_neg (by rw [hw]; exact Bool.false_ne_true)]; exact h)
theorem wpH_quiet {s : List (Oper × Bool)} {o : Oper} {a : Act} {w : World} (hw : Region.wanted o (yielded ops a.tmps) = true)
    (h : ∀ K : Act → Prop, (∀ a', wpH P R ops Q s a' w → K a') → o.quiet P a (fun x => ∃ e : ExtK R w, x = e.val) K) : wpH P R ops Q ((o, true) :: s) a w := by
  simp only [wpH]; rw [if_pos hw]; exact h _ fun _ h => h
theorem wpH_one {s : List (Oper × Bool)} {o : Oper} {a : Act} {w : World} (hw : Region.wanted o (yielded ops a.tmps) = true)
    (h : ∀ K : Act → World → Prop, (∀ a' w', R.r w w' → wpH P R ops Q s a' w' → K a' w') → o.wp P a w K Q) : wpH P R ops Q ((o, false) :: s) a w := by
  simp only [wpH]; rw [if_pos hw]; exact h _ fun _ _ h1 h2 => ⟨h1, h2⟩
end
attribute [irreducible] wpH
end Go.Proofs.Ytnadhpajelkngaa

/- What calls behind a pointer leave alone: only one block may be written. No condition. -/
namespace Go.Proofs.Ytnadhpajelkngaa
open Go.RowKit Go.Deep

/-- Only the block g may have been written; what is new lies behind. -/
structure Only (g : Nat) (w w' : World) : Prop where
  os : w'.os = w.os
  tape : w'.tape = w.tape
  output : w'.output = w.output
  size : w.heap.size ≤ w'.heap.size
  block : ∀ k, k < w.heap.size → k ≠ g → w'.heap[k]? = w.heap[k]?
theorem Only.refl (g : Nat) (w : World) : Only g w w := ⟨rfl, rfl, rfl, Nat.le_refl _, fun _ _ _ => rfl⟩
theorem Only.trans {g : Nat} {a b c : World} (h : Only g a b) (k : Only g b c) : Only g a c :=
  ⟨k.os.trans h.os, k.tape.trans h.tape, k.output.trans h.output, Nat.le_trans h.size k.size, fun i hi hg => (k.block i (Nat.lt_of_lt_of_le hi h.size) hg).trans (h.block i hi hg)⟩
theorem Only.of_below {g : Nat} {w w' : World} (h : Below w.heap.size w w') : Only g w w' := ⟨h.os, h.tape, h.output, h.size, fun k hk _ => h.block k hk⟩
theorem Only.drew {g : Nat} {a w : World} (h : Only g a w) : Only g a w.drew := ⟨h.os, h.tape, h.output, h.size, h.block⟩
theorem Only.set {g : Nat} {a w : World} (h : Only g a w) (i : Nat) (v : Value) : Only g a (w.setCell ⟨g, i, none⟩ v) :=
  h.trans ⟨rfl, rfl, rfl, by simp [World.setCell], fun k _ hk => Below.heap_setCell _ _ _ _ hk⟩
theorem Only.below {g : Nat} {W w w' : World} (h : Only g w w') (hb : Below W.heap.size W w) (hg : W.heap.size ≤ g) : Below W.heap.size W w' :=
  hb.trans ⟨h.os, h.tape, h.output, h.size, fun k hk => h.block k (Nat.lt_of_lt_of_le hk hb.size) (by omega)⟩
end Go.Proofs.Ytnadhpajelkngaa

/- A statement whose order Go leaves open, in small: the walk parts wherever two operations may come up that look at memory or make some; nothing is asked of the worlds between. No condition beyond those that each lemma states. -/
namespace Go.Proofs.Ytnadhpajelkngaa
open Go.RowKit

/-- Any world. -/
def AnyW : Type := { _x : World // True }
instance : Inhabited AnyW := ⟨⟨default, trivial⟩⟩
namespace Sched
/-- The walk in the schedule's order; what is taken ahead yields the same in any world. -/
def walkF (P : Program) (ops : Array Oper) (Q : Exit → Act → World → Prop) : Sched Oper → Act → World → Prop
  | done, a, w => Q .normal a w
  | quiet o s, a, w => if Region.wanted o (yielded ops a.tmps) = true then o.quiet P a (fun x => ∃ e : AnyW, x = e.val) (fun a' => walkF P ops Q s a' w) else walkF P ops Q s (a.put o.dst undef) w
  | one o s, a, w => if Region.wanted o (yielded ops a.tmps) = true then o.wp P a w (fun a' w' => walkF P ops Q s a' w') Q else walkF P ops Q s (a.put o.dst undef) w
  | two o s o' s', a, w => (if Region.wanted o (yielded ops a.tmps) = true then o.wp P a w (fun a' w' => walkF P ops Q s a' w') Q else walkF P ops Q s (a.put o.dst undef) w) ∧
      (if Region.wanted o' (yielded ops a.tmps) = true then o'.wp P a w (fun a' w' => walkF P ops Q s' a' w') Q else walkF P ops Q s' (a.put o'.dst undef) w)

section
variable {P : Program} {ops : Array Oper} {Q : Exit → Act → World → Prop} {md : Region.Mode}
theorem stepF_sound {ops : List Oper} {i fuel : Nat} {s : Sched Nat} {listed : Array Bool} {a : Act} {w : World} (hi : i < ops.length)
    (ih : ∀ (a : Act) (w : World), walkF P ops.toArray Q (picked ops s) a w → wpAnyH P md ops.toArray Q (fun _ => True) fuel (listed.setIfInBounds i true) a w)
    (h : if Region.wanted ((ops[i]?).getD default) (yielded ops.toArray a.tmps) = true then ((ops[i]?).getD default).wp P a w (fun a' w' => walkF P ops.toArray Q (picked ops s) a' w') Q
      else walkF P ops.toArray Q (picked ops s) (a.put ((ops[i]?).getD default).dst undef) w) :
    wpOp P ops.toArray Q i (fun a' w' => True ∧ wpAnyH P md ops.toArray Q (fun _ => True) fuel (listed.setIfInBounds i true) a' w') a w := by
  have e : (ops[i]?).getD default = ops[i] := by simp [hi]
  have ho : ops.toArray[i]? = some ops[i] := by simp [hi]
  rw [e] at h
  unfold wpOp
  simp only [ho]
  split at h
  · rename_i hw
    rw [if_pos hw]
    exact .inl (Oper.wp_mono (fun a' w' h' => ⟨trivial, ih _ _ h'⟩) h)
  · rename_i hw
    rw [if_neg hw]
    exact ⟨trivial, ih _ _ h⟩

theorem walkF_sound {ops : List Oper} (hs : Region.noSelect ops.toArray = true) (hQ : ∀ c a d v w, Q (.panic c) (Act.put a d v) w → Q (.panic c) a w) :
    ∀ (s : Sched Nat) (listed : Array Bool) (a : Act) (w : World), ok md ops.toArray s listed = true → under ops.length s = true → walkF P ops.toArray Q (picked ops s) a w → wpAnyH P md ops.toArray Q (fun _ => True) s.depth listed a w := by
  intro s
  induction s with
  | done =>
    intro listed a w hB _ h
    exact ⟨by simpa [ok] using hB, h⟩
  | quiet i s ih =>
    intro listed a w hB hu h
    simp only [under, Bool.and_eq_true, decide_eq_true_eq] at hu
    have e : (ops[i]?).getD default = ops[i] := by simp [hu.1]
    have ho : ops.toArray[i]? = some ops[i] := by simp [hu.1]
    simp only [ok, ho, Bool.and_eq_true] at hB
    obtain ⟨⟨⟨hk, hr⟩, hf⟩, hB'⟩ := hB
    simp only [picked, walkF, e] at h
    split at h
    · rename_i hw
      obtain ⟨v, hv, hn⟩ := h
      refine wpAnyH_take ho hs hf hr (fun c a w h => hQ c a _ _ w h) (.inl ⟨hw, fun x hx => ?_⟩) trivial (ih _ _ _ hB' hu.2 hn)
      have hq := hv x ⟨⟨x, hx⟩, rfl⟩
      unfold Oper.quietAt at hq
      generalize hr : (execOp a.eval ops[i]).run P x = r at hq
      cases r with
      | halt y w' => simp only [Oper.quietUpon] at hq
      | ok n w' =>
        obtain ⟨u, rfl⟩ := value_of_kind hk hr
        simp only [Oper.quietUpon] at hq
        obtain ⟨rfl, rfl⟩ := hq
        rfl
    · rename_i hw
      exact wpAnyH_take ho hs hf hr (fun c a w h => hQ c a _ _ w h) (.inr ⟨by simpa using hw, rfl⟩) trivial (ih _ _ _ hB' hu.2 h)
  | one i s ih =>
    intro listed a w hB hu h
    simp only [under, Bool.and_eq_true, decide_eq_true_eq] at hu
    simp only [ok, Bool.and_eq_true, beq_iff_eq] at hB
    simp only [picked, walkF] at h
    refine wpAnyH_all hB.1 (by simp) (fun j hj => ?_)
    obtain rfl : j = i := by simpa using hj
    exact stepF_sound hu.1 (fun a w h => ih _ _ _ hB.2 hu.2 h) h
  | two i s j t ihs iht =>
    intro listed a w hB hu h
    simp only [under, Bool.and_eq_true, decide_eq_true_eq] at hu
    simp only [ok, Bool.and_eq_true, beq_iff_eq] at hB
    simp only [picked, walkF] at h
    refine wpAnyH_all hB.1.1.1 (by simp) (fun k hk => ?_)
    rcases List.mem_cons.1 hk with rfl | hk
    · exact stepF_sound hu.1.1 (fun a w h => ihs _ _ _ hB.1.2 hu.1.2 h) h.1
    · obtain rfl : k = j := by simpa using hk
      refine stepF_sound hu.2.1 (fun a w h => ?_) h.2
      rw [hB.1.1.2]
      exact iht _ _ _ hB.2 hu.2.2 h

/-- THE BEGINNING, for a region that is written out. -/
theorem wp_region_free {id : Nat} {ops : List Oper} {a : Act} {w : World} (s : Sched Nat) (hm : P.follows .mixedOrders = true)
    (hs : (Region.noSelect ops.toArray && (s.depth == ops.toArray.size) && ok .any ops.toArray s (Array.replicate ops.toArray.size false) && under ops.length s) = true)
    (hQ : ∀ c a d v w, Q (.panic c) (Act.put a d v) w → Q (.panic c) a w) (h : walkF P ops.toArray Q (picked ops s) a w.drew) : (Code.region id ops.toArray true).wp P Q a w := by
  simp only [Bool.and_eq_true, beq_iff_eq] at hs
  refine wp_region_held (S := fun _ => True) hm ?_
  have := walkF_sound (md := .any) hs.1.1.1 hQ s _ a w.drew hs.1.2 hs.2 h
  rw [hs.1.1.2] at this
  exact this

theorem walkF_done {a : Act} {w : World} (h : Q .normal a w) : walkF P ops Q .done a w := h
theorem walkF_skip_quiet {s : Sched Oper} {o : Oper} {a : Act} {w : World} (hw : Region.wanted o (yielded ops a.tmps) = false) (h : walkF P ops Q s (a.put o.dst undef) w) : walkF P ops Q (.quiet o s) a w := by
  simp only [walkF]; rw [if_neg (by rw [hw]; exact Bool.false_ne_true)]; exact h
theorem walkF_skip_one {s : Sched Oper} {o : Oper} {a : Act} {w : World} (hw : Region.wanted o (yielded ops a.tmps) = false) (h : walkF P ops Q s (a.put o.dst undef) w) : walkF P ops Q (.one o s) a w := by
  simp only [walkF]; rw [if_neg (by rw [hw]; exact Bool.false_ne_true)]; exact h
theorem walkF_quiet {s : Sched Oper} {o : Oper} {a : Act} {w : World} (hw : Region.wanted o (yielded ops a.tmps) = true)
    (h : ∀ K : Act → Prop, (∀ a', walkF P ops Q s a' w → K a') → o.quiet P a (fun x => ∃ e : AnyW, x = e.val) K) : walkF P ops Q (.quiet o s) a w := by
  simp only [walkF]; rw [if_pos hw]; exact h _ fun _ h => h
theorem walkF_one {s : Sched Oper} {o : Oper} {a : Act} {w : World} (hw : Region.wanted o (yielded ops a.tmps) = true)
    (h : ∀ K : Act → World → Prop, (∀ a' w', walkF P ops Q s a' w' → K a' w') → o.wp P a w K Q) : walkF P ops Q (.one o s) a w := by
  simp only [walkF]; rw [if_pos hw]; exact h _ fun _ _ h2 => h2
theorem walkF_two {s t : Sched Oper} {o o' : Oper} {a : Act} {w : World} (h1 : walkF P ops Q (.one o s) a w) (h2 : walkF P ops Q (.one o' t) a w) : walkF P ops Q (.two o s o' t) a w := by
  simp only [walkF] at h1 h2 ⊢; exact ⟨h1, h2⟩
end
attribute [irreducible] walkF
end Sched
end Go.Proofs.Ytnadhpajelkngaa

/- A statement whose order Go leaves open, where now and then two operations may come up that matter to each other: the walk parts there, and goes on in both ways; what is taken ahead yields the same in every world that keeps what the relation says. No condition beyond those that each lemma states. -/
namespace Go.Proofs.Ytnadhpajelkngaa
open Go.RowKit
namespace Sched
/-- What is asked of a schedule: as in Tree; nil checks may be taken ahead, too. -/
def okN (md : Region.Mode) (ops : Array Oper) : Sched Nat → Array Bool → Bool
  | done, listed => (Region.ready md ops listed).isEmpty
  | quiet i s, listed => (match ops[i]? with | some o => quietKindN o | none => false) && (Region.ready md ops listed).contains i && Region.free md ops listed i && okN md ops s (listed.setIfInBounds i true)
  | one i s, listed => (Region.ready md ops listed == [i]) && okN md ops s (listed.setIfInBounds i true)
  | two i s j t, listed => (Region.ready md ops listed == [i, j]) && (s.depth == t.depth) && okN md ops s (listed.setIfInBounds i true) && okN md ops t (listed.setIfInBounds j true)
/-- The walk in the schedule's order. -/
def walkK (P : Program) (R : Keep) (ops : Array Oper) (Q : Exit → Act → World → Prop) : Sched Oper → Act → World → Prop
  | done, a, w => Q .normal a w
  | quiet o s, a, w => if Region.wanted o (yielded ops a.tmps) = true then o.quiet P a (fun x => ∃ e : ExtK R w, x = e.val) (fun a' => walkK P R ops Q s a' w) else walkK P R ops Q s (a.put o.dst undef) w
  | one o s, a, w => if Region.wanted o (yielded ops a.tmps) = true then o.wp P a w (fun a' w' => R.r w w' ∧ walkK P R ops Q s a' w') Q else walkK P R ops Q s (a.put o.dst undef) w
  | two o s o' s', a, w => (if Region.wanted o (yielded ops a.tmps) = true then o.wp P a w (fun a' w' => R.r w w' ∧ walkK P R ops Q s a' w') Q else walkK P R ops Q s (a.put o.dst undef) w) ∧
      (if Region.wanted o' (yielded ops a.tmps) = true then o'.wp P a w (fun a' w' => R.r w w' ∧ walkK P R ops Q s' a' w') Q else walkK P R ops Q s' (a.put o'.dst undef) w)

section
variable {P : Program} {R : Keep} {ops : Array Oper} {Q : Exit → Act → World → Prop} {md : Region.Mode}
theorem stepK_sound {ops : List Oper} {i fuel : Nat} {s : Sched Nat} {listed : Array Bool} {a : Act} {w : World} (hi : i < ops.length)
    (ih : ∀ (a : Act) (w : World), walkK P R ops.toArray Q (picked ops s) a w → wpAnyH P md ops.toArray Q (fun x => R.r w x) fuel (listed.setIfInBounds i true) a w)
    (h : if Region.wanted ((ops[i]?).getD default) (yielded ops.toArray a.tmps) = true then ((ops[i]?).getD default).wp P a w (fun a' w' => R.r w w' ∧ walkK P R ops.toArray Q (picked ops s) a' w') Q
      else walkK P R ops.toArray Q (picked ops s) (a.put ((ops[i]?).getD default).dst undef) w) :
    wpOp P ops.toArray Q i (fun a' w' => R.r w w' ∧ wpAnyH P md ops.toArray Q (fun x => R.r w x) fuel (listed.setIfInBounds i true) a' w') a w := by
  have e : (ops[i]?).getD default = ops[i] := by simp [hi]
  have ho : ops.toArray[i]? = some ops[i] := by simp [hi]
  rw [e] at h
  unfold wpOp
  simp only [ho]
  split at h
  · rename_i hw
    rw [if_pos hw]
    refine .inl (Oper.wp_mono (fun a' w' h' => ⟨h'.1, ?_⟩) h)
    exact wpAnyH_mono (fun x hx => R.trans h'.1 hx) _ _ _ _ (ih _ _ h'.2)
  · rename_i hw
    rw [if_neg hw]
    exact ⟨R.refl _, ih _ _ h⟩

theorem walkK_sound {ops : List Oper} (hs : Region.noSelect ops.toArray = true) (hQ : ∀ c a d v w, Q (.panic c) (Act.put a d v) w → Q (.panic c) a w) :
    ∀ (s : Sched Nat) (listed : Array Bool) (a : Act) (w : World), okN md ops.toArray s listed = true → under ops.length s = true → walkK P R ops.toArray Q (picked ops s) a w → wpAnyH P md ops.toArray Q (fun x => R.r w x) s.depth listed a w := by
  intro s
  induction s with
  | done =>
    intro listed a w hB _ h
    exact ⟨by simpa [okN] using hB, h⟩
  | quiet i s ih =>
    intro listed a w hB hu h
    simp only [under, Bool.and_eq_true, decide_eq_true_eq] at hu
    have e : (ops[i]?).getD default = ops[i] := by simp [hu.1]
    have ho : ops.toArray[i]? = some ops[i] := by simp [hu.1]
    simp only [okN, ho, Bool.and_eq_true] at hB
    obtain ⟨⟨⟨hk, hr⟩, hf⟩, hB'⟩ := hB
    simp only [picked, walkK, e] at h
    split at h
    · rename_i hw
      obtain ⟨v, hv, hn⟩ := h
      refine wpAnyH_take ho hs hf hr (fun c a w h => hQ c a _ _ w h) (.inl ⟨hw, fun x hx => ?_⟩) (R.refl _) (ih _ _ _ hB' hu.2 hn)
      exact yields_of_quiet hk (hv x ⟨⟨x, hx⟩, rfl⟩)
    · rename_i hw
      exact wpAnyH_take ho hs hf hr (fun c a w h => hQ c a _ _ w h) (.inr ⟨by simpa using hw, rfl⟩) (R.refl _) (ih _ _ _ hB' hu.2 h)
  | one i s ih =>
    intro listed a w hB hu h
    simp only [under, Bool.and_eq_true, decide_eq_true_eq] at hu
    simp only [okN, Bool.and_eq_true, beq_iff_eq] at hB
    simp only [picked, walkK] at h
    refine wpAnyH_all hB.1 (by simp) (fun j hj => ?_)
    obtain rfl : j = i := by simpa using hj
    exact stepK_sound hu.1 (fun a w h => ih _ _ _ hB.2 hu.2 h) h
  | two i s j t ihs iht =>
    intro listed a w hB hu h
    simp only [under, Bool.and_eq_true, decide_eq_true_eq] at hu
    simp only [okN, Bool.and_eq_true, beq_iff_eq] at hB
    simp only [picked, walkK] at h
    refine wpAnyH_all hB.1.1.1 (by simp) (fun k hk => ?_)
    rcases List.mem_cons.1 hk with rfl | hk
    · exact stepK_sound hu.1.1 (fun a w h => ihs _ _ _ hB.1.2 hu.1.2 h) h.1
    · obtain rfl : k = j := by simpa using hk
      refine stepK_sound hu.2.1 (fun a w h => ?_) h.2
      rw [hB.1.1.2]
      exact iht _ _ _ hB.2 hu.2.2 h

/-- THE BEGINNING, for a region that is written out. -/
theorem wp_region_branch (R : Keep) {id : Nat} {ops : List Oper} {a : Act} {w : World} (s : Sched Nat) (hm : P.follows .mixedOrders = true)
    (hs : (Region.noSelect ops.toArray && (s.depth == ops.toArray.size) && okN .any ops.toArray s (Array.replicate ops.toArray.size false) && under ops.length s) = true)
    (hQ : ∀ c a d v w, Q (.panic c) (Act.put a d v) w → Q (.panic c) a w) (h : walkK P R ops.toArray Q (picked ops s) a w.drew) : (Code.region id ops.toArray true).wp P Q a w := by
  simp only [Bool.and_eq_true, beq_iff_eq] at hs
  refine wp_region_held (S := fun x => R.r w.drew x) hm ?_
  have := walkK_sound (md := .any) hs.1.1.1 hQ s _ a w.drew hs.1.2 hs.2 h
  rw [hs.1.1.2] at this
  exact this

theorem walkK_done {a : Act} {w : World} (h : Q .normal a w) : walkK P R ops Q .done a w := h
theorem walkK_skip_quiet {s : Sched Oper} {o : Oper} {a : Act} {w : World} (hw : Region.wanted o (yielded ops a.tmps) = false) (h : walkK P R ops Q s (a.put o.dst undef) w) : walkK P R ops Q (.quiet o s) a w := by
  simp only [walkK]; rw [if_neg (by rw [hw]; exact Bool.false_ne_true)]; exact h
theorem walkK_skip_one {s : Sched Oper} {o : Oper} {a : Act} {w : World} (hw : Region.wanted o (yielded ops a.tmps) = false) (h : walkK P R ops Q s (a.put o.dst undef) w) : walkK P R ops Q (.one o s) a w := by
  simp only [walkK]; rw [if_neg (by rw [hw]; exact Bool.false_ne_true)]; exact h
theorem walkK_quiet {s : Sched Oper} {o : Oper} {a : Act} {w : World} (hw : Region.wanted o (yielded ops a.tmps) = true)
    (h : ∀ K : Act → Prop, (∀ a', walkK P R ops Q s a' w → K a') → o.quiet P a (fun x => ∃ e : ExtK R w, x = e.val) K) : walkK P R ops Q (.quiet o s) a w := by
  simp only [walkK]; rw [if_pos hw]; exact h _ fun _ h => h
theorem walkK_one {s : Sched Oper} {o : Oper} {a : Act} {w : World} (hw : Region.wanted o (yielded ops a.tmps) = true)
    (h : ∀ K : Act → World → Prop, (∀ a' w', R.r w w' → walkK P R ops Q s a' w' → K a' w') → o.wp P a w K Q) : walkK P R ops Q (.one o s) a w := by
  simp only [walkK]; rw [if_pos hw]; exact h _ fun _ _ h1 h2 => ⟨h1, h2⟩
theorem walkK_two {s t : Sched Oper} {o o' : Oper} {a : Act} {w : World} (h1 : walkK P R ops Q (.one o s) a w) (h2 : walkK P R ops Q (.one o' t) a w) : walkK P R ops Q (.two o s o' t) a w := by
  simp only [walkK] at h1 h2 ⊢; exact ⟨h1, h2⟩
end
attribute [irreducible] walkK
end Sched
/-- A whole array, taken ahead out of a block that stays. -/
theorem quiet_load_mid {P : Program} {C : World → Prop} {K : Act → Prop} {op : Oper} {a : Act} (ty : TypeId) (x : Operand) (ho : op.op = .load ty x) (b o : Nat) (hx : a.eval x = .pointer (some ⟨b, o, none⟩)) (cs : List Value) (d : TypeDesc) (hc : ∀ w, C w → w.rangeAt b o cs)
    (hu : P.underlying ty = some d) (hd : d.isRow = true) (hi : (P.info? ty).map (·.size) = some cs.length) (h : K (a.put op.dst (.agg cs.toArray))) : op.quiet P a C K := by
  refine ⟨_, fun w hw => ?_, h⟩
  unfold Oper.quietAt execOp
  simp only [ho, hx, Instr.loadAt, Instr.sureAddr, Sem.run_bind, Sem.run_pure, Result.andThen_ok, run_loadVar_mid w b o ty cs d (hc w hw) hu hd hi]
  exact ⟨rfl, rfl⟩
end Go.Proofs.Ytnadhpajelkngaa
