/- Slices of bytes that come in or go from call to call, nil among them: what they read as, in this world and in later ones; how such an argument is opened; append of such bytes onto bytes that the call itself has made. Conditions: no more than 2^46 bytes together, where bytes are appended. -/
import Derived.Test.YtgenphpaidanhaaLaw
import Derived.Lib.Hide
import Derived.Laws.BytesArg
import Derived.Laws.IdiomStrings
import Derived.Deep.OwnRows
import Derived.Maps.AppendAt
import Derived.Deep.AppendLies
import Derived.Deep.Matrix
namespace Go.Proofs.Ytgenphpaidanhaa
open Go.ChangeShapes Go.WideShapes Go.ChangeAt Go.RowKit Go.Deep

theorem u8_info : (Try.prog.info? 5).map (fun i => (i.zero, i.size, i.bytes)) = some (some (.int .u8 0), 1, 1) := by kernel_rfl
/-- The slice value with address A reads as these bytes, and lies below the heap's end. -/
def BytesAt (w : World) (A : Option Addr) (l : List Nat) : Prop :=
  l = [] ∨ ∃ b off, A = some ⟨b, off, none⟩ ∧ b < w.heap.size ∧ ∀ j c : Nat, l[j]? = some c → w.cell? ⟨b, off + j, none⟩ = some (.int .u8 (c : Int))
theorem BytesAt.below {w w' : World} {A : Option Addr} {l : List Nat} (h : BytesAt w A l) (hb : Below w.heap.size w w') : BytesAt w' A l := by
  rcases h with h | ⟨b, off, hA, hlt, hc⟩
  · exact .inl h
  · exact .inr ⟨b, off, hA, Nat.lt_of_lt_of_le hlt hb.size, fun j c hj => (hb.cell (p := ⟨b, off + j, none⟩) hlt).trans (hc j c hj)⟩
theorem BytesAt.drew {w : World} {A : Option Addr} {l : List Nat} (h : BytesAt w A l) : BytesAt w.drew A l := h
/-- The text of these bytes. -/
def bstr (l : List Nat) : ByteArray := strOfNums (l.map fun x : Nat => (x : Int))
theorem bstr_size (l : List Nat) : (bstr l).size = l.length := by simp [bstr, strOfNums_size]
theorem bstr_inj (a b : List Nat) (ha : ∀ x ∈ a, x < 256) (hb : ∀ x ∈ b, x < 256) (h : bstr a = bstr b) : a = b := by
  have h1 := congrArg (fun s : ByteArray => s.data.toList.map UInt8.toNat) h
  have key : ∀ l : List Nat, (∀ x ∈ l, x < 256) → (bstr l).data.toList.map UInt8.toNat = l := by
    intro l hl
    rw [bstr, strOfNums_data, List.map_map, List.map_map]
    conv => rhs; rw [← List.map_id l]
    refine List.map_congr_left fun x hx => ?_
    have := hl x hx
    simp
    omega
  simp only [key a ha, key b hb] at h1
  exact h1
theorem bstr_neq {a b : ByteArray} (h : a ≠ b) : (a.toList == b.toList) = false := by
  refine beq_eq_false_iff_ne.2 fun e => h ?_
  rw [ByteArray.toList_eq, ByteArray.toList_eq] at e
  have e' := Array.toList_inj.1 e
  cases a
  cases b
  simp only at e'
  rw [e']
def u8s (l : List Nat) : List Value := l.map fun x : Nat => .int .u8 (x : Int)
theorem u8s_one (l : List Nat) : ∀ u ∈ u8s l, u.oneCell' = true := by
  intro u hu
  obtain ⟨x, _, rfl⟩ := List.mem_map.1 hu
  rfl
theorem u8s_length (l : List Nat) : (u8s l).length = l.length := by simp [u8s]
theorem u8s_append (a b : List Nat) : u8s (a ++ b) = u8s a ++ u8s b := by simp [u8s]
theorem BytesAt.cells {w : World} {a : Addr} {l : List Nat} (h : BytesAt w (some a) l) : ∀ (j : Nat) (u : Value), (u8s l)[j]? = some u → w.cell? (a.add j) = some u := by
  intro j u hu
  rcases h with rfl | ⟨b, off, e, _, hc⟩
  · simp [u8s] at hu
  · injection e with e
    subst e
    rw [u8s, List.getElem?_map, Option.map_eq_some_iff] at hu
    obtain ⟨x, hx, rfl⟩ := hu
    rw [Go.WideShapes.add_plain]
    exact hc j x hx
theorem BytesAt.take {w : World} {A : Option Addr} {l : List Nat} (h : BytesAt w A l) (k : Nat) : BytesAt w A (l.take k) := by
  rcases h with rfl | ⟨b, off, e, hlt, hc⟩
  · exact .inl (by simp)
  · refine .inr ⟨b, off, e, hlt, fun j c hj => hc j c ?_⟩
    rw [List.getElem?_take] at hj
    split at hj
    · exact hj
    · cases hj
/-- What was there stays as it was: step by step. -/
theorem bstep {w x y : World} (h : Below w.heap.size w x) (h2 : Below x.heap.size x y) : Below w.heap.size w y := h.trans (h2.mono h.size)
theorem balloc {w x : World} (h : Below w.heap.size w x) (o : Obj) : Below w.heap.size w (x.alloc o) := h.alloc h.size o
/-- Bytes that were just laid. -/
theorem BytesAt.lit {w : World} {cs : Array Value} {t : TypeId} {fr : Nat × Nat} {l : List Nat} {g : Nat} (hc : ∀ (j x : Nat), l[j]? = some x → cs[j]? = some (Value.int .u8 (x : Int))) (hg : g = w.heap.size) : BytesAt (w.alloc (.cells cs t fr)) (some ⟨g, 0, none⟩) l := by
  subst hg
  exact .inr ⟨w.heap.size, 0, rfl, by simp, fun j x hx => by rw [Nat.zero_add, cell_of_row _ _ _ cs t fr (heap_alloc_new w _), hc j x hx]⟩
theorem BytesAt.alloc {w : World} {A : Option Addr} {l : List Nat} (h : BytesAt w A l) (o : Obj) : BytesAt (w.alloc o) A l := h.below ((Below.refl _ _).alloc (Nat.le_refl _) _)
theorem BytesAt.nil {w : World} : BytesAt w none [] := .inl rfl
theorem BytesAt.drop {w : World} {b off : Nat} {l : List Nat} (h : BytesAt w (some ⟨b, off, none⟩) l) (k : Nat) : BytesAt w (some ⟨b, off + k, none⟩) (l.drop k) := by
  rcases h with rfl | ⟨b', off', e, hlt, hc⟩
  · exact .inl (by simp)
  · injection e with e
    injection e with e1 e2 e3
    subst e1 e2
    refine .inr ⟨_, _, rfl, hlt, fun j c hj => ?_⟩
    rw [List.getElem?_drop] at hj
    rw [Nat.add_assoc]
    exact hc _ c hj
/-- The cell of one byte. -/
theorem BytesAt.cell {w : World} {b off : Nat} {l : List Nat} (h : BytesAt w (some ⟨b, off, none⟩) l) {j : Nat} (hj : j < l.length) : w.cell? ⟨b, off + j, none⟩ = some (.int .u8 ((l[j] : Nat) : Int)) := by
  rcases h with rfl | ⟨b', off', e, _, hc⟩
  · simp at hj
  · injection e with e
    injection e with e1 e2 e3
    subst e1 e2
    exact hc j _ (List.getElem?_eq_getElem hj)
theorem BytesAt.form {w : World} {A : Option Addr} {l : List Nat} (h : BytesAt w A l) (h0 : 0 < l.length) : ∃ b off, A = some ⟨b, off, none⟩ ∧ b < w.heap.size := by
  rcases h with rfl | ⟨b, off, e, hlt, _⟩
  · simp at h0
  · exact ⟨b, off, e, hlt⟩
/-- Bytes that lie in a row of the call's own. -/
theorem BytesAt.of_own {w : World} {base : Nat} {A : Option Addr} {l : List Nat} {c n : Nat} (h : w.ownsRow base 5 1 (.slice A n c) n (u8s l)) (hn : n = l.length) : BytesAt w A l := by
  subst hn
  by_cases h0 : l.length = 0
  · exact .inl (List.eq_nil_of_length_eq_zero h0)
  · obtain ⟨g, cap, hv, _, hlt⟩ := h.form (by omega)
    injection hv with h1 h2 h3
    subst h1
    subst h3
    refine .inr ⟨g, 0, rfl, hlt, fun j x hx => ?_⟩
    have hj : j < l.length := (List.getElem?_eq_some_iff.1 hx).1
    rw [Nat.zero_add, h.cellAt j (by omega), u8s, List.getElem?_map, hx]
    rfl

section
variable {P : Program} (w : World)
theorem run_append_nil (base : Nat) (t ty e : TypeId) (i : TypeInfo) (size : Nat) (ht : P.underlying t = some (.slice e)) (hi : P.info? e = some i) (v : Value) (n : Nat) (xs : List Value) (hown : w.ownsRow base e size v n xs) (c : Nat) :
    (Builtin.append_ #[t, t] ty #[v, .slice none 0 c]).run P w = .ok v w := by
  rcases hown.2 with ⟨rfl, rfl⟩ | ⟨g, cap, cur, rfl, _, _, hnc, _⟩
  · simp [Builtin.append_, run_underlying ht, sizeOf, typeInfo, hi, Builtin.lenOf, Builtin.firstCells]
  · simp [Builtin.append_, run_underlying ht, sizeOf, typeInfo, hi, Builtin.lenOf, Builtin.firstCells, hnc, storeCells]
end

/-- s[:k] and s[k:]: the address. -/
def addrHigh (A : Option Addr) (c : Nat) : Option Addr := if c = 0 then A else A.map (·.add (0 * 1))
def addrLow (A : Option Addr) (k c : Nat) : Option Addr := if c = k then A else A.map (·.add (k * 1))
theorem size_byte (w : World) : (sizeOf 5).run Try.prog w = .ok 1 w := by
  obtain ⟨i0, hi0, _, hz1, _⟩ := info_parts u8_info
  simp [sizeOf, typeInfo, hi0, hz1]
theorem BytesAt.high {w : World} {A : Option Addr} {l : List Nat} (h : BytesAt w A l) (c k : Nat) : BytesAt w (addrHigh A c) (l.take k) := by
  unfold addrHigh
  split
  · exact h.take k
  · rcases h with rfl | ⟨b, off, rfl, hlt, hc⟩
    · exact .inl (by simp)
    · have e : Option.map (fun x : Addr => x.add (0 * 1)) (some ⟨b, off, none⟩) = some ⟨b, off, none⟩ := by simp [Addr.add]
      rw [e]
      exact BytesAt.take (.inr ⟨b, off, rfl, hlt, hc⟩) k
theorem BytesAt.low {w : World} {A : Option Addr} {l : List Nat} (h : BytesAt w A l) (c k : Nat) (hc : l.length ≤ c) : BytesAt w (addrLow A k c) (l.drop k) := by
  unfold addrLow
  split
  · exact .inl (List.drop_eq_nil_of_le (by omega))
  · rcases h with rfl | ⟨b, off, rfl, hlt, hc⟩
    · exact .inl (by simp)
    · have e : Option.map (fun x : Addr => x.add (k * 1)) (some ⟨b, off, none⟩) = some ⟨b, off + k, none⟩ := by simp [Addr.add]
      rw [e]
      exact BytesAt.drop (.inr ⟨b, off, rfl, hlt, hc⟩) k
theorem own_slice {w : World} {base : Nat} {e : TypeId} {size : Nat} {v : Value} {n : Nat} {xs : List Value} (h : w.ownsRow base e size v n xs) : ∃ A c, v = .slice A n c := by
  rcases h.2 with ⟨rfl, rfl⟩ | ⟨g, cap, cur, rfl, _⟩
  · exact ⟨none, 0, rfl⟩
  · exact ⟨_, _, rfl⟩
/-- What an append of the bytes l onto the bytes xs leaves. -/
def Appended (base : Nat) (v : Value) (n : Nat) (xs l : List Nat) (w : World) (v' : Value) (w' : World) : Prop :=
  w'.ownsRow base 5 1 v' (n + l.length) (u8s (xs ++ l)) ∧ w.grownBy w' v.ownBlock ∧ (v'.ownBlock = v.ownBlock ∨ v'.ownBlock = some w.heap.size)
theorem Appended.below {base B n : Nat} {v v' : Value} {xs l : List Nat} {W w w' : World} (h : Appended base v n xs l w v' w') (hW : Below B W w) (hB : B ≤ w.heap.size) (hv : ∀ k, v.ownBlock = some k → B ≤ k) :
    Below B W w' ∧ ∀ k, v'.ownBlock = some k → B ≤ k :=
  ⟨hW.grown h.2.1 hB hv, fun k hk => by
    rcases h.2.2 with e | e
    · exact hv k (by rw [← e]; exact hk)
    · rw [e] at hk
      injection hk with hk
      omega⟩
/-- A slice of just these bytes, in memory that was made since w. -/
def NewBytes (l : List Nat) (w : World) (v : Value) (w' : World) : Prop :=
  ∃ g c, v = .slice (some ⟨g, 0, none⟩) l.length c ∧ (l.length ≤ c ∧ c ≤ maxLen) ∧ w.heap.size ≤ g ∧ g < w'.heap.size ∧ (∀ j x : Nat, l[j]? = some x → w'.cell? ⟨g, 0 + j, none⟩ = some (.int .u8 (x : Int))) ∧ Below w.heap.size w w'

theorem newBytes_of_own {w wr : World} {v : Value} {l : List Nat} (h : wr.ownsRow w.heap.size 5 1 v l.length (u8s l)) (h0 : 0 < l.length) (hb : Below w.heap.size w wr) : NewBytes l w v wr := by
  obtain ⟨g, cap, hv, hg, hlt⟩ := h.form h0
  have hcap : l.length ≤ cap ∧ cap ≤ maxLen := by
    rcases h.2 with ⟨h', _⟩ | ⟨g', cap', cur, h', _, _, h1, h2, _⟩
    · rw [hv] at h'; cases h'
    · rw [hv] at h'
      injection h' with _ _ h'
      subst h'
      exact ⟨h1, h2⟩
  subst hv
  refine ⟨g, cap, rfl, hcap, hg, hlt, fun j x hx => ?_, hb⟩
  have hj : j < l.length := (List.getElem?_eq_some_iff.1 hx).1
  rw [Nat.zero_add, h.cellAt j (by omega), u8s, List.getElem?_map, hx]
  rfl
theorem NewBytes.below {l : List Nat} {w w' : World} {v : Value} (h : NewBytes l w v w') : Below w.heap.size w w' := by
  obtain ⟨_, _, _, _, _, _, _, hb⟩ := h
  exact hb
theorem NewBytes.at_ {l : List Nat} {w w' : World} {v : Value} (h : NewBytes l w v w') : ∃ A c, v = .slice A l.length c ∧ BytesAt w' A l := by
  obtain ⟨g, c, hv, _, _, hlt, hc, _⟩ := h
  exact ⟨_, c, hv, .inr ⟨g, 0, rfl, hlt, hc⟩⟩

end Go.Proofs.Ytgenphpaidanhaa
