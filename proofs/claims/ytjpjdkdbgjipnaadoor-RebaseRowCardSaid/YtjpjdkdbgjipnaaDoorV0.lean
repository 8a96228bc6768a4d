/- Slices of bytes that come in or go from call to call, nil among them: what they read as, in this world and in later ones; how such an argument is opened; append of such bytes onto bytes that the call itself has made. Conditions: no more than 2^46 bytes together, where bytes are appended. (Merged of 2 texts.) -/
import Derived.Test.YtjpjdkdbgjipnaaDoorRows
import Derived.WalkKit
import Derived.Lib.Hide
import Derived.ProofKit
import Derived.OpenShut
import Derived.OpenVars
import Derived.Laws.BytesArg
import Derived.Laws.IdiomStrings
import Derived.Deep.OwnRows
import Derived.Maps.AppendAt
import Derived.Deep.AppendLies
import Derived.Deep.Matrix
namespace Go.Proofs.YtjpjdkdbgjipnaaDoor
open Go.ChangeShapes Go.WideShapes Go.ChangeAt Go.RowKit
theorem law_own : ownKnob Tryd.prog.godebug = none := by kernel_rfl
theorem law_laid : laidOutB Tryd.prog = true := by kernel_rfl
section
variable {H : Type} {enc : TypeId × Value → H} {P : Program}
theorem trodAll_below (hl : laidOutB P = true) {W W' : World} (hb : Below W.heap.size W W') :
  ∀ {ts : List TypeId} {vs : List Value} {ds : List (DataW H)} {ps : List MemPlace}, (ts.all fun t => P.readableRec t && decide (t < P.types.size)) = true →
   DataW.TrodAll enc P W 0 (fun _ => true) true ts vs ds ps → (∀ x ∈ ps, x.block < W.heap.size) → DataW.TrodAll enc P W' 0 (fun b => decide (b < W.heap.size)) true ts vs ds ps := by
 intro ts
 induction ts with
 | nil =>
  intro vs ds ps _ h _
  obtain ⟨rfl, rfl, rfl⟩ := trodAll_nil h
  rfl
 | cons t ts ih =>
  intro vs ds ps ht h hlt
  obtain ⟨v, vs', d, ds', p, q, rfl, rfl, rfl, h1, h2⟩ := trodAll_cons h
  simp only [List.all_cons, Bool.and_eq_true] at ht
  exact ⟨p, q, Below.trod hl ht.1.1 (of_decide_eq_true ht.1.2) h1 hb (fun x hx => hlt x (List.mem_append_left _ hx)), ih ht.2 h2 (fun x hx => hlt x (List.mem_append_right _ hx)), rfl⟩
theorem law_post {f : Func} {s : ChangeSpec} {tb : TypeId} {W W' : World} {args : Array Value} {ds gs : List (DataW H)} {before : List MemPlace} (hl : laidOutB P = true)
  (hr : (f.params.toList.all fun t => P.readableRec t && decide (t < P.types.size)) = true) (hres : f.resultTypes = #[tb]) (htb : P.underlying tb = some .bool) (hv : varsRowed P s.vars = true)
  (hW : DataW.Whole enc P f.params.toList s.vars false W args.toList ds gs before) (hfn : s.fn H (ds ++ gs) = { results := [.lit (.bool true)], args := ds, vars := gs }) (hb : Below W.heap.size W W') :
  s.post enc P f false true false false W args (.bool true) W' := by
 have hW' := hW
 obtain ⟨p, q, hA, hV, rfl, _, _⟩ := hW
 have hlt : ∀ x ∈ p ++ q, x.block < W.heap.size := fun x hx => hW'.lt x hx
 refine ⟨ds, gs, p ++ q, [], p, q, hW', ?_, ?_, ?_, World.keptBut_mono (fun x hx => ⟨hx, ?_⟩) (hb.frame (· ∈ p ++ q)), fun h => by cases h⟩
 ·rw [hfn, hres]
  exact trodAll_mk1 (shut_bool htb true)
 ·rw [hfn]
  exact trodAll_below hl hb hr hA (fun x hx => hlt x (List.mem_append_left _ hx))
 ·rw [hfn]
  exact Below.trodVars hl hb hv hV
 ·exact Or.inr (List.mem_append.1 hx)
end
theorem xsa {α : Type} (l : List α) (i : Nat) (a : α) : l.toArray.setIfInBounds i a = (l.set i a).toArray := by simp
theorem xsz {α : Type} (x : α) (l : List α) (a : α) : (x :: l).set 0 a = a :: l := rfl
theorem xss {α : Type} (x : α) (l : List α) (i : Nat) (a : α) : (x :: l).set (i + 1) a = x :: l.set i a := rfl
theorem xgs {α : Type} (x : α) (l : List α) (i : Nat) : (x :: l)[i + 1]? = l[i]? := by simp
theorem xmc {α β : Type} (f : α → β) (x : α) (l : List α) : (x :: l).map f = f x :: l.map f := rfl
theorem xmn {α β : Type} (f : α → β) : ([] : List α).map f = [] := rfl
theorem xgd {α : Type} (x d : α) : (some x).getD d = x := rfl
theorem xgz {α : Type} (x : α) (l : List α) : (x :: l)[0]? = some x := by simp
theorem xh {p : Prop} (h : p) : Hid p := h
theorem xn {α : Type} [BEq α] [LawfulBEq α] {a b : α} (h : a ≠ b) : (a == b) = false := beq_eq_false_iff_ne.2 h
theorem xb1 (b : Bool) : (b && true) = b := Bool.and_true b
theorem xb2 (b : Bool) : (true && b) = b := Bool.true_and b
theorem xb3 (b : Bool) : (b && false) = false := Bool.and_false b
theorem xb4 (b : Bool) : (false && b) = false := Bool.false_and b
theorem xb5 (b : Bool) : (b || true) = true := Bool.or_true b
theorem xb6 (b : Bool) : (true || b) = true := Bool.true_or b
theorem xb7 (b : Bool) : (b || false) = b := Bool.or_false b
theorem xb8 (b : Bool) : (false || b) = b := Bool.false_or b
theorem xb9 : (!true) = false := rfl
theorem xb0 : (!false) = true := rfl
def sc0 : List (Nat × Bool) := [(0, true), (1, true), (3, true), (4, true), (7, true), (8, true), (11, true), (12, true), (15, true), (16, true), (22, true), (23, true), (2, false), (5, false), (6, true), (9, false), (10, true), (13, false), (14, true), (17, true), (18, true), (19, true), (20, false), (21, true), (24, false), (25, true), (26, true)]
def sc1 : List (Nat × Bool) := [(0, true), (1, true), (2, true), (3, true), (4, true), (5, true), (6, true), (7, true), (8, true), (9, true), (10, true), (11, false), (12, false), (13, true), (14, true), (15, true)]
def sc2 : List (Nat × Bool) := [(0, true), (1, true), (2, true), (3, true), (4, true), (5, true), (6, true), (7, true), (8, true), (9, false), (10, true)]
def sc3 : List (Nat × Bool) := [(0, true), (1, true), (2, true), (3, true), (4, true), (5, true), (6, true), (7, true), (8, true), (9, true), (10, true), (11, false), (12, false), (13, true), (14, true), (15, true), (16, true), (17, true), (18, true), (19, true), (20, true), (21, true), (22, true), (23, true), (24, true), (25, true), (26, true), (27, true), (28, true), (29, true), (30, true), (31, true), (32, true), (33, true), (34, true), (35, true), (36, true), (37, true), (38, true), (39, true), (40, true), (41, true), (42, true), (43, true), (44, true), (45, true), (46, true), (47, false), (48, true), (49, true), (50, true)]
def sc4 : List (Nat × Bool) := [(0, true), (1, true), (2, true), (3, true), (4, true), (5, true), (6, true), (7, true), (8, true), (9, true), (10, true), (11, true), (12, true), (13, true), (14, true), (15, true)]
def sc5 : List (Nat × Bool) := [(0, true), (1, true), (2, true), (3, true), (4, true), (5, true), (6, true), (7, false), (8, true), (9, true), (10, true), (11, true), (12, true)]
def sc6 : List (Nat × Bool) := [(0, true), (1, true), (2, true), (3, true), (4, true), (5, true), (6, true), (7, true), (8, false), (9, true)]
end Go.Proofs.YtjpjdkdbgjipnaaDoor
namespace Go.Proofs.YtjpjdkdbgjipnaaDoor
open Go.ChangeShapes Go.WideShapes Go.ChangeAt Go.RowKit Go.Deep
theorem u8_info : (Tryd.prog.info? 5).map (fun i => (i.zero, i.size, i.bytes)) = some (some (.int .u8 0), 1, 1) := by kernel_rfl
def BytesAt (w : World) (A : Option Addr) (l : List Nat) : Prop :=
 l = [] ∨ ∃ b off, A = some ⟨b, off, none⟩ ∧ b < w.heap.size ∧ ∀ j c : Nat, l[j]? = some c → w.cell? ⟨b, off + j, none⟩ = some (.int .u8 (c : Int))
def bstr (l : List Nat) : ByteArray := strOfNums (l.map fun x : Nat => (x : Int))
theorem bstr_size (l : List Nat) : (bstr l).size = l.length := by simp [bstr, strOfNums_size]
theorem bstr_inj (a b : List Nat) (ha : ∀ x ∈ a, x < 256) (hb : ∀ x ∈ b, x < 256) (h : bstr a = bstr b) : a = b := by
 have h1 := congrArg (fun s : ByteArray => s.data.toList.map UInt8.toNat) h
 have key : ∀ l : List Nat, (∀ x ∈ l, x < 256) → (bstr l).data.toList.map UInt8.toNat = l := by
  intro l hl
  rw [bstr, strOfNums_data, List.map_map, List.map_map]
  conv => rhs; rw [← List.map_id l]
  refine List.map_congr_left fun x hx => ?_
  have := hl x hx
  simp
  omega
 simp only [key a ha, key b hb] at h1
 exact h1
theorem bstr_neq {a b : ByteArray} (h : a ≠ b) : (a.toList == b.toList) = false := by
 refine xn fun e => h ?_
 rw [ByteArray.toList_eq, ByteArray.toList_eq] at e
 have e' := Array.toList_inj.1 e
 cases a
 cases b
 simp only at e'
 rw [e']
theorem BytesAt.conv {w : World} {A : Option Addr} {l : List Nat} (h : BytesAt w A l) (c : Nat) :
  ∀ dst, Tryd.prog.underlying dst = some .string → (convert 88 dst (.slice A l.length c)).run Tryd.prog w = .ok (.string (bstr l)) w := by
 rcases h with rfl | ⟨b, off, rfl, _, hc⟩
 ·cases A with
  | none => exact run_convert_bytes_nil w 88 5 Tryd.underlying88 Tryd.underlying5 _ _
  | some a => exact fun dst hd => run_convert_bytes_back w 88 dst 5 a c [] Tryd.underlying88 Tryd.underlying5 hd (fun j hj => by simp at hj)
 ·refine run_convert_bytes_arg w 88 5 Tryd.underlying88 Tryd.underlying5 b off l.length c (l.map fun x : Nat => (x : Int)) (by simp) (fun i hi => ?_)
  rw [hc i l[i] (List.getElem?_eq_getElem hi)]
  simp [List.getD, hi]
def u8s (l : List Nat) : List Value := l.map fun x : Nat => .int .u8 (x : Int)
theorem u8s_append (a b : List Nat) : u8s (a ++ b) = u8s a ++ u8s b := by simp [u8s]
theorem BytesAt.lit {w : World} {cs : Array Value} {t : TypeId} {fr : Nat × Nat} {l : List Nat} {g : Nat} (hc : ∀ (j x : Nat), l[j]? = some x → cs[j]? = some (Value.int .u8 (x : Int))) (hg : g = w.heap.size) : BytesAt (w.alloc (.cells cs t fr)) (some ⟨g, 0, none⟩) l := by
 subst hg
 exact .inr ⟨w.heap.size, 0, rfl, by simp, fun j x hx => by rw [Nat.zero_add, cell_of_row _ _ _ cs t fr (heap_alloc_new w _), hc j x hx]⟩
theorem BytesAt.cell {w : World} {b off : Nat} {l : List Nat} (h : BytesAt w (some ⟨b, off, none⟩) l) {j : Nat} (hj : j < l.length) : w.cell? ⟨b, off + j, none⟩ = some (.int .u8 ((l[j] : Nat) : Int)) := by
 rcases h with rfl | ⟨b', off', e, _, hc⟩
 ·simp at hj
 ·injection e with e
  injection e with e1 e2 e3
  subst e1 e2
  exact hc j _ (List.getElem?_eq_getElem hj)
theorem BytesAt.of_own {w : World} {base : Nat} {A : Option Addr} {l : List Nat} {c n : Nat} (h : w.ownsRow base 5 1 (.slice A n c) n (u8s l)) (hn : n = l.length) : BytesAt w A l := by
 subst hn
 by_cases h0 : l.length = 0
 ·exact .inl (List.eq_nil_of_length_eq_zero h0)
 ·obtain ⟨g, cap, hv, _, hlt⟩ := h.form (by omega)
  injection hv with h1 h2 h3
  subst h1
  subst h3
  refine .inr ⟨g, 0, rfl, hlt, fun j x hx => ?_⟩
  have hj : j < l.length := (List.getElem?_eq_some_iff.1 hx).1
  rw [Nat.zero_add, h.cellAt j (by omega), u8s, List.getElem?_map, hx]
  rfl
section
variable {P : Program} (w : World)
end
def addrHigh (A : Option Addr) (c : Nat) : Option Addr := if c = 0 then A else A.map (·.add (0 * 1))
theorem elem_bytes : Tryd.prog.elem 88 = 5 := by kernel_rfl
theorem size_byte (w : World) : (sizeOf 5).run Tryd.prog w = .ok 1 w := by
 obtain ⟨i0, hi0, _, hz1, _⟩ := info_parts u8_info
 simp [sizeOf, typeInfo, hi0, hz1]
theorem slice_high (A : Option Addr) (n c k : Nat) (hk : k ≤ c) (w : World) : (Instr.slice 88 (.slice A n c) none (some (.int .i64 (k : Int))) none).run Tryd.prog w = .ok (.slice (addrHigh A c) k c) w := by
 rw [run_slice_h (P := Tryd.prog) (w := w) 88 A n c (by rw [elem_bytes]; exact Tryd.underlying88) .i64 (k : Int) (by omega) (by omega), elem_bytes, size_byte]
 simp [Result.andThen, sliced, addrHigh]
theorem own_slice {w : World} {base : Nat} {e : TypeId} {size : Nat} {v : Value} {n : Nat} {xs : List Value} (h : w.ownsRow base e size v n xs) : ∃ A c, v = .slice A n c := by
 rcases h.2 with ⟨rfl, rfl⟩ | ⟨g, cap, cur, rfl, _⟩
 ·exact ⟨none, 0, rfl⟩
 ·exact ⟨_, _, rfl⟩
end Go.Proofs.YtjpjdkdbgjipnaaDoor
