/- Whether a text is empty, as the walk asks it. No condition. (Merged of 11 texts.) -/
import Derived.Test.YtjpjdkdbgjipnaaGreatDoorRows
import Derived.WalkKit
import Derived.Lib.Hide
import Derived.ProofKit
import Derived.OpenShut
import Derived.OpenVars
import Derived.Laws.BytesArg
import Derived.Laws.IdiomStrings
import Derived.Deep.OwnRows
import Derived.Maps.AppendAt
import Derived.Deep.AppendLies
import Derived.Deep.Matrix
import Derived.Test.YtjpjdkdbgjipnaaGreatDoorU13
import Derived.WalkMore
namespace Go.Proofs.YtjpjdkdbgjipnaaGreatDoor
open Go.ChangeShapes Go.WideShapes Go.ChangeAt Go.RowKit
theorem law_own : ownKnob Tryz.prog.godebug = none := by kernel_rfl
theorem law_laid : laidOutB Tryz.prog = true := by kernel_rfl
section
variable {H : Type} {enc : TypeId × Value → H} {P : Program}
theorem trodAll_below (hl : laidOutB P = true) {W W' : World} (hb : Below W.heap.size W W') :
  ∀ {ts : List TypeId} {vs : List Value} {ds : List (DataW H)} {ps : List MemPlace}, (ts.all fun t => P.readableRec t && decide (t < P.types.size)) = true →
   DataW.TrodAll enc P W 0 (fun _ => true) true ts vs ds ps → (∀ x ∈ ps, x.block < W.heap.size) → DataW.TrodAll enc P W' 0 (fun b => decide (b < W.heap.size)) true ts vs ds ps := by
 intro ts
 induction ts with
 | nil =>
  intro vs ds ps _ h _
  obtain ⟨rfl, rfl, rfl⟩ := trodAll_nil h
  rfl
 | cons t ts ih =>
  intro vs ds ps ht h hlt
  obtain ⟨v, vs', d, ds', p, q, rfl, rfl, rfl, h1, h2⟩ := trodAll_cons h
  simp only [List.all_cons, Bool.and_eq_true] at ht
  exact ⟨p, q, Below.trod hl ht.1.1 (of_decide_eq_true ht.1.2) h1 hb (fun x hx => hlt x (List.mem_append_left _ hx)), ih ht.2 h2 (fun x hx => hlt x (List.mem_append_right _ hx)), rfl⟩
theorem law_post {f : Func} {s : ChangeSpec} {tb : TypeId} {W W' : World} {args : Array Value} {ds gs : List (DataW H)} {before : List MemPlace} (hl : laidOutB P = true)
  (hr : (f.params.toList.all fun t => P.readableRec t && decide (t < P.types.size)) = true) (hres : f.resultTypes = #[tb]) (htb : P.underlying tb = some .bool) (hv : varsRowed P s.vars = true)
  (hW : DataW.Whole enc P f.params.toList s.vars false W args.toList ds gs before) (hfn : s.fn H (ds ++ gs) = { results := [.lit (.bool true)], args := ds, vars := gs }) (hb : Below W.heap.size W W') :
  s.post enc P f false true false false W args (.bool true) W' := by
 have hW' := hW
 obtain ⟨p, q, hA, hV, rfl, _, _⟩ := hW
 have hlt : ∀ x ∈ p ++ q, x.block < W.heap.size := fun x hx => hW'.lt x hx
 refine ⟨ds, gs, p ++ q, [], p, q, hW', ?_, ?_, ?_, World.keptBut_mono (fun x hx => ⟨hx, ?_⟩) (hb.frame (· ∈ p ++ q)), fun h => by cases h⟩
 ·rw [hfn, hres]
  exact trodAll_mk1 (shut_bool htb true)
 ·rw [hfn]
  exact trodAll_below hl hb hr hA (fun x hx => hlt x (List.mem_append_left _ hx))
 ·rw [hfn]
  exact Below.trodVars hl hb hv hV
 ·exact Or.inr (List.mem_append.1 hx)
end
theorem xsa {α : Type} (l : List α) (i : Nat) (a : α) : l.toArray.setIfInBounds i a = (l.set i a).toArray := by simp
theorem xsz {α : Type} (x : α) (l : List α) (a : α) : (x :: l).set 0 a = a :: l := rfl
theorem xss {α : Type} (x : α) (l : List α) (i : Nat) (a : α) : (x :: l).set (i + 1) a = x :: l.set i a := rfl
theorem xgs {α : Type} (x : α) (l : List α) (i : Nat) : (x :: l)[i + 1]? = l[i]? := by simp
theorem xmc {α β : Type} (f : α → β) (x : α) (l : List α) : (x :: l).map f = f x :: l.map f := rfl
theorem xmn {α β : Type} (f : α → β) : ([] : List α).map f = [] := rfl
theorem xgd {α : Type} (x d : α) : (some x).getD d = x := rfl
theorem xgz {α : Type} (x : α) (l : List α) : (x :: l)[0]? = some x := by simp
theorem xh {p : Prop} (h : p) : Hid p := h
theorem xn {α : Type} [BEq α] [LawfulBEq α] {a b : α} (h : a ≠ b) : (a == b) = false := beq_eq_false_iff_ne.2 h
theorem xb1 (b : Bool) : (b && true) = b := Bool.and_true b
theorem xb2 (b : Bool) : (true && b) = b := Bool.true_and b
theorem xb3 (b : Bool) : (b && false) = false := Bool.and_false b
theorem xb4 (b : Bool) : (false && b) = false := Bool.false_and b
theorem xb5 (b : Bool) : (b || true) = true := Bool.or_true b
theorem xb6 (b : Bool) : (true || b) = true := Bool.true_or b
theorem xb7 (b : Bool) : (b || false) = b := Bool.or_false b
theorem xb8 (b : Bool) : (false || b) = b := Bool.false_or b
theorem xb9 : (!true) = false := rfl
theorem xb0 : (!false) = true := rfl
def sc0 : List (Nat × Bool) := [(0, true), (1, true), (2, true), (3, true), (4, true), (5, true), (6, true), (7, true), (8, true), (9, true), (10, true), (11, true), (12, true), (13, false), (14, false), (15, false), (16, true)]
def sc1 : List (Nat × Bool) := [(0, true), (1, true), (3, true), (4, true), (7, true), (8, true), (11, true), (12, true), (15, true), (16, true), (22, true), (23, true), (2, false), (5, false), (6, true), (9, false), (10, true), (13, false), (14, true), (17, true), (18, true), (19, true), (20, false), (21, true), (24, false), (25, true), (26, true)]
def sc2 : List (Nat × Bool) := [(0, true), (1, true), (2, true), (3, true), (4, true), (5, true), (6, true), (7, true), (8, true), (9, true), (10, true), (11, false), (12, false), (13, true), (14, true), (15, true)]
def sc3 : List (Nat × Bool) := [(0, true), (1, true), (2, true), (3, true), (4, true), (5, true), (6, true), (7, true), (8, true), (9, false), (10, true)]
def sc4 : List (Nat × Bool) := [(0, true), (1, true), (2, true), (3, true), (4, true), (5, true), (6, true), (7, true), (8, true), (9, true), (10, true), (11, true), (12, true), (13, true), (14, true), (15, true), (16, true), (17, true), (18, true), (19, true), (20, true), (21, true), (22, true), (23, true), (24, true), (25, true), (26, true), (27, true)]
def sc5 : List (Nat × Bool) := [(0, true), (1, true), (2, true), (3, true), (4, true), (5, true), (6, true), (7, true), (8, true), (9, true), (10, false), (11, true), (12, true), (13, true), (14, true), (15, true)]
def sc6 : List (Nat × Bool) := [(0, true), (1, true), (2, true), (3, true), (4, true), (5, true), (6, true), (7, true), (8, true), (9, true), (10, true), (11, false), (12, false), (13, true), (14, true), (15, true), (16, true), (17, true), (18, true), (19, true), (20, true), (21, true), (22, true), (23, true), (24, true), (25, true), (26, true), (27, true), (28, true), (29, true), (30, true), (31, true), (32, true), (33, true), (34, true), (35, true), (36, true), (37, true), (38, true), (39, true), (40, true), (41, true), (42, true), (43, true), (44, true), (45, true), (46, true), (47, false), (48, true), (49, true), (50, true)]
def sc7 : List (Nat × Bool) := [(0, true), (1, true), (2, true), (3, true), (4, true), (5, true), (6, true), (7, true), (8, true), (9, true), (10, true), (11, true), (12, true), (13, true), (14, true), (15, true)]
def sc8 : List (Nat × Bool) := [(0, true), (1, true), (2, true), (3, true), (4, true), (5, true), (6, true), (7, false), (8, true), (9, true), (10, true), (11, true), (12, true)]
def sc9 : List (Nat × Bool) := [(0, true), (1, true), (2, true), (3, true), (4, true), (5, true), (6, true), (7, true), (8, true), (9, true), (10, true), (11, true), (12, true), (13, true), (14, true)]
def sc10 : List (Nat × Bool) := [(0, true), (1, true), (2, true), (3, true), (4, true), (5, true), (6, true), (7, true), (8, true), (9, true)]
def sc11 : List (Nat × Bool) := [(0, true), (1, true), (2, true), (4, true), (5, true), (6, true), (3, false), (7, false), (8, false), (9, false), (10, true)]
def sc12 : List (Nat × Bool) := [(0, true), (1, true), (2, true), (3, true), (4, true), (5, true), (6, true), (7, true), (8, true), (9, true), (10, true), (11, true), (12, false), (13, false), (14, false), (15, true)]
def sc13 : List (Nat × Bool) := [(0, true), (1, true), (2, true), (3, true), (4, true), (5, true), (6, true), (7, true), (8, false), (9, true)]
def sc14 : List (Nat × Bool) := [(0, true), (1, true), (2, false), (3, true), (4, true), (6, true), (5, false), (7, false), (8, true), (9, true), (10, true), (11, true), (12, true), (13, true), (14, true), (15, true), (16, true), (17, false), (18, true), (19, true), (20, true), (21, true), (22, true), (23, true), (24, true), (25, true), (26, true), (29, true), (30, true), (27, false), (28, false), (31, false), (32, true), (33, true), (34, true), (35, false), (36, true), (37, true)]
end Go.Proofs.YtjpjdkdbgjipnaaGreatDoor
namespace Go.Proofs.YtjpjdkdbgjipnaaGreatDoor
open Go.ChangeShapes Go.WideShapes Go.ChangeAt Go.RowKit Go.Deep
theorem u8_info : (Tryz.prog.info? 5).map (fun i => (i.zero, i.size, i.bytes)) = some (some (.int .u8 0), 1, 1) := by kernel_rfl
def BytesAt (w : World) (A : Option Addr) (l : List Nat) : Prop :=
 l = [] ∨ ∃ b off, A = some ⟨b, off, none⟩ ∧ b < w.heap.size ∧ ∀ j c : Nat, l[j]? = some c → w.cell? ⟨b, off + j, none⟩ = some (.int .u8 (c : Int))
def bstr (l : List Nat) : ByteArray := strOfNums (l.map fun x : Nat => (x : Int))
theorem bstr_size (l : List Nat) : (bstr l).size = l.length := by simp [bstr, strOfNums_size]
theorem bstr_inj (a b : List Nat) (ha : ∀ x ∈ a, x < 256) (hb : ∀ x ∈ b, x < 256) (h : bstr a = bstr b) : a = b := by
 have h1 := congrArg (fun s : ByteArray => s.data.toList.map UInt8.toNat) h
 have key : ∀ l : List Nat, (∀ x ∈ l, x < 256) → (bstr l).data.toList.map UInt8.toNat = l := by
  intro l hl
  rw [bstr, strOfNums_data, List.map_map, List.map_map]
  conv => rhs; rw [← List.map_id l]
  refine List.map_congr_left fun x hx => ?_
  have := hl x hx
  simp
  omega
 simp only [key a ha, key b hb] at h1
 exact h1
theorem bstr_neq {a b : ByteArray} (h : a ≠ b) : (a.toList == b.toList) = false := by
 refine xn fun e => h ?_
 rw [ByteArray.toList_eq, ByteArray.toList_eq] at e
 have e' := Array.toList_inj.1 e
 cases a
 cases b
 simp only at e'
 rw [e']
theorem BytesAt.conv {w : World} {A : Option Addr} {l : List Nat} (h : BytesAt w A l) (c : Nat) :
  ∀ dst, Tryz.prog.underlying dst = some .string → (convert 120 dst (.slice A l.length c)).run Tryz.prog w = .ok (.string (bstr l)) w := by
 rcases h with rfl | ⟨b, off, rfl, _, hc⟩
 ·cases A with
  | none => exact run_convert_bytes_nil w 120 5 Tryz.underlying120 Tryz.underlying5 _ _
  | some a => exact fun dst hd => run_convert_bytes_back w 120 dst 5 a c [] Tryz.underlying120 Tryz.underlying5 hd (fun j hj => by simp at hj)
 ·refine run_convert_bytes_arg w 120 5 Tryz.underlying120 Tryz.underlying5 b off l.length c (l.map fun x : Nat => (x : Int)) (by simp) (fun i hi => ?_)
  rw [hc i l[i] (List.getElem?_eq_getElem hi)]
  simp [List.getD, hi]
def u8s (l : List Nat) : List Value := l.map fun x : Nat => .int .u8 (x : Int)
theorem u8s_append (a b : List Nat) : u8s (a ++ b) = u8s a ++ u8s b := by simp [u8s]
theorem bstep {w x y : World} (h : Below w.heap.size w x) (h2 : Below x.heap.size x y) : Below w.heap.size w y := h.trans (h2.mono h.size)
theorem balloc {w x : World} (h : Below w.heap.size w x) (o : Obj) : Below w.heap.size w (x.alloc o) := h.alloc h.size o
theorem BytesAt.lit {w : World} {cs : Array Value} {t : TypeId} {fr : Nat × Nat} {l : List Nat} {g : Nat} (hc : ∀ (j x : Nat), l[j]? = some x → cs[j]? = some (Value.int .u8 (x : Int))) (hg : g = w.heap.size) : BytesAt (w.alloc (.cells cs t fr)) (some ⟨g, 0, none⟩) l := by
 subst hg
 exact .inr ⟨w.heap.size, 0, rfl, by simp, fun j x hx => by rw [Nat.zero_add, cell_of_row _ _ _ cs t fr (heap_alloc_new w _), hc j x hx]⟩
theorem BytesAt.cell {w : World} {b off : Nat} {l : List Nat} (h : BytesAt w (some ⟨b, off, none⟩) l) {j : Nat} (hj : j < l.length) : w.cell? ⟨b, off + j, none⟩ = some (.int .u8 ((l[j] : Nat) : Int)) := by
 rcases h with rfl | ⟨b', off', e, _, hc⟩
 ·simp at hj
 ·injection e with e
  injection e with e1 e2 e3
  subst e1 e2
  exact hc j _ (List.getElem?_eq_getElem hj)
theorem BytesAt.of_own {w : World} {base : Nat} {A : Option Addr} {l : List Nat} {c n : Nat} (h : w.ownsRow base 5 1 (.slice A n c) n (u8s l)) (hn : n = l.length) : BytesAt w A l := by
 subst hn
 by_cases h0 : l.length = 0
 ·exact .inl (List.eq_nil_of_length_eq_zero h0)
 ·obtain ⟨g, cap, hv, _, hlt⟩ := h.form (by omega)
  injection hv with h1 h2 h3
  subst h1
  subst h3
  refine .inr ⟨g, 0, rfl, hlt, fun j x hx => ?_⟩
  have hj : j < l.length := (List.getElem?_eq_some_iff.1 hx).1
  rw [Nat.zero_add, h.cellAt j (by omega), u8s, List.getElem?_map, hx]
  rfl
section
variable {P : Program} (w : World)
end
def addrHigh (A : Option Addr) (c : Nat) : Option Addr := if c = 0 then A else A.map (·.add (0 * 1))
theorem elem_bytes : Tryz.prog.elem 120 = 5 := by kernel_rfl
theorem size_byte (w : World) : (sizeOf 5).run Tryz.prog w = .ok 1 w := by
 obtain ⟨i0, hi0, _, hz1, _⟩ := info_parts u8_info
 simp [sizeOf, typeInfo, hi0, hz1]
theorem slice_high (A : Option Addr) (n c k : Nat) (hk : k ≤ c) (w : World) : (Instr.slice 120 (.slice A n c) none (some (.int .i64 (k : Int))) none).run Tryz.prog w = .ok (.slice (addrHigh A c) k c) w := by
 rw [run_slice_h (P := Tryz.prog) (w := w) 120 A n c (by rw [elem_bytes]; exact Tryz.underlying120) .i64 (k : Int) (by omega) (by omega), elem_bytes, size_byte]
 simp [Result.andThen, sliced, addrHigh]
theorem own_slice {w : World} {base : Nat} {e : TypeId} {size : Nat} {v : Value} {n : Nat} {xs : List Value} (h : w.ownsRow base e size v n xs) : ∃ A c, v = .slice A n c := by
 rcases h.2 with ⟨rfl, rfl⟩ | ⟨g, cap, cur, rfl, _⟩
 ·exact ⟨none, 0, rfl⟩
 ·exact ⟨_, _, rfl⟩
theorem yy659 : (Tryz.prog.info? 3).map (fun i => (i.zero, i.size, i.bytes)) = some (some (.int .i64 0), 1, 8) := by kernel_rfl
def IntsAt (w : World) (A : Option Addr) (l : List Int) : Prop :=
 l = [] ∨ ∃ b off, A = some ⟨b, off, none⟩ ∧ b < w.heap.size ∧ ∀ (j : Nat) (c : Int), l[j]? = some c → w.cell? ⟨b, off + j, none⟩ = some (.int .i64 c)
def is64 (l : List Int) : List Value := l.map fun x => .int .i64 x
theorem yy430 (a b : List Int) : is64 (a ++ b) = is64 a ++ is64 b := by simp [is64]
theorem IntsAt.of_own {w : World} {base : Nat} {A : Option Addr} {l : List Int} {c n : Nat} (h : w.ownsRow base 3 1 (.slice A n c) n (is64 l)) (hn : n = l.length) : IntsAt w A l := by
 subst hn
 by_cases h0 : l.length = 0
 ·exact .inl (List.eq_nil_of_length_eq_zero h0)
 ·obtain ⟨g, cap, hv, _, hlt⟩ := h.form (by omega)
  injection hv with h1 h2 h3
  subst h1
  subst h3
  refine .inr ⟨g, 0, rfl, hlt, fun j x hx => ?_⟩
  have hj : j < l.length := (List.getElem?_eq_some_iff.1 hx).1
  rw [Nat.zero_add, h.cellAt j (by omega), is64, List.getElem?_map, hx]
  rfl
end Go.Proofs.YtjpjdkdbgjipnaaGreatDoor
namespace Go.Proofs.YtjpjdkdbgjipnaaGreatDoor
def May (v : Nat) : Prop := 0 < v ∧ v ≤ 1114111 ∧ (v < 55296 ∨ 57343 < v)
instance (v : Nat) : Decidable (May v) := by unfold May; infer_instance
theorem May.le {v : Nat} (h : May v) : v ≤ 1114111 := h.2.1
def enc (v : Nat) : List Nat :=
 if v < 128 then [v] else if v < 2048 then [192 + v / 64, 128 + v % 64] else if v < 65536 then [224 + v / 4096, 128 + v / 64 % 64, 128 + v % 64]
 else [240 + v / 262144, 128 + v / 4096 % 64, 128 + v / 64 % 64, 128 + v % 64]
def E (vs : List Nat) : List Nat := vs.flatMap enc
theorem E_nil : E [] = [] := rfl
theorem E_cons (v : Nat) (vs : List Nat) : E (v :: vs) = enc v ++ E vs := by simp [E]
theorem yy207 (a b : List Nat) : E (a ++ b) = E a ++ E b := by simp [E]
theorem E_snoc (a : List Nat) (v : Nat) : E (a ++ [v]) = E a ++ enc v := by simp [E]
theorem yy140 (v : Nat) : (enc v).length = if v < 128 then 1 else if v < 2048 then 2 else if v < 65536 then 3 else 4 := by
 unfold enc; split <;> (try split) <;> (try split) <;> rfl
theorem yy294 (v : Nat) : 0 < (enc v).length := by rw [yy140]; split <;> (try split) <;> (try split) <;> omega
theorem enc_le (v : Nat) : (enc v).length ≤ 4 := by rw [yy140]; split <;> (try split) <;> (try split) <;> omega
theorem enc_lt {v : Nat} (h : v ≤ 1114111) : ∀ x ∈ enc v, x < 256 := by
 intro x hx
 unfold enc at hx
 split at hx <;> (try split at hx) <;> (try split at hx) <;> simp at hx <;> omega
def fur : Nat → Nat → Nat → List Nat → Option (Nat × List Nat)
 | 0, p, least, t => if p < least ∨ ¬ May p then none else some (p, t)
 | _ + 1, _, _, [] => none
 | n + 1, p, least, d :: t => if d / 64 = 2 then fur n (p * 64 + d % 64) least t else none
def st : List Nat → Option (Nat × List Nat)
 | [] => none
 | c :: t => if c < 128 then fur 0 c 0 t else if c < 192 then none else if c < 224 then fur 1 (c % 32) 128 t else if c < 240 then fur 2 (c % 16) 2048 t else if c < 248 then fur 3 (c % 8) 65536 t else none
theorem yy45 (p least : Nat) (t : List Nat) : fur 0 p least t = if p < least ∨ ¬ May p then none else some (p, t) := by cases t <;> rfl
theorem yy244 (n p least : Nat) : fur (n + 1) p least [] = none := rfl
theorem yy61 (n p least d : Nat) (t : List Nat) : fur (n + 1) p least (d :: t) = if d / 64 = 2 then fur n (p * 64 + d % 64) least t else none := rfl
theorem yy47 (c : Nat) (t : List Nat) : st (c :: t) = if c < 128 then fur 0 c 0 t else if c < 192 then none else if c < 224 then fur 1 (c % 32) 128 t else if c < 240 then fur 2 (c % 16) 2048 t else if c < 248 then fur 3 (c % 8) 65536 t else none := rfl
theorem yy208 : ∀ (n p least : Nat) (t : List Nat) (v : Nat) (r : List Nat), fur n p least t = some (v, r) → ∃ ds : List Nat, ds.length = n ∧ t = ds ++ r ∧ (∀ d ∈ ds, d / 64 = 2) ∧ v = ds.foldl (fun a d => a * 64 + d % 64) p ∧ least ≤ v ∧ May v := by
 intro n
 induction n with
 | zero =>
  intro p least t v r h
  rw [yy45] at h
  split at h
  ·cases h
  ·rename_i hn
   injection h with h
   injection h with h1 h2
   subst h1 h2
   refine ⟨[], rfl, rfl, by simp, rfl, by omega, ?_⟩
   by_cases hm : May p
   ·exact hm
   ·exact absurd (Or.inr hm) hn
 | succ n ih =>
  intro p least t v r h
  cases t with
  | nil => rw [yy244] at h; cases h
  | cons d t =>
   rw [yy61] at h
   split at h
   ·rename_i hd
    obtain ⟨ds, h1, h2, h3, h4, h5, h6⟩ := ih _ _ _ _ _ h
    refine ⟨d :: ds, by simp [h1], by simp [h2], ?_, by simpa using h4, h5, h6⟩
    intro x hx
    rcases List.mem_cons.1 hx with rfl | hx
    ·exact hd
    ·exact h3 x hx
   ·cases h
theorem yy141 {l : List Nat} {v : Nat} {r : List Nat} (h : st l = some (v, r)) : May v ∧ l = enc v ++ r := by
 cases l with
 | nil => cases h
 | cons c t =>
  rw [yy47] at h
  split at h
  ·rw [yy45] at h
   split at h
   ·cases h
   ·rename_i hc hn
    injection h with h
    injection h with h1 h2
    subst h1 h2
    refine ⟨?_, by unfold enc; rw [if_pos hc]; rfl⟩
    by_cases hm : May c
    ·exact hm
    ·exact absurd (Or.inr hm) hn
  split at h
  ·cases h
  split at h
  ·obtain ⟨ds, h1, h2, h3, h4, h5, h6⟩ := yy208 _ _ _ _ _ _ h
   match ds, h1 with
   | [d], _ =>
    have hd := h3 d (by simp)
    simp only [List.foldl_cons, List.foldl_nil] at h4
    refine ⟨h6, ?_⟩
    rw [h2, enc, if_neg (by omega), if_pos (by omega)]
    simp only [List.cons_append, List.nil_append, List.cons.injEq, and_true]
    omega
  split at h
  ·obtain ⟨ds, h1, h2, h3, h4, h5, h6⟩ := yy208 _ _ _ _ _ _ h
   match ds, h1 with
   | [d, e], _ =>
    have hd := h3 d (by simp)
    have he := h3 e (by simp)
    simp only [List.foldl_cons, List.foldl_nil] at h4
    refine ⟨h6, ?_⟩
    rw [h2, enc, if_neg (by omega), if_neg (by omega), if_pos (by omega)]
    simp only [List.cons_append, List.nil_append, List.cons.injEq, and_true]
    omega
  split at h
  ·obtain ⟨ds, h1, h2, h3, h4, h5, h6⟩ := yy208 _ _ _ _ _ _ h
   match ds, h1 with
   | [d, e, f], _ =>
    have hd := h3 d (by simp)
    have he := h3 e (by simp)
    have hf := h3 f (by simp)
    simp only [List.foldl_cons, List.foldl_nil] at h4
    refine ⟨h6, ?_⟩
    rw [h2, enc, if_neg (by omega), if_neg (by omega), if_neg (by omega)]
    simp only [List.cons_append, List.nil_append, List.cons.injEq, and_true]
    omega
  ·cases h
theorem fur_ok {v least : Nat} (h : May v) (hl : least ≤ v) : ¬ (v < least ∨ ¬ May v) := fun hh => hh.elim (fun h1 => by omega) (fun h1 => h1 h)
theorem st_enc {v : Nat} (h : May v) (r : List Nat) : st (enc v ++ r) = some (v, r) := by
 have h1 := h.1
 have h2 := h.2.1
 unfold enc
 split
 ·simp only [List.cons_append, List.nil_append]
  rw [yy47, if_pos (by omega), yy45, if_neg (fur_ok h (by omega))]
 split
 ·simp only [List.cons_append, List.nil_append]
  rw [yy47, if_neg (by omega), if_neg (by omega), if_pos (by omega), yy61, if_pos (by omega), show (192 + v / 64) % 32 * 64 + (128 + v % 64) % 64 = v by omega, yy45, if_neg (fur_ok h (by omega))]
 split
 ·simp only [List.cons_append, List.nil_append]
  rw [yy47, if_neg (by omega), if_neg (by omega), if_neg (by omega), if_pos (by omega), yy61, if_pos (by omega), yy61, if_pos (by omega),
   show ((224 + v / 4096) % 16 * 64 + (128 + v / 64 % 64) % 64) * 64 + (128 + v % 64) % 64 = v by omega, yy45, if_neg (fur_ok h (by omega))]
 ·simp only [List.cons_append, List.nil_append]
  rw [yy47, if_neg (by omega), if_neg (by omega), if_neg (by omega), if_neg (by omega), if_pos (by omega), yy61, if_pos (by omega), yy61, if_pos (by omega), yy61, if_pos (by omega),
   show (((240 + v / 262144) % 8 * 64 + (128 + v / 4096 % 64) % 64) * 64 + (128 + v / 64 % 64) % 64) * 64 + (128 + v % 64) % 64 = v by omega, yy45, if_neg (fur_ok h (by omega))]
def V (l vs : List Nat) : Prop := (∀ v ∈ vs, May v) ∧ E vs = l
theorem V.may {l vs : List Nat} (h : V l vs) : ∀ v ∈ vs, May v := h.1
theorem V.bytes {l vs : List Nat} (h : V l vs) : E vs = l := h.2
theorem E_lt {vs : List Nat} (h : ∀ v ∈ vs, May v) : ∀ x ∈ E vs, x < 256 := by
 intro x hx
 obtain ⟨v, hv, hx⟩ := List.mem_flatMap.1 hx
 exact enc_lt (h v hv).le x hx
theorem E_pos {v : Nat} {vs : List Nat} : 0 < (E (v :: vs)).length := by rw [E_cons, List.length_append]; have := yy294 v; omega
theorem E_part : ∀ (vs ws r : List Nat), (∀ v ∈ vs, May v) → (∀ v ∈ ws, May v) → E ws = E vs ++ r → ∃ ws', ws = vs ++ ws' ∧ E ws' = r := by
 intro vs
 induction vs with
 | nil => intro ws r _ _ h; exact ⟨ws, rfl, by simpa [E_nil] using h⟩
 | cons v vs ih =>
  intro ws r hv hw h
  cases ws with
  | nil =>
   have := congrArg List.length h
   rw [E_nil, List.length_append] at this
   have h2 := E_pos (v := v) (vs := vs)
   simp at this
   omega
  | cons w ws =>
   rw [E_cons, E_cons, List.append_assoc] at h
   have h1 := congrArg st h
   rw [st_enc (hw w (by simp)), st_enc (hv v (by simp))] at h1
   injection h1 with h1
   injection h1 with h1 h2
   subst h1
   obtain ⟨ws', h3, h4⟩ := ih ws r (fun x hx => hv x (by simp [hx])) (fun x hx => hw x (by simp [hx])) h2
   exact ⟨ws', by rw [h3]; rfl, h4⟩
theorem V.uniq {l vs ws : List Nat} (h1 : V l vs) (h2 : V l ws) : vs = ws := by
 obtain ⟨ws', h3, h4⟩ := E_part vs ws [] h1.1 h2.1 (by rw [h1.2, h2.2]; simp)
 cases ws' with
 | nil => rw [h3]; simp
 | cons w ws' => have := E_pos (v := w) (vs := ws'); rw [h4] at this; simp at this
theorem V.nil : V [] [] := ⟨by simp, rfl⟩
theorem V.mk {vs : List Nat} (h : ∀ v ∈ vs, May v) : V (E vs) vs := ⟨h, rfl⟩
theorem yy68 {vs r : List Nat} (hv : ∀ v ∈ vs, May v) (hr : r ≠ []) (hs : st r = none) : ¬ ∃ ws, V (E vs ++ r) ws := by
 rintro ⟨ws, hw, he⟩
 obtain ⟨ws', h1, h2⟩ := E_part vs ws r hv hw he
 cases ws' with
 | nil => exact hr h2.symm
 | cons w ws' =>
  rw [E_cons] at h2
  rw [← h2, st_enc (hw w (by rw [h1]; simp))] at hs
  cases hs
theorem yy295 (vs : List Nat) (a b : Nat) (h : a ≤ b) : (E (vs.take a)).length ≤ (E (vs.take b)).length := by
 have : vs.take b = vs.take a ++ (vs.take b).drop a := by
  conv => lhs; rw [← List.take_append_drop a (vs.take b), List.take_take, Nat.min_eq_left h]
 rw [this, yy207, List.length_append]
 omega
theorem yy722 (vs : List Nat) (a b : Nat) (h : a ≤ b) : ((E vs).take (E (vs.take b)).length).drop (E (vs.take a)).length = E ((vs.take b).drop a) := by
 have h1 : E vs = E (vs.take b) ++ E (vs.drop b) := by rw [← yy207, List.take_append_drop]
 have h2 : E (vs.take b) = E (vs.take a) ++ E ((vs.take b).drop a) := by
  rw [← yy207]
  conv => lhs; rw [← List.take_append_drop a (vs.take b), List.take_take, Nat.min_eq_left h]
 rw [h1, List.take_left' rfl, h2, List.drop_left' rfl]
theorem yy164 (vs : List Nat) : vs.length ≤ (E vs).length := by
 induction vs with
 | nil => simp
 | cons v vs ih => rw [E_cons, List.length_append, List.length_cons]; have := yy294 v; omega
attribute [irreducible] E enc st fur
end Go.Proofs.YtjpjdkdbgjipnaaGreatDoor
namespace Go.Proofs.YtjpjdkdbgjipnaaGreatDoor
open Go.RowKit
set_option maxRecDepth 100000 in
theorem yy494 (n : Int) (h : 0 < n ∧ n ≤ 1114111 ∧ (n < 55296 ∨ 57343 < n)) (w : World) :
  Calls Tryz.prog 106 #[.int .i64 n] w fun e w' => e = .returned (.bool true) ∧ w = w' := by
 obtain ⟨h1, h2, h3⟩ := h
 have H3 := xh h3; clear h3
 by_cases hs : (55296 ≤ n)
 ·have hs2 : ¬ n ≤ 57343 := by have := H3.out; omega
  go_enter Tryz.func106, Tryz.ntmps106
  go_wp2
  go_ret
  exact ⟨rfl, rfl⟩
 ·go_enter Tryz.func106, Tryz.ntmps106
  go_wp2
  go_ret
  exact ⟨rfl, rfl⟩
set_option maxRecDepth 100000 in
theorem yy578 (n : Int) (h : n ≤ 0 ∨ 1114111 < n ∨ (55296 ≤ n ∧ n ≤ 57343)) (w : World) :
  Calls Tryz.prog 106 #[.int .i64 n] w fun e w' => e = .returned (.bool false) ∧ w = w' := by
 have H3 := xh h; clear h
 by_cases h1 : 0 < n
 ·by_cases h2 : n ≤ 1114111
  ·have hs : 55296 ≤ n := by have := H3.out; omega
   have hs2 : n ≤ 57343 := by have := H3.out; omega
   go_enter Tryz.func106, Tryz.ntmps106
   go_wp2
   go_ret
   exact ⟨rfl, rfl⟩
  ·have hs : 55296 ≤ n := by omega
   have hs2 : ¬ n ≤ 57343 := by omega
   go_enter Tryz.func106, Tryz.ntmps106
   go_wp2
   go_ret
   exact ⟨rfl, rfl⟩
 ·have hs : ¬ 55296 ≤ n := by omega
  go_enter Tryz.func106, Tryz.ntmps106
  go_wp2
  go_ret
  exact ⟨rfl, rfl⟩
theorem yy495 {v : Nat} (h : May v) (w : World) : Calls Tryz.prog 106 #[.int .i64 (v : Int)] w fun e w' => e = .returned (.bool true) ∧ w = w' :=
 yy494 v (by obtain ⟨h1, h2, h3⟩ := h; omega) w
theorem yy496 {v : Nat} (h : ¬ May v) (w : World) : Calls Tryz.prog 106 #[.int .i64 (v : Int)] w fun e w' => e = .returned (.bool false) ∧ w = w' :=
 yy578 v (by unfold May at h; omega) w
def Fr (a : Act) (s sh : Value) (at_ : Nat) (p le lf : Value) : Prop :=
 a.defers = [] ∧ a.tmps.size = 82 ∧ a.tmps[0]? = some s ∧ a.tmps[1]? = some sh ∧ a.tmps[5]? = some (.int .i64 (at_ : Int)) ∧ a.tmps[6]? = some p ∧ a.tmps[7]? = some le ∧ a.tmps[8]? = some lf
theorem Fr.out {a : Act} {s sh : Value} {at_ : Nat} {p le lf : Value} (h : Fr a s sh at_ p le lf) : ∃ f : Nat → Value, a = { tmps := #[s, sh, f 2, f 3, f 4, .int .i64 (at_ : Int), p, le, lf, f 9, f 10, f 11, f 12, f 13, f 14, f 15, f 16, f 17, f 18, f 19, f 20, f 21, f 22, f 23, f 24, f 25, f 26, f 27, f 28, f 29, f 30, f 31, f 32, f 33, f 34, f 35, f 36, f 37, f 38, f 39, f 40, f 41, f 42, f 43, f 44, f 45, f 46, f 47, f 48, f 49, f 50, f 51, f 52, f 53, f 54, f 55, f 56, f 57, f 58, f 59, f 60, f 61, f 62, f 63, f 64, f 65, f 66, f 67, f 68, f 69, f 70, f 71, f 72, f 73, f 74, f 75, f 76, f 77, f 78, f 79, f 80, f 81], defers := [] } := by
 obtain ⟨t, d⟩ := a
 obtain ⟨rfl, hs, h0, h1, h5, h6, h7, h8⟩ := h
 simp only at hs h0 h1 h5 h6 h7 h8
 refine ⟨fun n => (t[n]?).getD undef, ?_⟩
 have e : t = ((List.range 82).map fun i => (t[i]?).getD undef).toArray := by
  apply Array.ext
  ·simp [hs]
  ·intro i h1 h2
   simp [h1]
 have e2 : ((List.range 82).map fun i => (t[i]?).getD undef).toArray = #[(t[0]?).getD undef, (t[1]?).getD undef, (t[2]?).getD undef, (t[3]?).getD undef, (t[4]?).getD undef, (t[5]?).getD undef, (t[6]?).getD undef, (t[7]?).getD undef, (t[8]?).getD undef, (t[9]?).getD undef, (t[10]?).getD undef, (t[11]?).getD undef, (t[12]?).getD undef, (t[13]?).getD undef, (t[14]?).getD undef, (t[15]?).getD undef, (t[16]?).getD undef, (t[17]?).getD undef, (t[18]?).getD undef, (t[19]?).getD undef, (t[20]?).getD undef, (t[21]?).getD undef, (t[22]?).getD undef, (t[23]?).getD undef, (t[24]?).getD undef, (t[25]?).getD undef, (t[26]?).getD undef, (t[27]?).getD undef, (t[28]?).getD undef, (t[29]?).getD undef, (t[30]?).getD undef, (t[31]?).getD undef, (t[32]?).getD undef, (t[33]?).getD undef, (t[34]?).getD undef, (t[35]?).getD undef, (t[36]?).getD undef, (t[37]?).getD undef, (t[38]?).getD undef, (t[39]?).getD undef, (t[40]?).getD undef, (t[41]?).getD undef, (t[42]?).getD undef, (t[43]?).getD undef, (t[44]?).getD undef, (t[45]?).getD undef, (t[46]?).getD undef, (t[47]?).getD undef, (t[48]?).getD undef, (t[49]?).getD undef, (t[50]?).getD undef, (t[51]?).getD undef, (t[52]?).getD undef, (t[53]?).getD undef, (t[54]?).getD undef, (t[55]?).getD undef, (t[56]?).getD undef, (t[57]?).getD undef, (t[58]?).getD undef, (t[59]?).getD undef, (t[60]?).getD undef, (t[61]?).getD undef, (t[62]?).getD undef, (t[63]?).getD undef, (t[64]?).getD undef, (t[65]?).getD undef, (t[66]?).getD undef, (t[67]?).getD undef, (t[68]?).getD undef, (t[69]?).getD undef, (t[70]?).getD undef, (t[71]?).getD undef, (t[72]?).getD undef, (t[73]?).getD undef, (t[74]?).getD undef, (t[75]?).getD undef, (t[76]?).getD undef, (t[77]?).getD undef, (t[78]?).getD undef, (t[79]?).getD undef, (t[80]?).getD undef, (t[81]?).getD undef] := rfl
 simp only [h0, h1, h5, h6, h7, h8, Option.getD_some] at e2
 rw [← e2, ← e]
attribute [irreducible] Fr
theorem Fr.mk {t : Array Value} {s sh : Value} {at_ : Nat} {p le lf : Value} (h : t.size = 82 ∧ t[0]? = some s ∧ t[1]? = some sh ∧ t[5]? = some (.int .i64 (at_ : Int)) ∧ t[6]? = some p ∧ t[7]? = some le ∧ t[8]? = some lf) : Fr { tmps := t, defers := [] } s sh at_ p le lf := by
 unfold Fr
 exact ⟨rfl, h⟩
theorem Fr.at5 {a : Act} {s sh : Value} {at_ : Nat} {p le lf : Value} (h : Fr a s sh at_ p le lf) : a.tmps.getD 5 undef = .int .i64 (at_ : Int) := by
 obtain ⟨f, rfl⟩ := h.out
 rfl
def WJ (l : List Nat) (sh : Value) (Inv : List Nat → World → Prop) : Nat → Act → World → Prop
 | 0, a, w => ∃ vs r p le lf, Fr a (.string (bstr l)) sh (E vs).length p le lf ∧ (∀ v ∈ vs, May v) ∧ l = E vs ++ r ∧ Inv vs w
 | 1, a, w => ∃ vs r t at_ p le lf, Fr a (.string (bstr l)) sh at_ (.int .i64 ((p : Nat) : Int)) (.int .i64 ((le : Nat) : Int)) lf ∧ (∀ v ∈ vs, May v) ∧ l = E vs ++ r ∧ r ≠ [] ∧ at_ + t.length = l.length ∧ l.drop at_ = t ∧ st r = fur 0 p le t ∧ p ≤ 2097152 ∧ le ≤ 65536 ∧ Inv vs w
 | 2, a, w => ∃ at_ p le lf, Fr a (.string (bstr l)) sh at_ p le lf ∧ (¬ ∃ ws, V l ws) ∧ ∃ vs, Inv vs w
 | 3, a, w => ∃ vs r t at_ p le n, Fr a (.string (bstr l)) sh at_ (.int .i64 ((p : Nat) : Int)) (.int .i64 ((le : Nat) : Int)) (.int .i64 ((n : Nat) : Int)) ∧ (∀ v ∈ vs, May v) ∧ l = E vs ++ r ∧ r ≠ [] ∧ at_ + t.length = l.length ∧ l.drop at_ = t ∧ st r = fur n p le t ∧ (n = 1 ∧ p < 32768 ∨ n = 2 ∧ p < 512 ∨ n = 3 ∧ p < 8) ∧ le ≤ 65536 ∧ Inv vs w
 | _, _, _ => False
def Wμ (len : Nat) : Nat → Act → Nat
 | 0, a => 4 * (len - (RowKit.intOf (a.tmps.getD 5 undef)).toNat) + 1
 | 1, a => 4 * (len - (RowKit.intOf (a.tmps.getD 5 undef)).toNat) + 2
 | 3, a => 4 * (len - (RowKit.intOf (a.tmps.getD 5 undef)).toNat) + 3
 | _, _ => 0
theorem Wμ0 {len : Nat} {a : Act} {s sh : Value} {at_ : Nat} {p le lf : Value} (h : Fr a s sh at_ p le lf) : Wμ len 0 a = 4 * (len - at_) + 1 := by
 show 4 * (len - (RowKit.intOf (a.tmps.getD 5 undef)).toNat) + 1 = _
 rw [h.at5]; simp [RowKit.intOf]
theorem Wμ1 {len : Nat} {a : Act} {s sh : Value} {at_ : Nat} {p le lf : Value} (h : Fr a s sh at_ p le lf) : Wμ len 1 a = 4 * (len - at_) + 2 := by
 show 4 * (len - (RowKit.intOf (a.tmps.getD 5 undef)).toNat) + 2 = _
 rw [h.at5]; simp [RowKit.intOf]
theorem Wμ3 {len : Nat} {a : Act} {s sh : Value} {at_ : Nat} {p le lf : Value} (h : Fr a s sh at_ p le lf) : Wμ len 3 a = 4 * (len - at_) + 3 := by
 show 4 * (len - (RowKit.intOf (a.tmps.getD 5 undef)).toNat) + 3 = _
 rw [h.at5]; simp [RowKit.intOf]
theorem Wμ2 {len : Nat} {a : Act} : Wμ len 2 a = 0 := rfl
end Go.Proofs.YtjpjdkdbgjipnaaGreatDoor
namespace Go.Proofs.YtjpjdkdbgjipnaaGreatDoor
open Go.RowKit Go.Deep
theorem band_low (c j : Nat) (hc : c < 256) (hj : j ≤ 8) : bits BinOp.and IntKind.u8 (c : Int) ((2 ^ j - 1 : Nat) : Int) = ((c % 2 ^ j : Nat) : Int) := by
 have h1 : (BitVec.ofInt 8 (c : Int)).toNat = c := by rw [BitVec.ofInt_natCast, BitVec.toNat_ofNat]; omega
 have hp : 2 ^ j ≤ 2 ^ 8 := Nat.pow_le_pow_right (by omega) hj
 have h2 : (BitVec.ofInt 8 ((2 ^ j - 1 : Nat) : Int)).toNat = 2 ^ j - 1 := by rw [BitVec.ofInt_natCast, BitVec.toNat_ofNat, Nat.mod_eq_of_lt (by omega)]
 show IntKind.u8.wrap ((BitVec.ofInt 8 (c : Int) &&& BitVec.ofInt 8 ((2 ^ j - 1 : Nat) : Int)).toNat : Int) = _
 rw [BitVec.toNat_and, h1, h2, Nat.and_two_pow_sub_one_eq_mod]
 have h3 : c % 2 ^ j ≤ c := Nat.mod_le _ _
 generalize c % 2 ^ j = x at h3
 unfold IntKind.wrap
 simp [IntKind.bits, IntKind.signed]
 omega
theorem bor6 (a d : Nat) (ha : a < 32768) : bits BinOp.or IntKind.i64 ((a : Int) * 64) ((d : Int) % 64) = ((a * 64 + d % 64 : Nat) : Int) := by
 have e : ((d : Int) % 64) = ((d % 64 : Nat) : Int) := by omega
 rw [e]
 have hm : d % 64 < 64 := Nat.mod_lt _ (by omega)
 generalize d % 64 = m at hm
 have h1 : (BitVec.ofInt 64 ((a : Int) * 64)).toNat = a * 64 := by
  rw [show ((a : Int) * 64) = ((a * 64 : Nat) : Int) by omega, BitVec.ofInt_natCast, BitVec.toNat_ofNat]; omega
 have h2 : (BitVec.ofInt 64 (m : Int)).toNat = m := by rw [BitVec.ofInt_natCast, BitVec.toNat_ofNat]; omega
 show IntKind.i64.wrap ((BitVec.ofInt 64 ((a : Int) * 64) ||| BitVec.ofInt 64 (m : Int)).toNat : Int) = _
 rw [BitVec.toNat_or, h1, h2, show a * 64 = a <<< 6 by rw [Nat.shiftLeft_eq], ← Nat.shiftLeft_add_eq_or_of_lt (by omega : m < 2 ^ 6), Nat.shiftLeft_eq, IntKind.wrap_i64]
 omega
theorem band64 (c j : Nat) (hc : c < 256) (hj : j ≤ 8) : bits BinOp.and IntKind.i64 (c : Int) ((2 ^ j - 1 : Nat) : Int) = ((c % 2 ^ j : Nat) : Int) := by
 have h1 : (BitVec.ofInt 64 (c : Int)).toNat = c := by rw [BitVec.ofInt_natCast, BitVec.toNat_ofNat]; omega
 have hp : 2 ^ j ≤ 2 ^ 8 := Nat.pow_le_pow_right (by omega) hj
 have h2 : (BitVec.ofInt 64 ((2 ^ j - 1 : Nat) : Int)).toNat = 2 ^ j - 1 := by rw [BitVec.ofInt_natCast, BitVec.toNat_ofNat, Nat.mod_eq_of_lt (by omega)]
 show IntKind.i64.wrap ((BitVec.ofInt 64 (c : Int) &&& BitVec.ofInt 64 ((2 ^ j - 1 : Nat) : Int)).toNat : Int) = _
 rw [BitVec.toNat_and, h1, h2, Nat.and_two_pow_sub_one_eq_mod, IntKind.wrap_i64]
 have h3 : c % 2 ^ j ≤ c := Nat.mod_le _ _
 omega
def nz (vs : List Nat) : List Int := vs.map fun v : Nat => (v : Int)
theorem yy200 (vs : List Nat) : (nz vs).length = vs.length := by simp [nz]
theorem yy728 (vs : List Nat) (v : Nat) : nz (vs ++ [v]) = nz vs ++ [(v : Int)] := by simp [nz]
theorem V.length_le {l vs : List Nat} (h : V l vs) : vs.length ≤ l.length := by rw [← h.bytes]; exact yy164 vs
def capSum : Nat → List Nat → Nat
 | n, [] => n
 | n, x :: xs => if 1099511627776 < n + x then 1099511627776 else capSum (n + x) xs
theorem yy435 (n : Nat) (xs : List Nat) (k : Nat) (h : k < xs.length) : capSum n (xs.drop k) = if 1099511627776 < n + xs[k] then 1099511627776 else capSum (n + xs[k]) (xs.drop (k + 1)) := by
 rw [List.drop_eq_getElem_cons h]
 rfl
def NatsAt (w : World) (b off : Nat) (xs : List Nat) : Prop := ∀ j x : Nat, xs[j]? = some x → w.cell? ⟨b, off + j, none⟩ = some (.int .i64 (x : Int))
set_option maxRecDepth 100000 in
theorem yy83 (n : Nat) (hn : n ≤ 9223372036854775807) (b off cap : Nat) (xs : List Nat) (hl : xs.length ≤ maxLen) (hx : ∀ x ∈ xs, x ≤ 9223372036854775807) (w : World) (hc : NatsAt w b off xs) :
  Calls Tryz.prog 18 #[.int .i64 (n : Int), .slice (some ⟨b, off, none⟩) xs.length cap] w fun e w' => e = .returned (.int .i64 ((capSum n xs : Nat) : Int)) ∧ w = w' := by
 unfold maxLen at hl
 have HC := xh hc; clear hc
 have HX := xh hx; clear hx
 have HN := xh hn; clear hn
 go_enter Tryz.func18, Tryz.ntmps18
 go_wp2
 go_loop [0, 5] (fun t i => ∃ k m : Nat, k ≤ xs.length ∧ i = .int .i64 k ∧ t = .int .i64 (m : Int) ∧ m ≤ 9223372036854775807 ∧ capSum m (xs.drop k) = capSum n xs) (fun _ i => xs.length - (intOf i).toNat)
 case atStart => exact ⟨0, n, Nat.zero_le _, rfl, rfl, HN.out, rfl⟩
 case round =>
  obtain ⟨k, m, hk, rfl, rfl, hm, he⟩ := hrel
  have HE := xh he; clear he
  by_cases hlt : k < xs.length
  ·have hcell := HC.out k _ (List.getElem?_eq_getElem hlt)
   have hxk := HX.out _ (List.getElem_mem hlt)
   have hd := yy435 m xs k hlt
   rw [HE.out] at hd
   have HD := xh hd; clear hd
   obtain ⟨x, HXX⟩ : ∃ x, Hid (xs[k] = x) := ⟨xs[k], xh rfl⟩
   rw [HXX.out] at hcell hxk HD
   by_cases hb : 1099511627776 < m + x
   ·have HR : Hid (capSum n xs = 1099511627776) := by show capSum n xs = 1099511627776; rw [HD.out, if_pos hb]
    by_cases h1 : 1099511627776 < m
    ·go_wp2
     go_ret
     exact ⟨by rw [HR.out]; rfl, rfl⟩
    ·have h1' : m ≤ 1099511627776 := by omega
     go_wp2
     go_ret
     exact ⟨by rw [HR.out]; rfl, rfl⟩
   ·have h1' : m ≤ 1099511627776 := by omega
    have HR : Hid (capSum (m + x) (xs.drop (k + 1)) = capSum n xs) := by show capSum (m + x) (xs.drop (k + 1)) = capSum n xs; rw [HD.out, if_neg hb]
    go_wp2
    go_round
    case rel => exact ⟨k + 1, m + x, by omega, by go_num, by go_num, by omega, HR.out⟩
    case measure => simp [intOf]; omega
  ·have HR : Hid (m = capSum n xs) := by
    show m = capSum n xs
    rw [← HE.out, List.drop_eq_nil_of_le (by omega)]
    rfl
   go_wp2
   go_ret
   exact ⟨by rw [← HR.out]; rfl, rfl⟩
end Go.Proofs.YtjpjdkdbgjipnaaGreatDoor
namespace Go.Proofs.YtjpjdkdbgjipnaaGreatDoor
theorem yy305 : (bstr []).toList = [] := by
 rw [ByteArray.toList, ByteArray.toList.loop, if_neg (by rw [bstr_size]; simp)]
 rfl
theorem yy79 : (bstr []).toList.isEmpty = true := by rw [yy305]; rfl
theorem yy97 {l : List Nat} (h : l ≠ []) : (bstr l).toList.isEmpty = false := by
 cases e : (bstr l).toList.isEmpty with
 | false => rfl
 | true =>
  exfalso
  have h1 : (bstr l).toList = [] := List.isEmpty_iff.1 e
  have h2 : (bstr []).toList = [] := yy305
  have h3 : ((bstr l).toList == (bstr []).toList) = false := bstr_neq fun g => h (by
   have := congrArg ByteArray.size g
   rw [bstr_size, bstr_size] at this
   exact List.length_eq_zero_iff.1 this)
  rw [h1, h2] at h3
  simp at h3
end Go.Proofs.YtjpjdkdbgjipnaaGreatDoor
