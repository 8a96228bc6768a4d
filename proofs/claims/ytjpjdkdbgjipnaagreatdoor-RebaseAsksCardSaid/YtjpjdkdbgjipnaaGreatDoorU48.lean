/- A world for the witness of a card: the settled one, the table of conflicts holding what the program's text lays. No condition. (Merged of 8 texts.) -/
import Derived.Test.YtjpjdkdbgjipnaaGreatDoorU6
import Derived.Test.YtjpjdkdbgjipnaaGreatDoorU1
import Derived.Deep.DeepAppendWide
import Derived.Laws.OwnMore
import Derived.Deep.AppendLies
import Derived.Test.YtjpjdkdbgjipnaaGreatDoorRows
import Derived.Test.YtjpjdkdbgjipnaaGreatDoorCards
import Derived.Test.YtjpjdkdbgjipnaaGreatDoorTie
import Derived.WalkKit
import Derived.ProofKit
import Derived.OpenShut
import Derived.Deep.DeepHandedRow
namespace Go.Proofs.YtjpjdkdbgjipnaaGreatDoor
open Go.ChangeShapes Go.WideShapes Go.ChangeAt Go.RowKit Go.Deep
def Fit64 (n : Int) : Prop := -9223372036854775808 ≤ n ∧ n ≤ 9223372036854775807
def Bytes (l : List Nat) : Prop := (∀ x ∈ l, x < 256) ∧ l.length ≤ maxLen
section
variable {H : Type} {enc : TypeId × Value → H} {w : World}
theorem yy569 {n : Int} (h : (Lit.int .i64 n).wf = true) : Fit64 n := by simpa [Fit64, Lit.wf, IntKind.min, IntKind.max, IntKind.signed, IntKind.bits] using h
theorem yy660 (s : ByteArray) (h : s.size ≤ maxLen) : ∃ l, Bytes l ∧ s = bstr l := by
 obtain ⟨l, hl, rfl⟩ := yy658 s
 exact ⟨l, ⟨hl, by rw [bstr_size] at h; exact h⟩, rfl⟩
theorem yy139 {α : Type} (cells : α → List Value) (k : Nat) (hk : 0 < k) (hc : ∀ x, (cells x).length = k) {A : Option Addr} {n : Nat} (f : Nat → α) (hform : 0 < n * k → ∃ b off, A = some ⟨b, off, none⟩ ∧ b < w.heap.size)
  (h : ∀ i, i < n → ∀ b off, A = some ⟨b, off, none⟩ → ∀ j, j < k → w.cell? ⟨b, off + (i * k + j), none⟩ = (cells (f i))[j]?) : yy7 w A (((List.range n).map f).flatMap cells) := by
 by_cases h0 : n = 0
 ·subst h0
  exact .inl rfl
 ·obtain ⟨b, off, rfl, hb⟩ := hform (Nat.mul_pos (by omega) hk)
  refine .inr ⟨b, off, rfl, hb, fun j v hj => ?_⟩
  obtain ⟨i, q, hi, hq, rfl, hv⟩ := yy632 hc hk hj
  rw [List.length_map, List.length_range] at hi
  rw [h i hi b off rfl q hq, ← hv]
  simp
theorem yy131 {R : List Value} {o : Nat} {v : Value} (h : (R.drop o).take 1 = [v]) : R[o]? = some v := by
 have h2 := congrArg (fun l : List Value => l[0]?) h
 simpa using h2
set_option maxRecDepth 100000 in
theorem yy89 {R : List Value} {y : DataW H × List MemPlace} {m o : Nat} (h : DataW.trod enc Tryz.prog w 0 (fun _ => true) true m 3 ((R.drop o).take (Tryz.prog.cellsOf 3)) = some y) : ∃ n, R[o]? = some (.int .i64 n) ∧ Fit64 n := by
 obtain ⟨n, e, _, hw⟩ := DataW.trod_int Tryz.underlying3 h
 rw [show Tryz.prog.cellsOf 3 = 1 by kernel_rfl] at e
 exact ⟨n, yy131 e, yy569 hw⟩
set_option maxRecDepth 100000 in
theorem yy163 {R : List Value} {y : DataW H × List MemPlace} {m o : Nat} (h : DataW.trod enc Tryz.prog w 0 (fun _ => true) true m 4 ((R.drop o).take (Tryz.prog.cellsOf 4)) = some y) : ∃ b, R[o]? = some (.bool b) := by
 obtain ⟨b, e, _⟩ := DataW.trod_bool Tryz.underlying4 h
 rw [show Tryz.prog.cellsOf 4 = 1 by kernel_rfl] at e
 exact ⟨b, yy131 e⟩
set_option maxRecDepth 100000 in
theorem yy259 {R : List Value} {y : DataW H × List MemPlace} {m o : Nat} (h : DataW.trod enc Tryz.prog w 0 (fun _ => true) true m 9 ((R.drop o).take (Tryz.prog.cellsOf 9)) = some y) : ∃ l, R[o]? = some (.string (bstr l)) ∧ Bytes l := by
 obtain ⟨s, e, _, hs⟩ := DataW.trod_string Tryz.underlying9 h
 rw [show Tryz.prog.cellsOf 9 = 1 by kernel_rfl] at e
 obtain ⟨l, hl, rfl⟩ := yy660 s hs
 exact ⟨l, yy131 e, hl⟩
end
structure CompV where
 kind : Int
 n : Int
 text : List Nat
instance : Inhabited CompV := ⟨⟨0, 0, []⟩⟩
def CompV.Good (c : CompV) : Prop := Fit64 c.kind ∧ Fit64 c.n ∧ Bytes c.text
def yy2 (c : CompV) : List Value := [.int .i64 c.kind, .int .i64 c.n, .string (bstr c.text)]
theorem yy40 (c : CompV) : (yy2 c).length = 3 := rfl
def yy8 (w : World) (A : Option Addr) (l : List CompV) : Prop := yy7 w A (l.flatMap yy2)
theorem yy8.below {w w' : World} {A : Option Addr} {l : List CompV} (h : yy8 w A l) (hb : Below w.heap.size w w') : yy8 w' A l := yy7.below h hb
theorem yy8.drew {w : World} {A : Option Addr} {l : List CompV} (h : yy8 w A l) : yy8 w.drew A l := yy7.drew h
theorem yy8.form {w : World} {A : Option Addr} {l : List CompV} (h : yy8 w A l) (h0 : 0 < l.length) : ∃ b off, A = some ⟨b, off, none⟩ ∧ b < w.heap.size :=
 yy7.form h (by intro e; have := congrArg List.length e; rw [yy30 yy2 3 yy40] at this; simp at this; omega)
theorem yy8.at_ {w : World} {b off : Nat} {l : List CompV} (h : yy8 w (some ⟨b, off, none⟩) l) {i : Nat} (hi : i < l.length) :
  w.cell? ⟨b, off + i * 3, none⟩ = some (.int .i64 l[i].kind) ∧ w.cell? ⟨b, off + i * 3 + 1, none⟩ = some (.int .i64 l[i].n) ∧ w.cell? ⟨b, off + i * 3 + 2, none⟩ = some (.string (bstr l[i].text)) := by
 refine ⟨?_, ?_, ?_⟩
 ·exact yy7.cell h (j := i * 3 + 0) (by rw [flat_get yy2 3 yy40 l i hi 0 (by omega)]; rfl)
 ·rw [Nat.add_assoc]; exact yy7.cell h (by rw [flat_get yy2 3 yy40 l i hi 1 (by omega)]; rfl)
 ·rw [Nat.add_assoc]; exact yy7.cell h (by rw [flat_get yy2 3 yy40 l i hi 2 (by omega)]; rfl)
section
variable {H : Type} {enc : TypeId × Value → H} {w : World}
set_option maxRecDepth 100000 in
theorem yy206 {fuel : Nat} {cs : List Value} {x : DataW H × List MemPlace} (h : DataW.trod enc Tryz.prog w 0 (fun _ => true) true fuel 24 cs = some x) (hlt : ∀ p ∈ x.2, p.block < w.heap.size) :
  ∃ A l c, cs = [.slice A (List.length l) c] ∧ yy8 w A l ∧ (∀ y ∈ l, y.Good) ∧ l.length ≤ c ∧ c ≤ maxLen := by
 obtain ⟨A, n, cap, m, rfl, hn, hcap, hform, hrec⟩ := yy95 (k := 3) Tryz.underlying24 Tryz.underlying60 (by kernel_rfl) h hlt
 have each : ∀ i, i < n → ∃ y : CompV, y.Good ∧ ∀ b off, A = some ⟨b, off, none⟩ → ∀ j, j < 3 → w.cell? ⟨b, off + (i * 3 + j), none⟩ = (yy2 y)[j]? := by
  intro i hi
  obtain ⟨R, hR, hcell, hf⟩ := hrec i hi
  obtain ⟨y0, h0, _⟩ := hf 0 _ rfl
  obtain ⟨y1, h1, _⟩ := hf 1 _ rfl
  obtain ⟨y2, h2, _⟩ := hf 2 _ rfl
  obtain ⟨k0, e0, w0⟩ := yy89 (o := 0) h0
  obtain ⟨k1, e1, w1⟩ := yy89 (o := 1) h1
  obtain ⟨l2, e2, w2⟩ := yy259 (o := 2) h2
  match R, hR with
  | [r0, r1, r2], _ =>
   simp only [List.getElem?_cons_zero, List.getElem?_cons_succ, Option.some.injEq] at e0 e1 e2
   subst e0 e1 e2
   exact ⟨⟨k0, k1, l2⟩, ⟨w0, w1, w2⟩, hcell⟩
 obtain ⟨f, hf⟩ := choose_lt each
 refine ⟨A, (List.range n).map f, cap, by simp, yy139 yy2 3 (by omega) yy40 f hform (fun i hi => (hf i hi).2), ?_, by simpa using hn, hcap⟩
 intro y hy
 obtain ⟨i, hi, rfl⟩ := List.mem_map.1 hy
 exact (hf i (List.mem_range.1 hi)).1
set_option maxRecDepth 100000 in
theorem yy260 {R : List Value} {y : DataW H × List MemPlace} {m o : Nat} (h : DataW.trod enc Tryz.prog w 0 (fun _ => true) true m 24 ((R.drop o).take (Tryz.prog.cellsOf 24)) = some y) (hlt : ∀ p ∈ y.2, p.block < w.heap.size) :
  ∃ A l c, R[o]? = some (.slice A (List.length l) c) ∧ yy8 w A l ∧ (∀ z ∈ l, z.Good) ∧ l.length ≤ c ∧ c ≤ maxLen := by
 obtain ⟨A, l, c, e, h1⟩ := yy206 h hlt
 rw [show Tryz.prog.cellsOf 24 = 1 by kernel_rfl] at e
 exact ⟨A, l, c, yy131 e, h1⟩
end
end Go.Proofs.YtjpjdkdbgjipnaaGreatDoor
namespace Go.Proofs.YtjpjdkdbgjipnaaGreatDoor
open Go.RowKit Go.Deep
def wts (limit : Nat) : Nat → List (List Nat) → Nat
 | n, [] => n
 | n, x :: L => if n ≤ limit then wts limit (capSum n x) L else n
theorem yy125 (limit n : Nat) : wts limit n [] = n := rfl
theorem yy272 (limit n : Nat) (L : List (List Nat)) (k : Nat) (h : k < L.length) : wts limit n (L.drop k) = if n ≤ limit then wts limit (capSum n L[k]) (L.drop (k + 1)) else n := by
 rw [List.drop_eq_getElem_cons h]
 rfl
theorem yy91 (xs : List Nat) : ∀ n, n ≤ 1099511627776 → capSum n xs ≤ 1099511627776 := by
 induction xs with
 | nil => intro n hn; exact hn
 | cons x xs ih =>
  intro n hn
  rw [capSum]
  split
  ·exact Nat.le_refl _
  ·exact ih _ (by omega)
theorem yy497 (xs : List Nat) : ∀ n, capSum n xs < 1099511627776 → capSum n xs = n + xs.sum := by
 induction xs with
 | nil => intro n _; rfl
 | cons x xs ih =>
  intro n h
  rw [capSum] at h ⊢
  split at h
  ·omega
  ·rename_i h1
   rw [if_neg h1, ih _ h, List.sum_cons]
   omega
theorem yy498 (limit : Nat) (hl : limit < 1099511627776) (L : List (List Nat)) : ∀ n, wts limit n L ≤ limit → wts limit n L = n + (L.map List.sum).sum := by
 induction L with
 | nil => intro n _; rfl
 | cons x L ih =>
  intro n h
  have e : wts limit n (x :: L) = if n ≤ limit then wts limit (capSum n x) L else n := rfl
  rw [e] at h ⊢
  split at h
  ·rename_i hn
   rw [if_pos hn]
   have h1 := ih _ h
   have h2 := yy497 x n (by omega)
   rw [h1, h2, List.map_cons, List.sum_cons]
   omega
  ·omega
theorem yy343 (limit : Nat) (L : List (List Nat)) : ∀ n, n ≤ 1099511627776 → wts limit n L ≤ 1099511627776 := by
 induction L with
 | nil => intro n hn; exact hn
 | cons x L ih =>
  intro n hn
  show (if n ≤ limit then wts limit (capSum n x) L else n) ≤ 1099511627776
  split
  ·exact ih _ (yy91 x n hn)
  ·exact hn
attribute [irreducible] wts
theorem yy217 (w : World) (t : TypeId) (cs : Array Value) (xs : List Nat) (h : ∀ j x : Nat, xs[j]? = some x → cs[j]? = some (.int .i64 (x : Int))) (g : Nat) (hg : g = w.heap.size) : NatsAt (w.alloc (.cells cs t)) g 0 xs := by
 subst hg
 intro j x hx
 rw [Nat.zero_add, cell_of_row _ _ _ _ t (0, 0) (heap_alloc_new w _)]
 exact h j x hx
def yy85 (c : CompV) : List Nat := [c.text.length, 2]
def yy27 (limit : Nat) (l : List CompV) : Nat := wts limit 0 (l.map yy85)
set_option maxRecDepth 100000 in
theorem yy273 (limit : Nat) (b off cap : Nat) (l : List CompV) (hl : l.length ≤ maxLen) (hg : ∀ y ∈ l, y.Good) (w : World) (hc : yy8 w (some ⟨b, off, none⟩) l) :
  Calls Tryz.prog 19 #[.slice (some ⟨b, off, none⟩) l.length cap, .int .i64 (limit : Int)] w fun e w' => e = .returned (.int .i64 ((yy27 limit l : Nat) : Int)) ∧ Below w.heap.size w w' := by
 unfold maxLen at hl
 have HC := xh hc; clear hc
 have HG := xh hg; clear hg
 obtain ⟨T, HT⟩ : ∃ T, Hid (yy27 limit l = T) := ⟨_, rfl⟩
 rw [HT.out]
 go_enter Tryz.func19, Tryz.ntmps19
 go_wp2
 go_loopw [5, 6] (fun t i wr => ∃ k m : Nat, k ≤ l.length ∧ i = .int .i64 k ∧ t = .int .i64 (m : Int) ∧ m ≤ 1099511627776 ∧ wts limit m ((l.map yy85).drop k) = T ∧ Below w.heap.size w wr) (fun _ i _ => l.length - (intOf i).toNat)
 case atStart => exact ⟨0, 0, Nat.zero_le _, rfl, rfl, by omega, HT.out, Below.refl _ _⟩
 case round =>
  obtain ⟨k, m, hk, rfl, rfl, hm, he, hbel⟩ := hrel
  have HE := xh he; clear he
  have HB := xh hbel; clear hbel
  by_cases hlt : k < l.length
  ·have HW := xh (HE.out ▸ yy272 limit m (l.map yy85) k (by simpa using hlt) : T = _)
   have HX : Hid ((l.map yy85)[k]'(by simpa using hlt) = [l[k].text.length, 2]) := by show _ = _; rw [List.getElem_map]; rfl
   by_cases hml : m ≤ limit
   ·have hcell := ((HC.out.below HB.out).at_ hlt).2.2
    have hxl := (HG.out _ (List.getElem_mem hlt)).2.2.2
    unfold maxLen at hxl
    have hsz := bstr_size l[k].text
    obtain ⟨S, HS0⟩ : ∃ S, Hid (bstr l[k].text = S) := ⟨bstr l[k].text, xh rfl⟩
    obtain ⟨a, HA⟩ : ∃ a, Hid (l[k].text.length = a) := ⟨l[k].text.length, xh rfl⟩
    rw [HS0.out] at hcell hsz
    rw [HA.out] at hsz hxl HX
    have HR : Hid (wts limit (capSum m [a, 2]) ((l.map yy85).drop (k + 1)) = T) := by show _ = _; rw [HW.out, if_pos hml, HX.out]
    obtain ⟨r, HRR⟩ : ∃ r, Hid (capSum m [a, 2] = r) := ⟨_, rfl⟩
    have hr : r ≤ 1099511627776 := by rw [← HRR.out]; exact yy91 _ m hm
    rw [HRR.out] at HR
    have HS := xh (fun g hg' => yy83 m (by omega) g 0 2 [a, 2] (by simp [maxLen]) (by simp; omega) _ (yy217 wr 3 #[.int .i64 (a : Int), .int .i64 2] [a, 2] (fun j x hx => by
     match j, hx with
     | 0, hx => cases hx; rfl
     | 1, hx => cases hx; rfl) g hg'))
    rw [HRR.out] at HS
    clear HW HRR
    go_wp2_with (go_at_call 18; refine (HS.out _ rfl).mono ?_; rintro e w' ⟨rfl, rfl⟩)
    go_roundw
    case rel => exact ⟨k + 1, r, by omega, by go_num, rfl, hr, HR.out, HB.out.alloc HB.out.size _⟩
    case measure => simp [intOf]; omega
   ·have HR : Hid (m = T) := by show _ = _; rw [HW.out, if_neg hml]
    have hml' : limit < m := by omega
    go_wp2
    go_ret
    exact ⟨by rw [← HR.out]; rfl, HB.out⟩
  ·have HR : Hid (m = T) := by
    show m = T
    rw [← HE.out, List.drop_eq_nil_of_le (by simp; omega), yy125]
   go_wp2
   go_ret
   exact ⟨by rw [← HR.out]; rfl, HB.out⟩
theorem yy274 (limit : Nat) (A : Option Addr) (cap : Nat) (w : World) :
  Calls Tryz.prog 19 #[.slice A 0 cap, .int .i64 (limit : Int)] w fun e w' => e = .returned (.int .i64 ((yy27 limit [] : Nat) : Int)) ∧ Below w.heap.size w w' := by
 have HR : Hid (0 = yy27 limit []) := by show 0 = yy27 limit []; rw [yy27, List.map_nil, yy125]
 go_enter Tryz.func19, Tryz.ntmps19
 go_wp2
 refine wp_loop_rounds 1 ?_
 rw [rounds_succ]
 go_wp2
 go_ret
 exact ⟨by rw [← HR.out]; rfl, Below.refl _ _⟩
theorem yy183 {A : Option Addr} {l : List CompV} (limit : Nat) (cap : Nat) (hl : l.length ≤ maxLen) (hg : ∀ y ∈ l, y.Good) (w : World) (h : yy8 w A l) :
  Calls Tryz.prog 19 #[.slice A l.length cap, .int .i64 (limit : Int)] w fun e w' => e = .returned (.int .i64 ((yy27 limit l : Nat) : Int)) ∧ Below w.heap.size w w' := by
 cases l with
 | nil => exact yy274 limit A cap w
 | cons c l =>
  obtain ⟨b, off, rfl, _⟩ := h.form (by simp)
  exact yy273 limit b off cap _ hl hg w h
def yy736 (A : Option Addr) (c : Nat) : Option Addr := if c = 0 then A else A.map (·.add (0 * 1))
def strLow (A : Option Addr) (k c : Nat) : Option Addr := if c = k then A else A.map (·.add (k * 1))
attribute [irreducible] yy736 strLow
def intCells (y : Int) : List Value := [.int .i64 y]
theorem yy87 (y : Int) : (intCells y).length = 1 := rfl
def NumsAt (w : World) (A : Option Addr) (l : List (Int)) : Prop := yy7 w A (l.flatMap intCells)
theorem NumsAt.below {w w' : World} {A : Option Addr} {l : List (Int)} (h : NumsAt w A l) (hb : Below w.heap.size w w') : NumsAt w' A l := yy7.below h hb
theorem NumsAt.drew {w : World} {A : Option Addr} {l : List (Int)} (h : NumsAt w A l) : NumsAt w.drew A l := yy7.drew h
theorem NumsAt.form {w : World} {A : Option Addr} {l : List (Int)} (h : NumsAt w A l) (h0 : 0 < l.length) : ∃ b off, A = some ⟨b, off, none⟩ ∧ b < w.heap.size :=
 yy7.form h (by intro e; have h1 := yy30 intCells 1 yy87 l; rw [e, List.length_nil] at h1; omega)
theorem NumsAt.get {w : World} {b off : Nat} {l : List (Int)} (h : NumsAt w (some ⟨b, off, none⟩) l) {i : Nat} (hi : i < l.length) : w.cell? ⟨b, off + i, none⟩ = some (.int .i64 l[i]) := by
 have := yy7.cell h (j := i * 1 + 0) (by rw [flat_get intCells 1 yy87 l i hi 0 (by omega)]; rfl)
 simpa using this
theorem yy737 : (Tryz.prog.info? 3).map (fun i => (i.zero, i.size, i.bytes)) = some (some (.int .i64 0), 1, 8) := by kernel_rfl
def OwnK (w : World) (B : Nat) (A : Option Addr) (c : Nat) (l : List (Int)) : Prop := w.ownsRow B 3 1 (.slice A l.length c) l.length (l.flatMap intCells)
theorem yy738 (l : List (Int)) : ∀ u ∈ l.flatMap intCells, u.oneCell' = true := by
 intro u hu
 obtain ⟨y, _, hy⟩ := List.mem_flatMap.1 hu
 simp [intCells] at hy
 subst hy
 rfl
theorem OwnK.at_ {w : World} {B c : Nat} {A : Option Addr} {l : List (Int)} (h : OwnK w B A c l) : NumsAt w A l := yy7.of_own h
theorem OwnK.cap {w : World} {B c : Nat} {A : Option Addr} {l : List (Int)} (h : OwnK w B A c l) : l.length ≤ c := by
 rcases h.2 with ⟨e, h0⟩ | ⟨g, cap, cur, e, _, _, hn, _⟩
 ·omega
 ·injection e with _ _ e
  omega
theorem OwnK.empty (w : World) {B : Nat} (h : B ≤ w.heap.size) : OwnK (w.alloc (.cells #[] 3)) B (some ⟨w.heap.size, 0, none⟩) 0 [] := World.ownsRow_lit w #[] 0 h (by simp [maxLen]) rfl
theorem OwnK.nil (w : World) (B : Nat) : OwnK w B none 0 [] := World.ownsRow_nil _ _ _ _
theorem OwnK.alloc {w : World} {B c : Nat} {A : Option Addr} {l : List (Int)} (h : OwnK w B A c l) (o : Obj) : OwnK (w.alloc o) B A c l := World.ownsRow.alloc h o
theorem OwnK.below {w w' : World} {B c : Nat} {A : Option Addr} {l : List (Int)} (h : OwnK w B A c l) (hb : Below w.heap.size w w') : OwnK w' B A c l := own_below h hb
theorem yy238 {w : World} (base : Nat) (t ty e : TypeId) (i : TypeInfo) (size : Nat) (ht : Tryz.prog.underlying t = some (.slice e)) (hi : Tryz.prog.info? e = some i) (v : Value) (n : Nat) (xs : List Value) (c : Nat) (hown : w.ownsRow base e size v n xs) :
  (Builtin.append_ #[t, t] ty #[v, .slice none 0 c]).run Tryz.prog w = .ok v w := by
 rcases hown.2 with ⟨rfl, rfl⟩ | ⟨g, cap, cur, rfl, _, _, hnc, _⟩
 ·simp [Builtin.append_, run_underlying ht, sizeOf, typeInfo, hi, Builtin.lenOf, Builtin.firstCells]
 ·simp [Builtin.append_, run_underlying ht, sizeOf, typeInfo, hi, Builtin.lenOf, Builtin.firstCells, hnc, storeCells]
set_option maxRecDepth 100000 in
theorem yy309 {w : World} {B c0 : Nat} {A0 : Option Addr} {out : List (Int)} (hown : OwnK w B A0 c0 out) (hB : B ≤ w.heap.size) {A : Option Addr} {m : List (Int)} (c : Nat) (hA : NumsAt w A m) (hlen : out.length + m.length ≤ 1099511627776) (ty : TypeId) :
  ∃ A' c' w', (Builtin.append_ #[83, 83] ty #[.slice A0 out.length c0, .slice A m.length c]).run Tryz.prog w = .ok (.slice A' (out ++ m).length c') w' ∧ OwnK w' B A' c' (out ++ m) ∧ Below B w w' ∧ ∀ (g : Nat) (l : List (Int)), g < w.heap.size → (∀ b, A0 = some b → b.block ≠ g) → NumsAt w (some ⟨g, 0, none⟩) l → NumsAt w' (some ⟨g, 0, none⟩) l := by
 obtain ⟨i0, hi0, hz0, hz1, hz2⟩ := info_parts yy737
 cases A with
 | none =>
  have hm : m = [] := by
   cases m with
   | nil => rfl
   | cons y m =>
    obtain ⟨b, off, e, _⟩ := hA.form (by simp)
    cases e
  subst hm
  refine ⟨A0, c0, w, ?_, ?_, Below.refl _ _, fun _ _ _ _ h => h⟩
  ·rw [List.append_nil]
   exact yy238 B _ ty _ i0 1 Tryz.underlying83 hi0 _ _ _ c hown
  ·rw [List.append_nil]
   exact hown
 | some ad =>
  obtain ⟨v', w', hr, h2, h3, _⟩ := run_append_own_wide (P := Tryz.prog) w B 83 ty 3 i0 (.int .i64 0) 1 8 Tryz.underlying83 hi0 hz0 hz1 hz2 rfl (by omega)
   _ out.length (out.flatMap intCells) hown ad m.length c (m.flatMap intCells) (yy30 intCells 1 yy87 m) (fun j u hu => by
    rcases hA with h0 | ⟨b, off, e, _, hc⟩
    ·rw [h0] at hu; cases hu
    ·injection e with e
     subst e
     rw [Go.WideShapes.add_plain]
     exact hc j u hu) (yy738 m) (by simp only [maxLen]; omega) (by omega) hB
  have e : out.flatMap intCells ++ m.flatMap intCells = (out ++ m).flatMap intCells := List.flatMap_append.symm
  rw [e, ← List.length_append] at h2
  obtain ⟨A', c', rfl⟩ := own_slice h2
  refine ⟨A', c', w', hr, h2, (Below.refl B w).grown h3 hB (fun k hk => (hown.lt k hk).1), fun g l hg hne h => ?_⟩
  rcases h with h | ⟨b, off, e, hlt, hc⟩
  ·exact .inl h
  ·injection e with e
   injection e with e1 e2
   subst e1 e2
   refine .inr ⟨g, 0, rfl, Nat.lt_of_lt_of_le hlt h3.size, fun j v hj => (h3.cell_far ⟨g, 0 + j, none⟩ hlt ?_).trans (hc j v hj)⟩
   cases A0 with
   | none => intro e; cases e
   | some a =>
    intro e
    injection e with e
    exact hne a rfl e.symm
theorem yy41 {w : World} {o : Oper} {a : Act} {K : Act → World → Prop} {Q : Exit → Act → World → Prop} (s x : Operand)
  (ho : o.op = .call { callee := .builtin .append, args := #[s, x], argTypes := #[83, 83] })
  {B c0 : Nat} {A0 : Option Addr} {out : List (Int)} (hown : OwnK w B A0 c0 out) (hB : B ≤ w.heap.size) {A : Option Addr} {m : List (Int)} (c : Nat) (hA : NumsAt w A m) (hlen : out.length + m.length ≤ 1099511627776)
  (hs : a.eval s = .slice A0 out.length c0) (hx : a.eval x = .slice A m.length c)
  (hK : ∀ A' c' w', OwnK w' B A' c' (out ++ m) → Below B w w' → (∀ (g : Nat) (l : List (Int)), g < w.heap.size → (∀ b, A0 = some b → b.block ≠ g) → NumsAt w (some ⟨g, 0, none⟩) l → NumsAt w' (some ⟨g, 0, none⟩) l) → K (a.put o.dst (.slice A' (out ++ m).length c')) w') : o.wp Tryz.prog a w K Q := by
 obtain ⟨A', c', w', hrun, h1, h2, h3⟩ := yy309 hown hB c hA hlen o.type
 unfold Oper.wp execOp
 simp only [ho, resolve, invoke, builtin, Sem.run_bind, Sem.run_pure, Result.andThen_ok, List.map_toArray, List.map_cons, List.map_nil, hs, hx, hrun]
 exact hK A' c' w' h1 h2 h3
theorem yy509 (x : World) (n : Int) (g : Nat) (hg : g = x.heap.size) : NumsAt (x.alloc (.cells (intCells n).toArray 3)) (some ⟨g, 0, none⟩) [n] := by
 subst hg
 refine .inr ⟨_, 0, rfl, by simp, fun j v hj => ?_⟩
 rw [cell_of_row _ _ _ _ _ _ (heap_alloc_new x _)]
 simpa using hj
theorem yy202 : Tryz.prog.elem 83 = 3 := by kernel_rfl
theorem yy408 (w : World) : (sizeOf 3).run Tryz.prog w = .ok 1 w := Tryz.sizeOf3 w
def yy187 (A : Option Addr) (c : Nat) : Option Addr := if c = 0 then A else A.map (·.add (0 * 1))
def numLow (A : Option Addr) (k c : Nat) : Option Addr := if c = k then A else A.map (·.add (k * 1))
theorem yy443 (A : Option Addr) (n c k : Nat) (hk : k ≤ c) (w : World) : (Instr.slice 83 (.slice A n c) none (some (.int .i64 (k : Int))) none).run Tryz.prog w = .ok (.slice (yy187 A c) k c) w := by
 rw [run_slice_h (P := Tryz.prog) (w := w) 83 A n c (by rw [yy202]; exact Tryz.underlying83) .i64 (k : Int) (by omega) (by omega), yy202, yy408]
 simp [Result.andThen, sliced, yy187]
theorem yy510 (A : Option Addr) (n c k : Nat) (hk : k ≤ n) (w : World) : (Instr.slice 83 (.slice A n c) (some (.int .i64 (k : Int))) none none).run Tryz.prog w = .ok (.slice (numLow A k c) (n - k) (c - k)) w := by
 rw [run_slice_l (P := Tryz.prog) (w := w) 83 A n c (by rw [yy202]; exact Tryz.underlying83) .i64 (k : Int) (by omega) (by omega), yy202, yy408]
 simp [Result.andThen, sliced, numLow]
theorem yy248 (l : List (Int)) (k : Nat) : (l.take k).flatMap intCells = (l.flatMap intCells).take (k * 1) := by
 induction l generalizing k with
 | nil => simp
 | cons y l ih =>
  cases k with
  | zero => simp
  | succ k =>
   have e5 : (k + 1) * 1 = (intCells y).length + k * 1 := by
    rw [show (intCells y).length = 1 from rfl]
    omega
   rw [List.take_succ_cons, List.flatMap_cons, List.flatMap_cons, ih, e5, List.take_length_add_append]
theorem yy249 (l : List (Int)) (k : Nat) : (l.drop k).flatMap intCells = (l.flatMap intCells).drop (k * 1) := by
 induction l generalizing k with
 | nil => simp
 | cons y l ih =>
  cases k with
  | zero => simp
  | succ k =>
   have e5 : (k + 1) * 1 = (intCells y).length + k * 1 := by
    rw [show (intCells y).length = 1 from rfl]
    omega
   rw [List.drop_succ_cons, List.flatMap_cons, ih, e5, List.drop_length_add_append]
theorem NumsAt.high {w : World} {A : Option Addr} {l : List (Int)} (h : NumsAt w A l) (c k : Nat) : NumsAt w (yy187 A c) (l.take k) := by
 have ht : NumsAt w A (l.take k) := by
  rcases h with h | ⟨b, off, rfl, hlt, hc⟩
  ·left; rw [yy248, h]; simp
  ·right
   refine ⟨b, off, rfl, hlt, fun j v hj => hc j v ?_⟩
   rw [yy248, List.getElem?_take] at hj
   split at hj
   ·exact hj
   ·cases hj
 unfold yy187
 split
 ·exact ht
 ·rcases ht with h | ⟨b, off, rfl, hlt, hc⟩
  ·exact .inl h
  ·have e : (some (⟨b, off, none⟩ : Addr)).map (·.add (0 * 1)) = some ⟨b, off, none⟩ := rfl
   rw [e]
   exact .inr ⟨b, off, rfl, hlt, hc⟩
theorem NumsAt.low {w : World} {A : Option Addr} {l : List (Int)} (h : NumsAt w A l) (c k : Nat) (hc : l.length ≤ c) : NumsAt w (numLow A k c) (l.drop k) := by
 unfold numLow
 split
 ·left; rw [List.drop_eq_nil_of_le (by omega)]; rfl
 ·rcases h with h | ⟨b, off, rfl, hlt, hcc⟩
  ·left; rw [yy249, h]; simp
  ·have e : (some (⟨b, off, none⟩ : Addr)).map (·.add (k * 1)) = some ⟨b, off + k * 1, none⟩ := by
    show some ((⟨b, off, none⟩ : Addr).add (k * 1)) = _
    rw [Go.WideShapes.add_plain]
   rw [e]
   right
   refine ⟨b, off + k * 1, rfl, hlt, fun j v hj => ?_⟩
   rw [yy249, List.getElem?_drop] at hj
   rw [Nat.add_assoc]
   exact hcc _ v hj
attribute [irreducible] yy187 numLow
end Go.Proofs.YtjpjdkdbgjipnaaGreatDoor
namespace Go.Proofs.YtjpjdkdbgjipnaaGreatDoor
open Go.ChangeShapes Go.WideShapes Go.ChangeAt Go.RowKit Go.Deep
def confC : Array Value := #[.int .i64 4, .int .i64 2, .int .i64 0, .int .i64 12, .int .i64 2, .int .i64 9, .int .i64 2, .int .i64 13, .int .i64 3, .int .i64 2, .int .i64 0, .int .i64 12, .int .i64 3, .int .i64 16, .int .i64 0, .int .i64 13, .int .i64 1, .int .i64 4, .int .i64 0, .int .i64 13, .int .i64 1, .int .i64 32, .int .i64 0, .int .i64 12, .int .i64 3, .int .i64 32, .int .i64 0, .int .i64 12]
def ConfAt (w : World) : Prop := ∃ t f, w.heap[0]? = some (.cells confC t f)
theorem ConfAt.lt {w : World} (h : ConfAt w) : 0 < w.heap.size := by
 obtain ⟨t, f, h⟩ := h
 exact (Array.getElem?_eq_some_iff.1 h).1
theorem ConfAt.below {w w' : World} (h : ConfAt w) (hb : Below w.heap.size w w') : ConfAt w' := by
 have hl := h.lt
 obtain ⟨t, f, h⟩ := h
 exact ⟨t, f, (hb.block _ hl).trans h⟩
section
variable {H : Type} {enc : TypeId × Value → H} {w : World} {base : Nat} {sp : Nat → Bool} {held : Bool}
set_option maxRecDepth 100000 in
theorem yy362 {m o : Nat} {R : List Value} {a : Int} {p : List MemPlace} (h : DataW.trod enc Tryz.prog w base sp held m 3 ((R.drop o).take (Tryz.prog.cellsOf 3)) = some (.lit (.int .i64 a), p)) : R[o]? = some (.int .i64 a) := by
 obtain ⟨n, e, hx, _⟩ := DataW.trod_int Tryz.underlying3 h
 injection hx with hx _
 injection hx with hx
 injection hx with _ hx
 rw [show Tryz.prog.cellsOf 3 = 1 by kernel_rfl] at e
 rw [hx]
 exact yy131 e
set_option maxRecDepth 100000 in
theorem yy531 {m o : Nat} {R : List Value} {a : Int} {p : List MemPlace} (h : DataW.trod enc Tryz.prog w base sp held m 36 ((R.drop o).take (Tryz.prog.cellsOf 36)) = some (.lit (.int .i64 a), p)) : R[o]? = some (.int .i64 a) := by
 obtain ⟨n, e, hx, _⟩ := DataW.trod_int Tryz.underlying36 h
 injection hx with hx _
 injection hx with hx
 injection hx with _ hx
 rw [show Tryz.prog.cellsOf 36 = 1 by kernel_rfl] at e
 rw [hx]
 exact yy131 e
set_option maxRecDepth 100000 in
theorem yy137 {m : Nat} {r0 r1 r2 r3 : Value} {a b c d : Int} {p : List MemPlace} (h : DataW.trod enc Tryz.prog w base sp held m 81 [r0, r1, r2, r3] = some (.agg [.lit (.int .i64 a), .lit (.int .i64 b), .lit (.int .i64 c), .lit (.int .i64 d)], p)) :
  r0 = .int .i64 a ∧ r1 = .int .i64 b ∧ r2 = .int .i64 c ∧ r3 = .int .i64 d := by
 obtain ⟨xs, n, _, hx, hl, hlen, hg⟩ := DataW.trod_struct Tryz.underlying81 h
 match xs, hlen with
 | [y0, y1, y2, y3], _ =>
 have h0 := hg 0 _ rfl
 have h1 := hg 1 _ rfl
 have h2 := hg 2 _ rfl
 have h3 := hg 3 _ rfl
 injection hx with hx _
 simp only [List.map_cons, List.map_nil, DataW.agg.injEq, List.cons.injEq, and_true] at hx
 obtain ⟨e0, e1, e2, e3⟩ := hx
 obtain ⟨z0, q0⟩ := y0
 obtain ⟨z1, q1⟩ := y1
 obtain ⟨z2, q2⟩ := y2
 obtain ⟨z3, q3⟩ := y3
 simp only at e0 e1 e2 e3
 subst e0 e1 e2 e3
 have k0 := yy362 (R := [r0, r1, r2, r3]) (o := 0) h0
 have k1 := yy362 (R := [r0, r1, r2, r3]) (o := 1) h1
 have k2 := yy362 (R := [r0, r1, r2, r3]) (o := 2) h2
 have k3 := yy531 (R := [r0, r1, r2, r3]) (o := 3) h3
 simp only [List.getElem?_cons_zero, List.getElem?_cons_succ, Option.some.injEq] at k0 k1 k2 k3
 exact ⟨k0, k1, k2, k3⟩
set_option maxRecDepth 100000 in
set_option maxHeartbeats 1000000 in
theorem yy532 {m : Nat} {cs : List Value} {p : List MemPlace} (h : DataW.trod enc Tryz.prog w base sp held m 82 cs = some (Rows.laid_ropewalk_rebase_conflicts, p)) : cs = confC.toList := by
 obtain ⟨xs, n, _, hx, hl, hlen, hg⟩ := DataW.trod_array Tryz.underlying82 h
 rw [show Tryz.prog.cellsOf 82 = 28 by kernel_rfl] at hl
 rw [show Tryz.prog.cellsOf 81 = 4 by kernel_rfl] at hg
 match cs, hl with
 | [a0, a1, a2, a3, b0, b1, b2, b3, c0, c1, c2, c3, d0, d1, d2, d3, e0, e1, e2, e3, f0, f1, f2, f3, g0, g1, g2, g3], _ =>
 match xs, hlen with
 | [y0, y1, y2, y3, y4, y5, y6], _ =>
 have h0 := hg 0 (by omega)
 have h1 := hg 1 (by omega)
 have h2 := hg 2 (by omega)
 have h3 := hg 3 (by omega)
 have h4 := hg 4 (by omega)
 have h5 := hg 5 (by omega)
 have h6 := hg 6 (by omega)
 unfold Rows.laid_ropewalk_rebase_conflicts at hx
 injection hx with hx _
 simp only [List.map_cons, List.map_nil, DataW.agg.injEq, List.cons.injEq, and_true] at hx
 obtain ⟨k0, k1, k2, k3, k4, k5, k6⟩ := hx
 obtain ⟨z0, q0⟩ := y0
 obtain ⟨z1, q1⟩ := y1
 obtain ⟨z2, q2⟩ := y2
 obtain ⟨z3, q3⟩ := y3
 obtain ⟨z4, q4⟩ := y4
 obtain ⟨z5, q5⟩ := y5
 obtain ⟨z6, q6⟩ := y6
 simp only at k0 k1 k2 k3 k4 k5 k6
 subst k0 k1 k2 k3 k4 k5 k6
 obtain ⟨rfl, rfl, rfl, rfl⟩ := yy137 h0
 obtain ⟨rfl, rfl, rfl, rfl⟩ := yy137 h1
 obtain ⟨rfl, rfl, rfl, rfl⟩ := yy137 h2
 obtain ⟨rfl, rfl, rfl, rfl⟩ := yy137 h3
 obtain ⟨rfl, rfl, rfl, rfl⟩ := yy137 h4
 obtain ⟨rfl, rfl, rfl, rfl⟩ := yy137 h5
 obtain ⟨rfl, rfl, rfl, rfl⟩ := yy137 h6
 rfl
end
set_option maxRecDepth 100000 in
theorem yy363 {w : World} (h : laidMet Tryz.prog [("ropewalk/rebase.conflicts", Rows.laid_ropewalk_rebase_conflicts)] w) : ConfAt w := by
 obtain ⟨ps, ⟨g, t, cs, fuel, p, q, hg, ht, hv, htr, _⟩, _⟩ := h
 obtain rfl : 0 = g := Option.some.inj ((show Tryz.prog.globalNamed "ropewalk/rebase.conflicts" = some 0 by kernel_rfl).symm.trans hg)
 obtain rfl : 82 = t := Option.some.inj ((show (Tryz.prog.globals[0]?).map (·.type) = some 82 by kernel_rfl).symm.trans ht)
 have hc := yy532 htr
 have e : cs = confC := by rw [← Array.toList_inj]; exact hc
 subst e
 unfold World.var? at hv
 rw [hg] at hv
 simp only [Option.bind_some] at hv
 split at hv
 ·rename_i c1 t1 f1 h1
  injection hv with hv
  subst hv
  exact ⟨t1, f1, h1⟩
 ·cases hv
end Go.Proofs.YtjpjdkdbgjipnaaGreatDoor
namespace Go.Proofs.YtjpjdkdbgjipnaaGreatDoor
open Go.ChangeShapes Go.WideShapes Go.ChangeAt Go.RowKit
def yy763 : Obj → Obj
 | .cells _ t frozen => .cells confC t frozen
 | o => o
noncomputable def yy293 (os : Os) : World :=
 { World.holding Tryz.prog os ⟨#[], #[], []⟩ with heap := (World.holding Tryz.prog os ⟨#[], #[], []⟩).heap.modify 0 yy763 }
end Go.Proofs.YtjpjdkdbgjipnaaGreatDoor
