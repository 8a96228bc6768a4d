/- What the guards of the statements say of acts and of what was done. No condition. (Merged of 5 texts.) -/
import Derived.Test.YtnadhpajelkngaaKCells
import Derived.Test.YtnadhpajelkngaaKAl
import Derived.Test.YtnadhpajelkngaaKBase
import Derived.Lib.SlicesCompact
import Derived.Test.YtnadhpajelkngaaKEdit
/- What was done to whom, as it comes in: what it holds, as which cells it lies, and how such arguments are opened. Condition: no slice and no text is longer than memory. -/
namespace Go.Proofs.Ytnadhpajelkngaa
open Go.ChangeShapes Go.WideShapes Go.ChangeAt Go.RowKit Go.Deep

/-- What was done to one ID. -/
structure OneK where
  id : Int
  ops : List CompV
  edited : Bool
  removed : Bool
  created : Bool
  moved : Bool
  parent : Int
  name : List Nat
/-- The same, with where its parts lie. -/
structure OneV where
  k : OneK
  opsA : Option Addr
  opsC : Nat
instance : Inhabited OneV := ⟨⟨⟨0, [], false, false, false, false, 0, []⟩, none, 0⟩⟩
def OneV.Good (c : OneV) : Prop := Fit64 c.k.id ∧ Fit64 c.k.parent ∧ Bytes c.k.name ∧ (∀ y ∈ c.k.ops, y.Good) ∧ c.k.ops.length ≤ c.opsC ∧ c.opsC ≤ maxLen
def oneCells (c : OneV) : List Value := [.int .i64 c.k.id, .slice c.opsA c.k.ops.length c.opsC, .bool c.k.edited, .bool c.k.removed, .bool c.k.created, .bool c.k.moved, .int .i64 c.k.parent, .string (bstr c.k.name)]
theorem oneCells_length (c : OneV) : (oneCells c).length = 8 := rfl
def OnesAt (w : World) (A : Option Addr) (l : List OneV) : Prop := CellsAt w A (l.flatMap oneCells) ∧ ∀ y ∈ l, CompsAt w y.opsA y.k.ops
theorem OnesAt.below {w w' : World} {A : Option Addr} {l : List OneV} (h : OnesAt w A l) (hb : Below w.heap.size w w') : OnesAt w' A l := ⟨CellsAt.below h.1 hb, fun y hy => (h.2 y hy).below hb⟩
theorem OnesAt.drew {w : World} {A : Option Addr} {l : List OneV} (h : OnesAt w A l) : OnesAt w.drew A l := h
theorem OnesAt.form {w : World} {A : Option Addr} {l : List OneV} (h : OnesAt w A l) (h0 : 0 < l.length) : ∃ b off, A = some ⟨b, off, none⟩ ∧ b < w.heap.size :=
  CellsAt.form h.1 (by intro e; have := congrArg List.length e; rw [flat_length oneCells 8 oneCells_length] at this; simp at this; omega)
theorem OnesAt.at_ {w : World} {b off : Nat} {l : List OneV} (h : OnesAt w (some ⟨b, off, none⟩) l) {i : Nat} (hi : i < l.length) :
    w.cell? ⟨b, off + i * 8, none⟩ = some (.int .i64 l[i].k.id) ∧ w.cell? ⟨b, off + i * 8 + 1, none⟩ = some (.slice l[i].opsA l[i].k.ops.length l[i].opsC) ∧ w.cell? ⟨b, off + i * 8 + 2, none⟩ = some (.bool l[i].k.edited) ∧ w.cell? ⟨b, off + i * 8 + 3, none⟩ = some (.bool l[i].k.removed) ∧
      w.cell? ⟨b, off + i * 8 + 4, none⟩ = some (.bool l[i].k.created) ∧ w.cell? ⟨b, off + i * 8 + 5, none⟩ = some (.bool l[i].k.moved) ∧ w.cell? ⟨b, off + i * 8 + 6, none⟩ = some (.int .i64 l[i].k.parent) ∧ w.cell? ⟨b, off + i * 8 + 7, none⟩ = some (.string (bstr l[i].k.name)) := by
  refine ⟨?_, ?_, ?_, ?_, ?_, ?_, ?_, ?_⟩
  · exact CellsAt.cell h.1 (j := i * 8 + 0) (by rw [flat_get oneCells 8 oneCells_length l i hi 0 (by omega)]; rfl)
  · rw [Nat.add_assoc]; exact CellsAt.cell h.1 (by rw [flat_get oneCells 8 oneCells_length l i hi 1 (by omega)]; rfl)
  · rw [Nat.add_assoc]; exact CellsAt.cell h.1 (by rw [flat_get oneCells 8 oneCells_length l i hi 2 (by omega)]; rfl)
  · rw [Nat.add_assoc]; exact CellsAt.cell h.1 (by rw [flat_get oneCells 8 oneCells_length l i hi 3 (by omega)]; rfl)
  · rw [Nat.add_assoc]; exact CellsAt.cell h.1 (by rw [flat_get oneCells 8 oneCells_length l i hi 4 (by omega)]; rfl)
  · rw [Nat.add_assoc]; exact CellsAt.cell h.1 (by rw [flat_get oneCells 8 oneCells_length l i hi 5 (by omega)]; rfl)
  · rw [Nat.add_assoc]; exact CellsAt.cell h.1 (by rw [flat_get oneCells 8 oneCells_length l i hi 6 (by omega)]; rfl)
  · rw [Nat.add_assoc]; exact CellsAt.cell h.1 (by rw [flat_get oneCells 8 oneCells_length l i hi 7 (by omega)]; rfl)
section
variable {H : Type} {enc : TypeId × Value → H} {w : World}
set_option maxRecDepth 100000 in
theorem open_ones_cells {fuel : Nat} {cs : List Value} {x : DataW H × List MemPlace} (h : DataW.trod enc Try.prog w 0 (fun _ => true) true fuel 44 cs = some x) (hlt : ∀ p ∈ x.2, p.block < w.heap.size) :
    ∃ A l c, cs = [.slice A (List.length l) c] ∧ OnesAt w A l ∧ (∀ y ∈ l, y.Good) ∧ l.length ≤ c ∧ c ≤ maxLen := by
  obtain ⟨A, n, cap, m, rfl, hn, hcap, hform, hrec⟩ := open_records (k := 8) Try.underlying44 Try.underlying50 (by kernel_rfl) h hlt
  have each : ∀ i, i < n → ∃ y : OneV, (y.Good ∧ CompsAt w y.opsA y.k.ops) ∧ ∀ b off, A = some ⟨b, off, none⟩ → ∀ j, j < 8 → w.cell? ⟨b, off + (i * 8 + j), none⟩ = (oneCells y)[j]? := by
    intro i hi
    obtain ⟨R, hR, hcell, hf⟩ := hrec i hi
    obtain ⟨y0, h0, _⟩ := hf 0 _ rfl
    obtain ⟨y1, h1, p1⟩ := hf 1 _ rfl
    obtain ⟨y2, h2, _⟩ := hf 2 _ rfl
    obtain ⟨y3, h3, _⟩ := hf 3 _ rfl
    obtain ⟨y4, h4, _⟩ := hf 4 _ rfl
    obtain ⟨y5, h5, _⟩ := hf 5 _ rfl
    obtain ⟨y6, h6, _⟩ := hf 6 _ rfl
    obtain ⟨y7, h7, _⟩ := hf 7 _ rfl
    obtain ⟨k0, e0, w0⟩ := rec_int (o := 0) h0
    obtain ⟨A1, l1, c1, e1, at1, g1, n1, m1⟩ := rec_comps (o := 1) h1 p1
    obtain ⟨b2, e2⟩ := rec_bool (o := 2) h2
    obtain ⟨b3, e3⟩ := rec_bool (o := 3) h3
    obtain ⟨b4, e4⟩ := rec_bool (o := 4) h4
    obtain ⟨b5, e5⟩ := rec_bool (o := 5) h5
    obtain ⟨k6, e6, w6⟩ := rec_int (o := 6) h6
    obtain ⟨l7, e7, w7⟩ := rec_text (o := 7) h7
    match R, hR with
    | [r0, r1, r2, r3, r4, r5, r6, r7], _ =>
      simp only [List.getElem?_cons_zero, List.getElem?_cons_succ, Option.some.injEq] at e0 e1 e2 e3 e4 e5 e6 e7
      subst e0 e1 e2 e3 e4 e5 e6 e7
      exact ⟨⟨⟨k0, l1, b2, b3, b4, b5, k6, l7⟩, A1, c1⟩, ⟨⟨w0, w6, w7, g1, n1, m1⟩, at1⟩, hcell⟩
  obtain ⟨f, hf⟩ := choose_lt each
  refine ⟨A, (List.range n).map f, cap, by simp, ⟨cellsAt_of oneCells 8 (by omega) oneCells_length f hform (fun i hi => (hf i hi).2), ?_⟩, ?_, by simpa using hn, hcap⟩
  · intro y hy
    obtain ⟨i, hi, rfl⟩ := List.mem_map.1 hy
    exact (hf i (List.mem_range.1 hi)).1.2
  · intro y hy
    obtain ⟨i, hi, rfl⟩ := List.mem_map.1 hy
    exact (hf i (List.mem_range.1 hi)).1.1
end
end Go.Proofs.Ytnadhpajelkngaa

/- The contract of law15.small: called with any acts it answers their weight, held at a limit; what was there stays as it was. Condition: no slice and no text is longer than memory. -/
namespace Go.Proofs.Ytnadhpajelkngaa
open Go.RowKit Go.Deep

def oneTerms (limit : Nat) (c : OneV) : List Nat := [c.k.name.length, compsWeight limit c.k.ops, 3]
def onesWeight (limit : Nat) (l : List OneV) : Nat := wts limit 0 (l.map (oneTerms limit))

def smallO (l : List OneV) : Bool := decide (onesWeight 3000 l ≤ 3000)
set_option maxHeartbeats 1000000 in
set_option maxRecDepth 100000 in
theorem oneSmall_row (b off cap : Nat) (l : List OneV) (hl : l.length ≤ maxLen) (hg : ∀ y ∈ l, y.Good) (w : World) (hc : OnesAt w (some ⟨b, off, none⟩) l) :
    Calls Try.prog 16 #[.slice (some ⟨b, off, none⟩) l.length cap] w fun e w' => e = .returned (.bool (smallO l)) ∧ Below w.heap.size w w' := by
  unfold maxLen at hl
  have HC := Lib.hid hc; clear hc
  have HG := Lib.hid hg; clear hg
  unfold smallO
  obtain ⟨T, HT⟩ : ∃ T, Hid (onesWeight 3000 l = T) := ⟨_, rfl⟩
  rw [HT.out]
  go_enter Try.func16, Try.ntmps16
  go_wp2
  go_loopw [3, 4] (fun t i wr => ∃ k m : Nat, k ≤ l.length ∧ i = .int .i64 k ∧ t = .int .i64 (m : Int) ∧ m ≤ 1099511627776 ∧ wts 3000 m ((l.map (oneTerms 3000)).drop k) = T ∧ Below w.heap.size w wr) (fun _ i _ => l.length - (intOf i).toNat)
  case atStart => exact ⟨0, 0, Nat.zero_le _, rfl, rfl, by omega, HT.out, Below.refl _ _⟩
  case round =>
    obtain ⟨k, m, hk, rfl, rfl, hm, he, hbel⟩ := hrel
    have HE := Lib.hid he; clear he
    have HB := Lib.hid hbel; clear hbel
    by_cases hlt : k < l.length
    · have HW := Lib.hid (HE.out ▸ wts_drop 3000 m (l.map (oneTerms 3000)) k (by simpa using hlt) : T = _)
      have HX : Hid ((l.map (oneTerms 3000))[k]'(by simpa using hlt) = [l[k].k.name.length, compsWeight 3000 l[k].k.ops, 3]) := by show _ = _; rw [List.getElem_map]; rfl
      by_cases hml : m ≤ 3000
      · have hmi : (m : Int) ≤ 3000 := by omega
        have HCA := Lib.hid ((HC.out.below HB.out).at_ hlt)
        have hgk := HG.out _ (List.getElem_mem hlt)
        have hx1 := hgk.2.2.1.2
        have hx2 : l[k].k.ops.length ≤ maxLen := Nat.le_trans hgk.2.2.2.2.1 hgk.2.2.2.2.2
        have HCM := Lib.hid (fun (wx : World) (hh : CompsAt wx l[k].opsA l[k].k.ops) => alikeComps_at 3000 l[k].opsC hx2 hgk.2.2.2.1 wx hh)
        have HOP := Lib.hid (HC.out.2 _ (List.getElem_mem hlt))
        clear hgk
        unfold maxLen at hx1 hx2
        have hs1 := bstr_size l[k].k.name
        obtain ⟨S1, HS1⟩ : ∃ S, Hid (bstr l[k].k.name = S) := ⟨bstr l[k].k.name, Lib.hid rfl⟩
        obtain ⟨a, HA⟩ : ∃ a, Hid (l[k].k.name.length = a) := ⟨l[k].k.name.length, Lib.hid rfl⟩
        obtain ⟨c, HCC⟩ : ∃ a, Hid (compsWeight 3000 l[k].k.ops = a) := ⟨compsWeight 3000 l[k].k.ops, Lib.hid rfl⟩
        have hc40 : c ≤ 1099511627776 := by rw [← HCC.out]; exact wts_held 3000 _ 0 (by omega)
        obtain ⟨O, HO⟩ : ∃ a, Hid (l[k].k.ops = a) := ⟨l[k].k.ops, Lib.hid rfl⟩
        obtain ⟨OA, HOA⟩ : ∃ a, Hid (l[k].opsA = a) := ⟨l[k].opsA, Lib.hid rfl⟩
        obtain ⟨OC, HOC⟩ : ∃ a, Hid (l[k].opsC = a) := ⟨l[k].opsC, Lib.hid rfl⟩
        rw [HS1.out, HO.out, HOA.out, HOC.out] at HCA
        rw [HS1.out] at hs1
        rw [HA.out] at hs1 hx1 HX
        rw [HCC.out] at HX HCM
        rw [HO.out, HOC.out, HOA.out] at HCM
        rw [HO.out, HOA.out] at HOP
        have hk2 : Hid (wr.cell? ⟨b, off + k * 8 + 7, none⟩ = some (.string S1)) := HCA.out.2.2.2.2.2.2.2
        have hk4 : Hid (wr.cell? ⟨b, off + k * 8 + 1, none⟩ = some (.slice OA O.length OC)) := HCA.out.2.1
        have HR : Hid (wts 3000 (capSum m [a, c, 3]) ((l.map (oneTerms 3000)).drop (k + 1)) = T) := by show _ = _; rw [HW.out, if_pos hml, HX.out]
        obtain ⟨r, HRR⟩ : ∃ r, Hid (capSum m [a, c, 3] = r) := ⟨_, rfl⟩
        have hr : r ≤ 1099511627776 := by rw [← HRR.out]; exact capSum_held _ m hm
        rw [HRR.out] at HR
        have HN := Lib.hid (fun (wx : World) (t : TypeId) g hg' => nats_lit wx t #[.int .i64 (a : Int), .int .i64 (c : Int), .int .i64 3] [a, c, 3] (fun j x hx => by
          match j, hx with
          | 0, hx => cases hx; rfl
          | 1, hx => cases hx; rfl
          | 2, hx => cases hx; rfl) g hg')
        have HS := Lib.hid (fun (wx : World) g (hn : NatsAt wx g 0 [a, c, 3]) => alikeSum_row m (by omega) g 0 3 [a, c, 3] (by simp [maxLen]) (by simp; omega) wx hn)
        rw [HRR.out] at HS
        clear HW HRR HCA
        go_wp2_with fail
        refine wp_region_lit [(0, true), (1, true), (2, true), (3, true), (4, true), (5, true), (6, true), (7, true), (8, true), (9, true), (10, true), (11, true), (12, false), (13, false), (14, false), (15, true)] (by kernel_rfl) (by kernel_rfl) (fun _ _ d _ _ h => by cases d <;> exact h) ?_
        simp only [picked, List.map_cons, List.map_nil, List.getElem?_cons_succ, List.getElem?_cons_zero, Option.getD_some]
        have hq2 := fun e : Ext wr.drew => Ext.cell (w := wr.drew) hk2.out e
        have hq4 := fun e : Ext wr.drew => Ext.cell (w := wr.drew) hk4.out e
        repeat (first | (refine wpL_quiet (by rfl) (fun K hK => ?_); go_big_quiet_op; refine hK _ ?_; clear hK K) | (refine wpL_skip (by rfl) ?_; simp only [Act.put, List.setIfInBounds_toArray, List.set_cons_zero, List.set_cons_succ]))
        clear hq2 hq4
        refine wpL_call (by rfl) (fun K hK => ?_)
        go_simp
        refine (HCM.out _ (CompsAt.drew (HOP.out.below HB.out))).mono ?_
        rintro e w1 ⟨rfl, hb1⟩
        have HB1 := Lib.hid hb1
        refine hK _ _ hb1 ?_
        clear hK K hb1
        repeat (first | (refine wpL_quiet (by rfl) (fun K hK => ?_); go_big_quiet_op; refine hK _ ?_; clear hK K) | (refine wpL_skip (by rfl) ?_; simp only [Act.put, List.setIfInBounds_toArray, List.set_cons_zero, List.set_cons_succ]))
        refine wpL_call (by rfl) (fun K hK => ?_)
        go_simp
        refine hK _ _ ((Below.refl _ _).alloc (Nat.le_refl _) _) ?_
        clear hK K
        repeat (first | (refine wpL_quiet (by rfl) (fun K hK => ?_); go_big_quiet_op; refine hK _ ?_; clear hK K) | (refine wpL_skip (by rfl) ?_; simp only [Act.put, List.setIfInBounds_toArray, List.set_cons_zero, List.set_cons_succ]))
        refine wpL_call (by rfl) (fun K hK => ?_)
        go_simp
        refine (HS.out _ _ (HN.out w1 _ _ rfl)).mono ?_
        rintro e w2 ⟨rfl, rfl⟩
        refine hK _ _ (Below.refl _ _) ?_
        clear hK K
        repeat (first | (refine wpL_quiet (by rfl) (fun K hK => ?_); go_big_quiet_op; refine hK _ ?_; clear hK K) | (refine wpL_skip (by rfl) ?_; simp only [Act.put, List.setIfInBounds_toArray, List.set_cons_zero, List.set_cons_succ]))
        refine wpL_nil ?_
        go_wp2
        go_roundw
        case rel => exact ⟨k + 1, r, by omega, by go_num, rfl, hr, HR.out, balloc (bstep HB.out.drew HB1.out) _⟩
        case measure => simp [intOf]; omega
      · have HR : Hid (m = T) := by show _ = _; rw [HW.out, if_neg hml]
        have hml' : ¬ (m : Int) ≤ 3000 := by omega
        have hmd : decide (m ≤ 3000) = false := decide_eq_false hml
        go_wp2
        go_ret
        exact ⟨by rw [← HR.out]; simp [*] <;> omega, HB.out⟩
    · have HR : Hid (m = T) := by
        show m = T
        rw [← HE.out, List.drop_eq_nil_of_le (by simp; omega), wts_nil]
      go_wp2
      go_ret
      exact ⟨by rw [← HR.out]; simp [*] <;> omega, HB.out⟩
theorem oneSmall_nil (A : Option Addr) (cap : Nat) (w : World) :
    Calls Try.prog 16 #[.slice A 0 cap] w fun e w' => e = .returned (.bool (smallO [])) ∧ Below w.heap.size w w' := by
  have HR : Hid (smallO [] = true) := by show smallO [] = true; unfold smallO; rw [onesWeight, List.map_nil, wts_nil]; rfl
  go_enter Try.func16, Try.ntmps16
  go_wp2
  refine wp_loop_rounds 1 ?_
  rw [rounds_succ]
  go_wp2
  go_ret
  exact ⟨by rw [HR.out]; rfl, Below.refl _ _⟩
theorem oneSmall_at {A : Option Addr} {l : List OneV} (cap : Nat) (hl : l.length ≤ maxLen) (hg : ∀ y ∈ l, y.Good) (w : World) (h : OnesAt w A l) :
    Calls Try.prog 16 #[.slice A l.length cap] w fun e w' => e = .returned (.bool (smallO l)) ∧ Below w.heap.size w w' := by
  cases l with
  | nil => exact oneSmall_nil A cap w
  | cons c l =>
    obtain ⟨b, off, rfl, _⟩ := h.form (by simp)
    exact oneSmall_row b off cap _ hl hg w h
end Go.Proofs.Ytnadhpajelkngaa

/- Rising numbers, put in one by one, each once; sorted and made compact they are the same. No condition. -/
namespace Go.Proofs.Ytnadhpajelkngaa
open Go.Lib

/-- Where a number goes among rising ones. -/
def tAt (x : Int) (out : List Int) : Nat → Nat
  | 0 => 0
  | k + 1 => if x < out[k]?.getD 0 then tAt x out k else k + 1
theorem tAt_le (x : Int) (out : List Int) : ∀ k, tAt x out k ≤ k
  | 0 => Nat.le_refl _
  | k + 1 => by
    rw [tAt]
    split
    · exact Nat.le_succ_of_le (tAt_le x out k)
    · exact Nat.le_refl _
theorem tAt_yes {x : Int} {out : List Int} {k : Nat} (hk : k < out.length) (h : x < out[k]) : tAt x out (k + 1) = tAt x out k := by
  rw [tAt, List.getElem?_eq_getElem hk, Option.getD_some, if_pos h]
theorem tAt_no {x : Int} {out : List Int} {k : Nat} (hk : k < out.length) (h : ¬ x < out[k]) : tAt x out (k + 1) = k + 1 := by
  rw [tAt, List.getElem?_eq_getElem hk, Option.getD_some, if_neg h]
/-- A number put in, once. -/
def tPut (out : List Int) (x : Int) : List Int :=
  if 0 < tAt x out out.length ∧ out[tAt x out out.length - 1]? = some x then out else (out.take (tAt x out out.length) ++ [x]) ++ out.drop (tAt x out out.length)
theorem tPut_len (out : List Int) (x : Int) : (tPut out x).length ≤ out.length + 1 := by
  unfold tPut
  split
  · omega
  · simp
    omega
theorem foldPut_len (xs : List Int) : ∀ out : List Int, (xs.foldl tPut out).length ≤ out.length + xs.length := by
  induction xs with
  | nil => intro out; simp
  | cons x xs ih =>
    intro out
    have h1 := ih (tPut out x)
    have h2 := tPut_len out x
    rw [List.foldl_cons, List.length_cons]
    omega
def Rise (l : List Int) : Prop := l.Pairwise (· < ·)
theorem tAt_spec {x : Int} {out : List Int} : ∀ {k : Nat}, k ≤ out.length → (∀ (i : Nat) (h : i < out.length), tAt x out k ≤ i → i < k → x < out[i]) ∧ (0 < tAt x out k → ∃ h2 : tAt x out k - 1 < out.length, ¬ x < out[tAt x out k - 1])
  | 0, _ => ⟨fun i h h1 h2 => absurd h2 (by omega), fun h => absurd h (by simp [tAt])⟩
  | k + 1, hk => by
    have hk' : k < out.length := by omega
    by_cases hx : x < out[k]
    · rw [tAt_yes hk' hx]
      obtain ⟨g1, g2⟩ := tAt_spec (x := x) (out := out) (k := k) (by omega)
      refine ⟨fun i h h1 h2 => ?_, g2⟩
      by_cases e : i = k
      · subst e; exact hx
      · exact g1 i h h1 (by omega)
    · rw [tAt_no hk' hx]
      exact ⟨fun i h h1 h2 => absurd h2 (by omega), fun _ => ⟨show k + 1 - 1 < out.length from hk', by simpa using hx⟩⟩
theorem tPut_mem {out : List Int} {x y : Int} : y ∈ tPut out x ↔ y = x ∨ y ∈ out := by
  unfold tPut
  split
  · rename_i h
    have hx : x ∈ out := List.mem_of_getElem? h.2
    exact ⟨.inr, fun g => g.elim (fun e => by rw [e]; exact hx) id⟩
  · rw [List.mem_append, List.mem_append, List.mem_singleton]
    have e := List.take_append_drop (tAt x out out.length) out
    constructor
    · rintro ((g | g) | g)
      · exact .inr (List.mem_of_mem_take g)
      · exact .inl g
      · exact .inr (List.mem_of_mem_drop g)
    · rintro (g | g)
      · exact .inl (.inr g)
      · rw [← e] at g
        rcases List.mem_append.1 g with g | g
        · exact .inl (.inl g)
        · exact .inr g
theorem tPut_rise {out : List Int} {x : Int} (h : Rise out) : Rise (tPut out x) := by
  unfold tPut
  split
  · exact h
  · rename_i hn
    obtain ⟨s1, s2⟩ := tAt_spec (x := x) (out := out) (Nat.le_refl out.length)
    have hq := tAt_le x out out.length
    generalize tAt x out out.length = q at hn s1 s2 hq
    unfold Rise at h ⊢
    have e := List.take_append_drop q out
    rw [← e, List.pairwise_append] at h
    obtain ⟨p1, p2, p3⟩ := h
    have lo : ∀ y ∈ out.take q, y < x := by
      intro y hy
      have hq0 : 0 < q := by
        rcases Nat.eq_zero_or_pos q with e0 | e0
        · rw [e0] at hy; simp at hy
        · exact e0
      obtain ⟨h2, h3⟩ := s2 hq0
      have hne : out[q - 1] ≠ x := fun e => hn ⟨hq0, by rw [List.getElem?_eq_getElem h2, e]⟩
      have hlast : out[q - 1] < x := by omega
      obtain ⟨i, hi, e2⟩ := List.getElem_of_mem hy
      rw [List.length_take] at hi
      rw [List.getElem_take] at e2
      by_cases hi2 : i = q - 1
      · subst hi2; rw [← e2]; exact hlast
      · have hp := List.pairwise_iff_getElem.1 p1 i (q - 1) (by rw [List.length_take]; omega) (by rw [List.length_take]; omega) (by omega)
        rw [List.getElem_take, List.getElem_take, e2] at hp
        omega
    have hi : ∀ y ∈ out.drop q, x < y := by
      intro y hy
      obtain ⟨i, hi, e2⟩ := List.getElem_of_mem hy
      rw [List.length_drop] at hi
      rw [List.getElem_drop] at e2
      rw [← e2]
      exact s1 (q + i) (by omega) (by omega) (by omega)
    rw [List.pairwise_append, List.pairwise_append]
    refine ⟨⟨p1, by simp, fun a ha b hb => by rw [List.mem_singleton.1 hb]; exact lo a ha⟩, p2, fun a ha b hb => ?_⟩
    rcases List.mem_append.1 ha with g | g
    · exact p3 a g b hb
    · rw [List.mem_singleton.1 g]; exact hi b hb
theorem fold_rise (xs : List Int) : ∀ {out : List Int}, Rise out → Rise (xs.foldl tPut out) := by
  induction xs with
  | nil => intro out h; exact h
  | cons x xs ih => intro out h; exact ih (tPut_rise h)
theorem fold_mem (xs : List Int) : ∀ {out : List Int} {y : Int}, y ∈ xs.foldl tPut out ↔ y ∈ xs ∨ y ∈ out := by
  induction xs with
  | nil => intro out y; simp
  | cons x xs ih =>
    intro out y
    rw [List.foldl_cons, ih, tPut_mem, List.mem_cons]
    constructor
    · rintro (g | g | g)
      · exact .inl (.inr g)
      · exact .inl (.inl g)
      · exact .inr g
    · rintro ((g | g) | g)
      · exact .inr (.inl g)
      · exact .inl g
      · exact .inr (.inr g)
/-- Numbers in order. -/
def srt (xs : List Int) : List Int := xs.mergeSort fun x y => decide (x ≤ y)
theorem srt_mem (xs : List Int) (y : Int) : y ∈ srt xs ↔ y ∈ xs := List.mem_mergeSort
theorem srt_length (xs : List Int) : (srt xs).length = xs.length := List.length_mergeSort _
theorem srt_le (xs : List Int) : (srt xs).Pairwise (· ≤ ·) := by
  have h := List.pairwise_mergeSort (le := fun x y : Int => decide (x ≤ y)) (fun a b c h1 h2 => by simp only [decide_eq_true_eq] at *; omega) (fun a b => by simp only [Bool.or_eq_true, decide_eq_true_eq]; omega) xs
  exact h.imp fun h => of_decide_eq_true h
theorem rise_ext : ∀ {a b : List Int}, Rise a → Rise b → (∀ y, y ∈ a ↔ y ∈ b) → a = b
  | [], [], _, _, _ => rfl
  | [], y :: b, _, _, h => by have := (h y).2 (List.mem_cons_self ..); cases this
  | x :: a, [], _, _, h => by have := (h x).1 (List.mem_cons_self ..); cases this
  | x :: a, y :: b, h1, h2, h => by
    have g1 := List.pairwise_cons.1 h1
    have g2 := List.pairwise_cons.1 h2
    have e : x = y := by
      have k1 := (h x).1 (List.mem_cons_self ..)
      have k2 := (h y).2 (List.mem_cons_self ..)
      rcases List.mem_cons.1 k1 with e | k1
      · exact e
      · rcases List.mem_cons.1 k2 with e | k2
        · exact e.symm
        · have := g1.1 y k2
          have := g2.1 x k1
          omega
    subst e
    rw [rise_ext g1.2 g2.2 fun z => ?_]
    constructor
    · intro hz
      rcases List.mem_cons.1 ((h z).1 (List.mem_cons_of_mem _ hz)) with e | k
      · have := g1.1 z hz
        omega
      · exact k
    · intro hz
      rcases List.mem_cons.1 ((h z).2 (List.mem_cons_of_mem _ hz)) with e | k
      · have := g2.1 z hz
        omega
      · exact k
theorem compact_spec {zs : List Int} (hz : zs.Pairwise (· ≤ ·)) : ∀ m, m ≤ zs.length → Rise (compactUpTo zs.toArray m) ∧ (∀ y, y ∈ compactUpTo zs.toArray m ↔ y ∈ zs.take m)
  | 0, _ => ⟨by simp [compactUpTo, Rise], by simp [compactUpTo]⟩
  | m + 1, hm => by
    obtain ⟨h1, h2⟩ := compact_spec hz m (by omega)
    have hlt : m < zs.length := by omega
    have hget : zs.toArray[m]! = zs[m] := by simp [hlt]
    rw [compactUpTo_succ]
    have htk : zs.take (m + 1) = zs.take m ++ [zs[m]] := List.take_succ_eq_append_getElem hlt
    by_cases hk : keeps zs.toArray m = true
    · rw [if_pos hk, hget]
      refine ⟨?_, fun y => by rw [htk, List.mem_append, List.mem_append, h2]⟩
      unfold Rise at h1 ⊢
      rw [List.pairwise_append]
      refine ⟨h1, List.pairwise_singleton _ _, fun x hx y hy => ?_⟩
      rw [List.mem_singleton.1 hy]
      have hx2 := (h2 x).1 hx
      obtain ⟨j, hj, hjx⟩ := List.getElem_of_mem hx2
      have hjm : j < m := by rw [List.length_take] at hj; omega
      have ejx : zs[j] = x := by rw [← hjx, List.getElem_take]
      have h0 : m ≠ 0 := by omega
      have hprev : zs.toArray[m - 1]! = zs[m - 1] := by
        have : m - 1 < zs.length := by omega
        simp [this]
      have hne : zs[m] ≠ zs[m - 1] := by
        intro e
        have := keeps_neg (d := zs.toArray) (m := m) (by omega) (by rw [hget, hprev, e])
        rw [this] at hk
        cases hk
      have hle1 : zs[j] ≤ zs[m - 1] := by
        rcases Nat.lt_or_ge j (m - 1) with g | g
        · exact List.pairwise_iff_getElem.1 hz j (m - 1) (by omega) (by omega) g
        · have : j = m - 1 := by omega
          subst this
          exact Int.le_refl _
      have hle2 : zs[m - 1] ≤ zs[m] := List.pairwise_iff_getElem.1 hz (m - 1) m (by omega) hlt (by omega)
      omega
    · rw [if_neg hk, List.append_nil]
      refine ⟨h1, fun y => ?_⟩
      rw [h2, htk, List.mem_append]
      constructor
      · exact .inl
      · rintro (h | h)
        · exact h
        · rw [List.mem_singleton.1 h]
          have h0 : m ≠ 0 := by
            intro e
            subst e
            exact hk (keeps_lt_one _ 0 (by omega))
          have hprev : zs.toArray[m - 1]! = zs[m - 1] := by
            have : m - 1 < zs.length := by omega
            simp [this]
          have e : zs[m] = zs[m - 1] := by
            by_cases e : zs[m] = zs[m - 1]
            · exact e
            · exact absurd (keeps_pos (d := zs.toArray) (m := m) (by rw [hget, hprev]; exact e)) hk
          rw [e]
          exact List.mem_iff_getElem.2 ⟨m - 1, by rw [List.length_take]; omega, by rw [List.getElem_take]⟩
/-- Sorted, each once. -/
theorem compact_srt (xs : List Int) : compact (srt xs) = xs.foldl tPut [] := by
  have h := compact_spec (srt_le xs) (srt xs).length (Nat.le_refl _)
  refine rise_ext h.1 (fold_rise _ List.Pairwise.nil) fun y => ?_
  have h2 := h.2 y
  rw [List.take_length, srt_mem] at h2
  unfold compact
  rw [h2, fold_mem]
  simp
end Go.Proofs.Ytnadhpajelkngaa

/- What acts did to whom, and how it is seen from behind others: as functions of what comes in. No condition. -/
namespace Go.Proofs.Ytnadhpajelkngaa

def oneZ (i : Int) : OneK := ⟨i, [], false, false, false, false, 0, []⟩
/-- One act more. -/
def effStep (x : OneK) (a : ActV) : OneK :=
  if a.id ≠ x.id then x else if a.kind = 1 then { x with created := true, parent := a.parent, name := a.name } else if a.kind = 2 then { x with removed := true } else
    if a.kind = 3 then { x with moved := true, parent := a.parent, name := a.name } else if a.kind = 4 then { x with edited := true, ops := a.ops } else x
def effOne (l : List ActV) (i : Int) : OneK := l.foldl effStep (oneZ i)
def effIds (l : List ActV) : List Int := (l.map fun a => a.id).foldl tPut []
def eff (l : List ActV) : List OneK := (effIds l).map (effOne l)
open Classical in
/-- Seen from behind one act. -/
noncomputable def overStep (x : OneK) (a : ActV) : OneK := if (a.kind = 4 ∧ a.id = x.id) ∧ x.ops ≠ [] ∧ (rOver true x.ops a.ops).2 = 0 then { x with ops := (rOver true x.ops a.ops).1 } else x
noncomputable def overOne (acts : List ActV) (x : OneK) : OneK := acts.foldl overStep x
noncomputable def overK (l : List OneK) (acts : List ActV) : List OneK := l.map (overOne acts)
theorem effStep_id (x : OneK) (a : ActV) : (effStep x a).id = x.id := by
  unfold effStep
  split
  · rfl
  split
  · rfl
  split
  · rfl
  split
  · rfl
  split <;> rfl
theorem effOne_snoc (l : List ActV) (a : ActV) (i : Int) : effOne (l ++ [a]) i = effStep (effOne l i) a := by
  unfold effOne
  rw [List.foldl_append]
  rfl
theorem effOne_id (l : List ActV) (i : Int) : (effOne l i).id = i := by
  have h : ∀ (l : List ActV) (x : OneK), (l.foldl effStep x).id = x.id := by
    intro l
    induction l with
    | nil => intro x; rfl
    | cons a l ih => intro x; rw [List.foldl_cons, ih, effStep_id]
  exact h l _
theorem effIds_rise (l : List ActV) : Rise (effIds l) := fold_rise _ List.Pairwise.nil
theorem effIds_mem {l : List ActV} {i : Int} : i ∈ effIds l ↔ ∃ a ∈ l, a.id = i := by
  unfold effIds
  rw [fold_mem]
  simp
theorem effIds_nil {l : List ActV} : effIds l = [] ↔ l = [] := by
  constructor
  · intro h
    cases l with
    | nil => rfl
    | cons a l =>
      have : a.id ∈ effIds (a :: l) := effIds_mem.2 ⟨a, List.mem_cons_self .., rfl⟩
      rw [h] at this
      cases this
  · rintro rfl
    rfl
theorem effIds_len (l : List ActV) : (effIds l).length ≤ l.length := by
  have h := foldPut_len (l.map fun a => a.id) []
  simpa [effIds] using h
/-- Is there such an act? -/
def hasA (l : List ActV) (i : Int) (k : Int) : Bool := l.any fun a => decide (a.id = i) && decide (a.kind = k)
theorem hasA_nil (i k : Int) : hasA [] i k = false := rfl
theorem hasA_snoc (l : List ActV) (a : ActV) (i k : Int) : hasA (l ++ [a]) i k = (hasA l i k || decide (a.id = i) && decide (a.kind = k)) := by simp [hasA]
/-- What is told of it is just what was done. -/
theorem eff_flags (l : List ActV) (i : Int) : (effOne l i).created = hasA l i 1 ∧ (effOne l i).removed = hasA l i 2 ∧ (effOne l i).moved = hasA l i 3 ∧ (effOne l i).edited = hasA l i 4 ∧
    ((effOne l i).edited = false → (effOne l i).ops = []) ∧ ((effOne l i).created = false → (effOne l i).moved = false → (effOne l i).name = [] ∧ (effOne l i).parent = 0) := by
  have h : ∀ m : Nat, m ≤ l.length → (effOne (l.take m) i).created = hasA (l.take m) i 1 ∧ (effOne (l.take m) i).removed = hasA (l.take m) i 2 ∧ (effOne (l.take m) i).moved = hasA (l.take m) i 3 ∧ (effOne (l.take m) i).edited = hasA (l.take m) i 4 ∧
      ((effOne (l.take m) i).edited = false → (effOne (l.take m) i).ops = []) ∧ ((effOne (l.take m) i).created = false → (effOne (l.take m) i).moved = false → (effOne (l.take m) i).name = [] ∧ (effOne (l.take m) i).parent = 0) := by
    intro m
    induction m with
    | zero => intro _; exact ⟨rfl, rfl, rfl, rfl, fun _ => rfl, fun _ _ => ⟨rfl, rfl⟩⟩
    | succ m ih =>
      intro hm
      have hlt : m < l.length := by omega
      obtain ⟨h1, h2, h3, h4, h5, h6⟩ := ih (by omega)
      rw [List.take_succ_eq_append_getElem hlt]
      generalize l[m] = a
      generalize l.take m = p at h1 h2 h3 h4 h5 h6
      have hid := effOne_id p i
      rw [effOne_snoc, hasA_snoc, hasA_snoc, hasA_snoc, hasA_snoc, ← h1, ← h2, ← h3, ← h4]
      generalize effOne p i = x at h5 h6 hid
      unfold effStep
      rw [hid]
      by_cases e : a.id = i
      · rw [if_neg (fun h => h e), decide_eq_true e]
        by_cases k1 : a.kind = 1
        · rw [if_pos k1, k1]
          exact ⟨by simp, by simp, by simp, by simp, h5, fun h => by simp at h⟩
        rw [if_neg k1]
        by_cases k2 : a.kind = 2
        · rw [if_pos k2, k2]
          exact ⟨by simp, by simp, by simp, by simp, h5, h6⟩
        rw [if_neg k2]
        by_cases k3 : a.kind = 3
        · rw [if_pos k3, k3]
          exact ⟨by simp, by simp, by simp, by simp, h5, fun _ h => by simp at h⟩
        rw [if_neg k3]
        by_cases k4 : a.kind = 4
        · rw [if_pos k4, k4]
          exact ⟨by simp, by simp, by simp, by simp, fun h => by simp at h, h6⟩
        rw [if_neg k4, decide_eq_false k1, decide_eq_false k2, decide_eq_false k3, decide_eq_false k4]
        exact ⟨by simp, by simp, by simp, by simp, h5, h6⟩
      · rw [if_pos e, decide_eq_false e]
        exact ⟨by simp, by simp, by simp, by simp, h5, h6⟩
  have := h l.length (Nat.le_refl _)
  rwa [List.take_length] at this
theorem overOne_nil (x : OneK) : overOne [] x = x := rfl
theorem overK_nil (l : List OneK) : overK l [] = l := by
  unfold overK
  have : overOne [] = id := funext overOne_nil
  rw [this, List.map_id]
theorem overStep_same (x : OneK) (a : ActV) : (overStep x a).id = x.id ∧ (overStep x a).edited = x.edited ∧ (overStep x a).removed = x.removed ∧ (overStep x a).created = x.created ∧ (overStep x a).moved = x.moved ∧ (overStep x a).parent = x.parent ∧ (overStep x a).name = x.name := by
  unfold overStep
  split
  · exact ⟨rfl, rfl, rfl, rfl, rfl, rfl, rfl⟩
  · exact ⟨rfl, rfl, rfl, rfl, rfl, rfl, rfl⟩
theorem overOne_same (acts : List ActV) : ∀ x : OneK, (overOne acts x).id = x.id ∧ (overOne acts x).edited = x.edited ∧ (overOne acts x).removed = x.removed ∧ (overOne acts x).created = x.created ∧ (overOne acts x).moved = x.moved ∧ (overOne acts x).parent = x.parent ∧ (overOne acts x).name = x.name := by
  induction acts with
  | nil => intro x; exact ⟨rfl, rfl, rfl, rfl, rfl, rfl, rfl⟩
  | cons a l ih =>
    intro x
    have h1 := overStep_same x a
    have h2 := ih (overStep x a)
    unfold overOne at h2 ⊢
    rw [List.foldl_cons]
    exact ⟨h2.1.trans h1.1, h2.2.1.trans h1.2.1, h2.2.2.1.trans h1.2.2.1, h2.2.2.2.1.trans h1.2.2.2.1, h2.2.2.2.2.1.trans h1.2.2.2.2.1, h2.2.2.2.2.2.1.trans h1.2.2.2.2.2.1, h2.2.2.2.2.2.2.trans h1.2.2.2.2.2.2⟩
/-- Acts that edit nobody of them leave all as it was. -/
theorem overK_idle {l : List OneK} {acts : List ActV} (h : ∀ a ∈ acts, ∀ x ∈ l, ¬ (a.kind = 4 ∧ a.id = x.id)) : overK l acts = l := by
  unfold overK
  have : ∀ (acts : List ActV) (x : OneK), (∀ a ∈ acts, ¬ (a.kind = 4 ∧ a.id = x.id)) → overOne acts x = x := by
    intro acts
    induction acts with
    | nil => intro x _; rfl
    | cons a m ih =>
      intro x hx
      have e : overStep x a = x := by
        unfold overStep
        rw [if_neg fun g => hx a (List.mem_cons_self ..) g.1]
      unfold overOne
      rw [List.foldl_cons, e]
      exact ih x fun b hb => hx b (List.mem_cons_of_mem _ hb)
  conv => rhs; rw [← List.map_id l]
  exact List.map_congr_left fun x hx => this acts x fun a ha => h a ha x hx
end Go.Proofs.Ytnadhpajelkngaa

/- What the guards of the statements say of acts and of what was done. No condition. -/
namespace Go.Proofs.Ytnadhpajelkngaa

/-- An act that may be looked at; what was done that may be looked at. -/
def ActH (a : ActV) : Prop := a.Good ∧ Held1 a.ops ∧ a.name.length ≤ 1048576
def KeyH (k : OneK) : Prop := Held1 k.ops ∧ k.name.length ≤ 1048576
theorem sum_le : ∀ {l : List Nat} {x : Nat}, x ∈ l → x ≤ l.sum
  | y :: l, x, h => by
    rw [List.sum_cons]
    rcases List.mem_cons.1 h with rfl | h
    · omega
    · have := sum_le h; omega
theorem wts_each {α : Type} (f : α → List Nat) (lim : Nat) (hlim : lim < 1099511627776) (l : List α) (h : wts lim 0 (l.map f) ≤ lim) : (∀ x ∈ l, (f x).sum ≤ lim) ∧ ((l.map f).map List.sum).sum ≤ lim := by
  have e := wts_spec lim hlim (l.map f) 0 h
  have h2 : ((l.map f).map List.sum).sum ≤ lim := by omega
  refine ⟨fun x hx => ?_, h2⟩
  have : (f x).sum ∈ (l.map f).map List.sum := List.mem_map.2 ⟨_, List.mem_map.2 ⟨x, hx, rfl⟩, rfl⟩
  exact Nat.le_trans (sum_le this) h2
theorem len_le_sum {α : Type} (f : α → List Nat) (hf : ∀ x, 1 ≤ (f x).sum) : ∀ l : List α, l.length ≤ ((l.map f).map List.sum).sum
  | [] => Nat.le_refl _
  | x :: l => by
    have := len_le_sum f hf l
    have := hf x
    rw [List.map_cons, List.map_cons, List.sum_cons, List.length_cons]
    omega
theorem acts_held {lim : Nat} (hlim : lim ≤ 4000) {l : List ActV} (hg : ∀ y ∈ l, y.Good) (h : actsWeight lim l ≤ lim) : l.length ≤ 4000 ∧ ∀ y ∈ l, ActH y := by
  obtain ⟨h1, h2⟩ := wts_each (actTerms lim) lim (by omega) l h
  have h3 := len_le_sum (actTerms lim) (fun x => by simp [actTerms]; omega) l
  refine ⟨by omega, fun y hy => ?_⟩
  have h4 := h1 y hy
  simp only [actTerms, List.sum_cons, List.sum_nil] at h4
  have h5 := weight_spec lim (by omega) y.ops (by omega)
  exact ⟨hg y hy, held_of (hg y hy).2.2.2.2.1 h5 (by omega), by omega⟩
theorem ones_held {l : List OneV} (hg : ∀ y ∈ l, y.Good) (h : smallO l = true) : l.length ≤ 3000 ∧ ∀ y ∈ l, KeyH y.k := by
  have h0 := of_decide_eq_true h
  obtain ⟨h1, h2⟩ := wts_each (oneTerms 3000) 3000 (by omega) l h0
  have h3 := len_le_sum (oneTerms 3000) (fun x => by simp [oneTerms]; omega) l
  refine ⟨by omega, fun y hy => ?_⟩
  have h4 := h1 y hy
  simp only [oneTerms, List.sum_cons, List.sum_nil] at h4
  have h5 := weight_spec 3000 (by omega) y.k.ops (by omega)
  exact ⟨held_of (hg y hy).2.2.2.1 h5 (by omega), by omega⟩
/-- What becomes of what may be looked at. -/
theorem effStep_held {x : OneK} {a : ActV} (hx : KeyH x) (ha : ActH a) : KeyH (effStep x a) := by
  unfold effStep
  split
  · exact hx
  split
  · exact ⟨hx.1, ha.2.2⟩
  split
  · exact hx
  split
  · exact ⟨hx.1, ha.2.2⟩
  split
  · exact ⟨ha.2.1, hx.2⟩
  · exact hx
theorem eff_held {l : List ActV} (h : ∀ a ∈ l, ActH a) : ∀ k ∈ eff l, KeyH k := by
  intro k hk
  obtain ⟨i, _, rfl⟩ := List.mem_map.1 hk
  have : ∀ (l : List ActV) (x : OneK), (∀ a ∈ l, ActH a) → KeyH x → KeyH (l.foldl effStep x) := by
    intro l
    induction l with
    | nil => intro x _ hx; exact hx
    | cons a l ih =>
      intro x hl hx
      rw [List.foldl_cons]
      exact ih _ (fun b hb => hl b (List.mem_cons_of_mem _ hb)) (effStep_held hx (hl a (List.mem_cons_self ..)))
  exact this l _ h ⟨held_nil, Nat.zero_le _⟩
end Go.Proofs.Ytnadhpajelkngaa
