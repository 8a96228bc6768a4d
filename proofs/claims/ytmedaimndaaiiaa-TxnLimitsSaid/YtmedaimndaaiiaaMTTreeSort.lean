/- Nodes sorted by their names. Conditions: a row of the call's own, names that differ, of bytes. -/
import Derived.Test.YtmedaimndaaiiaaMTTreeOwn
import Derived.Test.YtmedaimndaaiiaaMTm
import Derived.Shelf.SlSortCmp.NoneTotal
/- Nodes sorted by their names. Conditions: a row of the call's own, names that differ, of bytes. -/
namespace Go.Proofs.Ytmedaimndaaiiaa
open Go.RowKit Go.Deep
open Go.Sort (SWO PermIn SortedIn grow putRow mapBlock grow_grow alloc_eq_grow putRowK HoldsK size_flatK get_flatK holdsK_grow holdsK_putRowK holdsK_ahead)

theorem cmp_less : ∀ x y : List UInt8, (Lib.compareBytes x y < 0 ↔ Op.bytesLess x y = true)
  | [], [] => by simp [Lib.compareBytes, Op.bytesLess]
  | [], _ :: _ => by simp [Lib.compareBytes, Op.bytesLess]
  | _ :: _, [] => by simp [Lib.compareBytes, Op.bytesLess]
  | a :: x, b :: y => by
    have ih := cmp_less x y
    unfold Lib.compareBytes Op.bytesLess
    by_cases h1 : a < b
    · simp [h1]
    · by_cases h2 : b < a
      · have h3 : ¬ a = b := fun e => by subst e; exact absurd h2 h1
        simp [h1, h2, h3]
      · have h3 : a = b := by
          have e1 : ¬ a.toNat < b.toNat := h1
          have e2 : ¬ b.toNat < a.toNat := h2
          exact UInt8.toNat_inj.1 (by omega)
        subst h3
        simp [h1, ih]
/-- How two nodes compare. -/
def cmpN (x y : NodeV) : Int := Lib.compareBytes (bstr x.name).data.toList (bstr y.name).data.toList
theorem toList_data (l : List Nat) : (bstr l).data.toList = (bstr l).toList := by
  exact (ByteArray.toList_eq _).symm
theorem ltOf_less (x y : NodeV) : ltOf cmpN x y = lessB x.name y.name := by
  unfold ltOf cmpN lessB
  rw [toList_data, toList_data]
  by_cases h : Op.bytesLess (bstr x.name).toList (bstr y.name).toList = true
  · rw [h, decide_eq_true ((cmp_less _ _).2 h)]
  · have h2 : Op.bytesLess (bstr x.name).toList (bstr y.name).toList = false := by simpa using h
    rw [h2, decide_eq_false (fun e => h ((cmp_less _ _).1 e))]
theorem swoN : SWO (ltOf cmpN) where
  irrefl x := by rw [ltOf_less]; exact lessB_self _
  trans x y z h1 h2 := by rw [ltOf_less] at *; exact lessB_trans h1 h2
  ntrans x y z h1 h2 := by
    rw [ltOf_less] at *
    cases h : lessB x.name z.name with
    | false => rfl
    | true =>
      cases h3 : lessB y.name x.name with
      | true => rw [lessB_trans h3 h] at h2; cases h2
      | false =>
        have e := less_total (x := (bstr x.name).toList) (y := (bstr y.name).toList) h1 h3
        unfold lessB at h h2
        rw [e, h2] at h
        cases h

set_option maxRecDepth 100000 in
theorem sortCmp_any (x y : NodeV) (W : World) : Calls Try.prog 60 #[.agg (nodeCells x).toArray, .agg (nodeCells y).toArray] W fun e w' => e = .returned (.int .i64 (cmpN x y)) ∧ ∃ q os', w' = grow (W.drewN q) os' := by
  have hcon := Lib.hid (fun W' => Try.strings_Compare (bstr x.name) (bstr y.name) W')
  obtain ⟨r, HR⟩ : ∃ r, Hid (cmpN x y = r) := ⟨_, Lib.hid rfl⟩
  rw [HR.out]
  have HR2 : Hid (Lib.compareBytes (bstr x.name).data.toList (bstr y.name).data.toList = r) := HR.out
  rw [HR2.out] at hcon
  unfold nodeCells
  go_enter Try.func60, Try.ntmps60
  go_wp2_with fail
  refine (hcon.out _).mono ?_
  rintro e w' ⟨rfl, rfl⟩
  go_wp2
  go_ret
  exact ⟨rfl, 0, _, by rw [alloc_eq_grow, alloc_eq_grow, grow_grow]; rfl⟩

theorem below_sort {B : Nat} (w : World) (blk off n : Nat) (d : Array NodeV) (os : Array Obj) (hB : B ≤ blk) (hw : B ≤ w.heap.size) : Below B w (sortWorldK nodeCells 5 w blk off n d os) := by
  unfold sortWorldK putRowK putRow mapBlock grow Go.Sort.ahead
  refine ⟨rfl, rfl, rfl, by simp, fun k hk => ?_⟩
  show ((w.heap.modify blk _) ++ os)[k]? = w.heap[k]?
  rw [Array.getElem?_append_left (by simp; omega), Array.getElem?_modify, if_neg (by omega)]
theorem holds_nodes {w : World} {g : Nat} {d : Array NodeV} (hg : g < w.heap.size) (h : HoldsK nodeCells 5 w g 0 d) : NodesAt w (some ⟨g, 0, none⟩) d.toList := by
  refine .inr ⟨g, 0, rfl, hg, fun j v hj => ?_⟩
  obtain ⟨i, f, hi, hf, rfl, hv⟩ := flat_lt nodeCells_length (by omega) hj
  have hi' : i < d.size := by simpa using hi
  have := (h.cell hi' hf).1
  rw [Nat.zero_add] at this
  rw [Nat.zero_add, this]
  rw [Array.getElem!_eq_getD, Array.getD, dif_pos hi']
  have e : d.toList[i] = d[i] := rfl
  rw [e] at hv
  show some ((nodeCells d[i])[f]!) = some v
  rw [List.getElem!_eq_getElem?_getD, hv]
  rfl
theorem own_holds {w : World} {B c : Nat} {A : Option Addr} {l : List NodeV} (ho : OwnN w B A c l) (h0 : l ≠ []) : ∃ g, A = some ⟨g, 0, none⟩ ∧ B ≤ g ∧ g < w.heap.size ∧ HoldsK nodeCells 5 w g 0 l.toArray := by
  have hcells := ho.nodes.1
  rcases ho.2 with ⟨_, h2⟩ | ⟨g, cap, cur, hv, hBg, hh, h3, h4, h5⟩
  · exact absurd (List.length_eq_zero_iff.1 h2) h0
  · injection hv with hv1 hv2 hv3
    subst hv1
    have hlt : g < w.heap.size := by
      rcases Nat.lt_or_ge g w.heap.size with h | h
      · exact h
      · rw [Array.getElem?_eq_none h] at hh; cases hh
    have hrow : w.rowIs g 57 cur.size (fun i => cur.getD i undef) := ⟨cur, hh, rfl, fun i hi => by simp [hi]⟩
    refine ⟨g, rfl, hBg, hlt, fun j hj => ?_⟩
    rw [size_flatK] at hj
    have hj' : j < l.length * 5 := by simpa using hj
    have hi : j / 5 < l.length := by omega
    have hf : j % 5 < 5 := Nat.mod_lt _ (by omega)
    have hjj : j / 5 * 5 + j % 5 = j := by omega
    refine ⟨?_, hrow.frozen _⟩
    rw [get_flatK _ _ _ _ hj]
    have e1 : l.toArray[j / 5]! = l[j / 5] := by simp [hi]
    have hl5 : j % 5 < (nodeCells l[j / 5]).length := by rw [nodeCells_length]; exact hf
    rw [e1]
    refine (CellsAt.cell hcells (j := j) ?_)
    have hfg := flat_get nodeCells 5 nodeCells_length l (j / 5) hi (j % 5) hf
    rw [hjj] at hfg
    rw [hfg, List.getElem?_eq_getElem hl5]
    show some _ = some (id _)
    rw [id, List.getElem!_eq_getElem?_getD, List.getElem?_eq_getElem hl5]
    rfl

theorem sorted_strict {m : List NodeV} (hn : m.Pairwise fun a b => a.name ≠ b.name) (hb : ∀ y ∈ m, ∀ x ∈ y.name, x < 256) (hs : ∀ (i j : Nat) (hi : i < m.length) (hj : j < m.length), i < j → lessB m[j].name m[i].name = false) : m.Pairwise fun a b => lessB a.name b.name = true := by
  rw [List.pairwise_iff_getElem]
  intro i j hi hj hij
  have h1 := hs i j hi hj hij
  have h2 := List.pairwise_iff_getElem.1 hn i j hi hj hij
  cases h : lessB m[i].name m[j].name with
  | true => rfl
  | false => exact absurd (lessB_total (hb _ (List.getElem_mem hi)) (hb _ (List.getElem_mem hj)) h h1) h2

theorem sortNodes_any {B : Nat} (A : Option Addr) (c : Nat) (l : List NodeV) (hl : l.length ≤ 1048576) (hn : l.Pairwise fun a b => a.name ≠ b.name) (hb : ∀ y ∈ l, ∀ x ∈ y.name, x < 256) (w : World) (hB : B ≤ w.heap.size) (ho : OwnN w B A c l) :
    Calls Try.prog 59 #[.slice A l.length c, .func (.func 60) #[] #[]] w fun e w' => e = .returned (.tuple #[]) ∧ ∃ m, m.Perm l ∧ m.Pairwise (fun a b => lessB a.name b.name = true) ∧ NodesAt w' A m ∧ Below B w w' := by
  by_cases h0 : l = []
  · subst h0
    have hcon := AnyF.slices_SortFunc_none Try.sortNodes A c (.func (.func 60) #[] #[]) w
    exact hcon.mono fun e w' ⟨h1, h2⟩ => ⟨h1, [], List.Perm.refl _, List.Pairwise.nil, .inl rfl, by rw [h2]; exact Below.refl _ _⟩
  · obtain ⟨g, rfl, hBg, hg, hH⟩ := own_holds ho h0
    have eg : ∀ args w, (callFunc 60 args).run Try.prog w = .ok (.enter 60 args) w := enters_of Try.func60 (by kernel_rfl) rfl
    have hcon := AnyQ.slices_SortFunc Try.sortNodes 5 (fun w => Try.isAgg57 w) (fun w => Try.sizeOf57 w) nodeCells nodeCells_length (fun x v hv => node_one [x] v (by simpa using hv)) cmpN swoN 60 #[] g 0 c l.toArray w eg
      (fun m os dk _ x y => sortCmp_any x y _) hH hg (by simp; omega)
    rw [show l.toArray.size = l.length by simp] at hcon
    refine hcon.mono ?_
    rintro e w' ⟨he, d', n, os, hp, hs, rfl⟩
    refine ⟨he, d'.toList, ?_, ?_, ?_, below_sort w g 0 n d' os hBg hB⟩
    · have h1 := hp.2.2
      have hz := hp.1
      simp only [List.size_toArray] at hz h1
      have e1 : d'.extract 0 l.length = d' := by rw [← hz]; exact Array.extract_size
      rw [e1] at h1
      simpa using h1
    · have hz : d'.size = l.length := by simpa using hp.1
      have hperm : d'.toList.Perm l := by
        have h1 := hp.2.2
        have e1 : d'.extract 0 l.length = d' := by rw [← hz]; exact Array.extract_size
        rw [e1] at h1
        simpa using h1
      refine sorted_strict ((hperm.pairwise_iff (fun h e => h e.symm)).2 hn) (fun y hy => hb y (hperm.mem_iff.1 hy)) (fun i j hi hj hij => ?_)
      have h2 := hs i j (Nat.zero_le _) hij (by rw [← hz]; simpa using hj)
      rw [ltOf_less] at h2
      have hi' : i < d'.size := by simpa using hi
      have hj' : j < d'.size := by simpa using hj
      rw [getElem!_pos d' i hi', getElem!_pos d' j hj'] at h2
      exact h2
    · refine holds_nodes (by simp [sortWorldK, grow, putRowK, putRow, mapBlock, Go.Sort.ahead]; omega) ?_
      unfold sortWorldK
      exact holdsK_grow nodeCells 5 _ _ _ _ _ (by simp [putRowK, putRow, mapBlock, Go.Sort.ahead]; exact hg) (holdsK_putRowK nodeCells 5 _ _ _ l.toArray _ (holdsK_ahead nodeCells 5 _ _ _ _ _ hH) (by simpa using hp.1))
end Go.Proofs.Ytmedaimndaaiiaa
