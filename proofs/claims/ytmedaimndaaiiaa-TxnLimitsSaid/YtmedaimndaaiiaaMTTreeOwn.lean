/- The same nodes in new memory: own, ownAll, Nodes. Conditions: no more than 2^20 nodes, names and texts of at most 2^40 bytes. -/
import Derived.Test.YtmedaimndaaiiaaMFi
import Derived.Test.YtmedaimndaaiiaaMApp
import Derived.Test.YtmedaimndaaiiaaMMono
import Derived.Test.YtmedaimndaaiiaaShelf
import Derived.Test.YtmedaimndaaiiaaMOwn
/- The same nodes in new memory: own, ownAll, Nodes. Conditions: no more than 2^20 nodes, names and texts of at most 2^40 bytes. -/
namespace Go.Proofs.Ytmedaimndaaiiaa
open Go.RowKit Go.Deep

set_option maxRecDepth 100000 in
theorem clone_any (s : List Nat) (hl : s.length ≤ 1099511627776) (w : World) :
    Calls Try.prog 45 #[.string (bstr s)] w fun e w' => e = .returned (.string (bstr s)) ∧ Below w.heap.size w w' := by
  have hsz := bstr_size s
  have G := Lib.hid (fun w => Try.stringslite_Clone (bstr s) w (by omega))
  go_enter Try.func45, Try.ntmps45
  go_wp2_with fail
  refine (G.out _).mono ?_
  rintro e w' ⟨rfl, hb⟩
  go_wp2
  go_ret
  exact ⟨rfl, hb⟩

/-- Rows from B on stay what they are; nothing ahead of them is lost. -/
def keepRows (B : Nat) : Keep where
  r w x := Below B w x ∧ ∀ (k : Nat) (t : TypeId) (n : Nat) (f : Nat → Value), B ≤ k → w.rowIs k t n f → x.rowIs k t n f
  refl _ := ⟨Below.refl _ _, fun _ _ _ _ _ h => h⟩
  trans h1 h2 := ⟨h1.1.trans h2.1, fun k t n f hk h => h2.2 k t n f hk (h1.2 k t n f hk h)⟩
theorem keepRows_below {B : Nat} {w x : World} (h : Below w.heap.size w x) (hB : B ≤ w.heap.size) : (keepRows B).r w x :=
  ⟨h.mono hB, fun k _ _ _ _ hr => hr.of_block (h.block k hr.lt)⟩
theorem rowIs_same {w : World} {k : Nat} {t : TypeId} {n : Nat} {f : Nat → Value} (h : w.rowIs k t n f) {b i : Nat} {v : Value} (hv : w.cell? ⟨b, i, none⟩ = some v) : (w.setCell ⟨b, i, none⟩ v).rowIs k t n f := by
  by_cases e : k = b
  · subst e
    refine (h.set i v).congr fun j hj => ?_
    by_cases e : j = i
    · subst e
      rw [if_pos rfl]
      have := h.cell hj
      rw [hv] at this
      exact Option.some.inj this
    · rw [if_neg e]
  · exact h.setOther (a := ⟨b, i, none⟩) e v
theorem keepRows_same {B : Nat} {w : World} {b i : Nat} {v : Value} (hb : B ≤ b) (hv : w.cell? ⟨b, i, none⟩ = some v) : (keepRows B).r w (w.setCell ⟨b, i, none⟩ v) :=
  ⟨(Below.refl B w).setCell (p := ⟨b, i, none⟩) hb v, fun _ _ _ _ _ h => rowIs_same h hv⟩
def nodeF (y : NodeV) (j : Nat) : Value := ((nodeCells y)[j]?).getD undef
theorem node_row (w : World) (y : NodeV) {g : Nat} (hg : g = w.heap.size) : (w.alloc (.cells (nodeCells y).toArray 57)).rowIs g 57 5 (nodeF y) := by
  subst hg
  refine World.rowIs_alloc w _ _ _ (fun i hi => ?_)
  have hi' : i < (nodeCells y).length := by simpa using hi
  unfold nodeF
  rw [List.getElem?_toArray, List.getElem?_eq_getElem hi']
  rfl
theorem node_row_cells {w : World} {g : Nat} {y : NodeV} (h : w.rowIs g 57 5 (nodeF y)) : w.heap[g]? = some (.cells #[.int .i64 y.id, .int .i64 y.parent, .string (bstr y.name), .bool y.dir, .string (bstr y.text)] 57 (0, 0)) := by
  refine rowIs_cells #[.int .i64 y.id, .int .i64 y.parent, .string (bstr y.name), .bool y.dir, .string (bstr y.text)] h (fun i hi => ?_)
  match i, hi with
  | 0, _ => rfl
  | 1, _ => rfl
  | 2, _ => rfl
  | 3, _ => rfl
  | 4, _ => rfl
/-- The cells of a node's row. -/
theorem node_row_at {w : World} {g : Nat} {y : NodeV} (h : w.rowIs g 57 5 (nodeF y)) :
    w.cell? ⟨g, 0, none⟩ = some (.int .i64 y.id) ∧ w.cell? ⟨g, 1, none⟩ = some (.int .i64 y.parent) ∧ w.cell? ⟨g, 2, none⟩ = some (.string (bstr y.name)) ∧ w.cell? ⟨g, 3, none⟩ = some (.bool y.dir) ∧ w.cell? ⟨g, 4, none⟩ = some (.string (bstr y.text)) :=
  ⟨h.cell (by omega), h.cell (by omega), h.cell (by omega), h.cell (by omega), h.cell (by omega)⟩
theorem node_row_put {w : World} {g : Nat} {x : NodeV} (y : NodeV) (h : w.rowIs g 57 5 (nodeF x)) : (putNode w g 0 y).rowIs g 57 5 (nodeF y) := by
  unfold putNode
  refine (((((h.set 0 _).set 1 _).set 2 _).set 3 _).set 4 _).congr fun j hj => ?_
  match j, hj with
  | 0, _ => rfl
  | 1, _ => rfl
  | 2, _ => rfl
  | 3, _ => rfl
  | 4, _ => rfl
theorem putNode_below {B : Nat} {w : World} {g : Nat} (y : NodeV) (hg : B ≤ g) : Below B w (putNode w g 0 y) :=
  (((((Below.refl B w).setCell (p := ⟨g, 0, none⟩) hg _).setCell (p := ⟨g, 0 + 1, none⟩) hg _).setCell (p := ⟨g, 0 + 2, none⟩) hg _).setCell (p := ⟨g, 0 + 3, none⟩) hg _).setCell (p := ⟨g, 0 + 4, none⟩) hg _
def noNode : NodeV := ⟨0, 0, [], false, []⟩

set_option maxHeartbeats 1000000 in
set_option maxRecDepth 100000 in
theorem own_any (y : NodeV) (hn : y.name.length ≤ 1099511627776) (ht : y.text.length ≤ 1099511627776) (w : World) :
    Calls Try.prog 33 #[.agg (nodeCells y).toArray] w fun e w' => e = .returned (.agg (nodeCells y).toArray) ∧ Below w.heap.size w w' := by
  have G1 := Lib.hid (fun w => clone_any y.name hn w)
  have G2 := Lib.hid (fun w => clone_any y.text ht w)
  clear hn ht
  have HR1 : Hid (((w.alloc (.cells #[.int .i64 y.id, .int .i64 y.parent, .string (bstr y.name), .bool y.dir, .string (bstr y.text)] 57)).alloc (.cells #[.int .i64 0, .int .i64 0, .string { data := #[] }, .bool false, .string { data := #[] }] 57)).rowIs w.heap.size 57 5 (nodeF y)) := Lib.hid ((node_row w y rfl).alloc (.cells (nodeCells noNode).toArray 57))
  have HR2 : Hid (((w.alloc (.cells #[.int .i64 y.id, .int .i64 y.parent, .string (bstr y.name), .bool y.dir, .string (bstr y.text)] 57)).alloc (.cells #[.int .i64 0, .int .i64 0, .string { data := #[] }, .bool false, .string { data := #[] }] 57)).rowIs (w.heap.size + 1) 57 5 (nodeF noNode)) := Lib.hid (node_row (w.alloc (.cells (nodeCells y).toArray 57)) noNode (g := w.heap.size + 1) (by simp))
  have HB0 : Hid (Below w.heap.size w ((w.alloc (.cells #[.int .i64 y.id, .int .i64 y.parent, .string (bstr y.name), .bool y.dir, .string (bstr y.text)] 57)).alloc (.cells #[.int .i64 0, .int .i64 0, .string { data := #[] }, .bool false, .string { data := #[] }] 57))) := Lib.hid (((Below.refl w.heap.size w).alloc (Nat.le_refl _) (.cells (nodeCells y).toArray 57)).alloc (by simp) (.cells (nodeCells noNode).toArray 57))
  have HSZ : Hid (((w.alloc (.cells #[.int .i64 y.id, .int .i64 y.parent, .string (bstr y.name), .bool y.dir, .string (bstr y.text)] 57)).alloc (.cells #[.int .i64 0, .int .i64 0, .string { data := #[] }, .bool false, .string { data := #[] }] 57)).heap.size = w.heap.size + 1 + 1) := Lib.hid (by simp)
  unfold nodeCells
  obtain ⟨w2, HW2⟩ : ∃ x, Hid (((w.alloc (.cells #[.int .i64 y.id, .int .i64 y.parent, .string (bstr y.name), .bool y.dir, .string (bstr y.text)] 57)).alloc (.cells #[.int .i64 0, .int .i64 0, .string { data := #[] }, .bool false, .string { data := #[] }] 57)) = x) := ⟨_, Lib.hid rfl⟩
  rw [HW2.out] at HR1 HR2 HB0 HSZ
  go_enter Try.func33, Try.ntmps33
  go_wp2
  rw [HW2.out]
  have hE1 : ∀ e : ExtK (keepRows w.heap.size) w2.drew, e.val.cell? ⟨w.heap.size, 2, none⟩ = some (.string (bstr y.name)) := fun e => (node_row_at (e.property.2 _ _ _ _ (Nat.le_refl _) HR1.out)).2.2.1
  have hE2 : ∀ e : ExtK (keepRows w.heap.size) w2.drew, e.val.cell? ⟨w.heap.size, 4, none⟩ = some (.string (bstr y.text)) := fun e => (node_row_at (e.property.2 _ _ _ _ (Nat.le_refl _) HR1.out)).2.2.2.2
  refine wp_region_held_lit (keepRows w.heap.size) [(0, true), (1, true), (3, true), (4, true), (2, false), (6, true), (5, false), (7, false), (8, true), (9, false)] (by kernel_rfl) (by kernel_rfl) (fun _ _ d _ _ h => by cases d <;> exact h) ?_
  simp only [picked, List.map_cons, List.map_nil, List.getElem?_cons_succ, List.getElem?_cons_zero, Option.getD_some]
  repeat (refine wpH_quiet (by rfl) (fun K hK => ?_); go_big_quiet_op; refine hK _ ?_; clear hK K)
  clear hE1 hE2
  refine wpH_one (by rfl) (fun K hK => ?_)
  go_simp
  refine (G1.out w2.drew).mono ?_
  rintro e w3 ⟨rfl, hb⟩
  have HK3 : Hid ((keepRows w.heap.size).r w2.drew w3) := keepRows_below hb (by have := HSZ.out; simp; omega)
  clear hb
  refine hK _ _ HK3.out ?_
  clear hK K
  refine wpH_quiet (by rfl) (fun K hK => ?_)
  go_big_quiet_op
  refine hK _ ?_
  clear hK K
  refine wpH_one (by rfl) (fun K hK => ?_)
  go_simp
  refine (G2.out w3).mono ?_
  rintro e w4 ⟨rfl, hb⟩
  have HK4 : Hid ((keepRows w.heap.size).r w3 w4) := keepRows_below hb (by have := HSZ.out; have := HK3.out.1.size; simp at this; omega)
  clear hb
  refine hK _ _ HK4.out ?_
  clear hK K
  have HR4 := Lib.hid (HK4.out.2 _ _ _ _ (Nat.le_refl _) (HK3.out.2 _ _ _ _ (Nat.le_refl _) HR1.out.drew))
  have c2 := (node_row_at HR4.out).2.2.1
  have f2 := HR4.out.frozen 2
  have HC2 := Lib.hid c2
  refine wpH_one (by rfl) (fun K hK => ?_)
  go_simp
  refine hK _ _ (keepRows_same (Nat.le_refl _) HC2.out) ?_
  clear hK K c2 f2
  obtain ⟨w5, HW5⟩ : ∃ w5, Hid (w4.setCell ⟨w.heap.size, 2, none⟩ (.string (bstr y.name)) = w5) := ⟨_, Lib.hid rfl⟩
  have HK5 : Hid ((keepRows w.heap.size).r w4 w5) := by show Keep.r _ _ _; rw [← HW5.out]; exact keepRows_same (Nat.le_refl _) HC2.out
  rw [HW5.out]
  refine wpH_quiet (by rfl) (fun K hK => ?_)
  go_big_quiet_op
  refine hK _ ?_
  clear hK K
  have HR5 := Lib.hid (HK5.out.2 _ _ _ _ (Nat.le_refl _) HR4.out)
  have c4 := (node_row_at HR5.out).2.2.2.2
  have f4 := HR5.out.frozen 4
  have HC4 := Lib.hid c4
  refine wpH_one (by rfl) (fun K hK => ?_)
  go_simp
  refine hK _ _ (keepRows_same (Nat.le_refl _) HC4.out) ?_
  clear hK K c4 f4
  obtain ⟨w6, HW6⟩ : ∃ w6, Hid (w5.setCell ⟨w.heap.size, 4, none⟩ (.string (bstr y.text)) = w6) := ⟨_, Lib.hid rfl⟩
  have HK6 : Hid ((keepRows w.heap.size).r w2.drew w6) := by show Keep.r _ _ _; rw [← HW6.out]; exact (keepRows _).trans HK3.out ((keepRows _).trans HK4.out ((keepRows _).trans HK5.out (keepRows_same (Nat.le_refl _) HC4.out)))
  rw [HW6.out]
  refine wpH_nil ?_
  obtain ⟨k0, k1, k2, k3, k4⟩ := node_row_at (HK6.out.2 _ _ _ _ (Nat.le_refl _) HR1.out.drew)
  have HRB := Lib.hid (HK6.out.2 _ _ _ _ (by omega) HR2.out.drew)
  obtain ⟨j0, j1, j2, j3, j4⟩ := node_row_at HRB.out
  have f0 := HRB.out.frozen 0
  have f1 := HRB.out.frozen 1
  have f2 := HRB.out.frozen 2
  have f3 := HRB.out.frozen 3
  have f4 := HRB.out.frozen 4
  go_wp2
  refine bodyPost_ret (results_cell_row rfl _ _ (w.heap.size + 1) 57 #[.int .i64 y.id, .int .i64 y.parent, .string (bstr y.name), .bool y.dir, .string (bstr y.text)] (0, 0) _ rfl (node_row_cells (node_row_put y HRB.out)) Try.underlying57 rfl (by kernel_rfl)) rfl ?_
  exact ⟨rfl, (HB0.out.trans ((Below.refl _ _).drew.trans HK6.out.1)).trans (putNode_below y (by omega))⟩

/-- No name and no text is longer than 2^40 bytes. -/
def Slim (l : List NodeV) : Prop := ∀ y ∈ l, y.name.length ≤ 1099511627776 ∧ y.text.length ≤ 1099511627776
set_option maxHeartbeats 1000000 in
set_option maxRecDepth 100000 in
theorem ownAll_any (A : Option Addr) (c : Nat) (l : List NodeV) (hl : l.length ≤ 1048576) (hs : Slim l) (w : World) (hA : NodesAt w A l) :
    Calls Try.prog 18 #[.slice A l.length c] w fun e w' => ∃ A' c', e = .returned (.slice A' l.length c') ∧ OwnN w' w.heap.size A' c' l ∧ Below w.heap.size w w' := by
  have HA := Lib.hid hA; clear hA
  have G := Lib.hid (fun (k : Nat) (hk : k < l.length) w => own_any l[k] (hs _ (List.getElem_mem hk)).1 (hs _ (List.getElem_mem hk)).2 w)
  clear hs
  go_enter Try.func18, Try.ntmps18
  go_wp2
  go_loopw [3, 5, 8] (fun s3 s5 s8 wr => ∃ (k : Nat) (A3 : Option Addr) (c3 : Nat), k ≤ l.length ∧ s3 = .slice A3 k c3 ∧ s5 = s5 ∧ s8 = .int .i64 (k : Int) ∧ Hid (Below w.heap.size w wr) ∧ Hid (OwnN wr w.heap.size A3 c3 (l.take k))) (fun _ _ i _ => l.length - (intOf i).toNat)
  case atStart => exact ⟨0, none, 0, Nat.zero_le _, rfl, rfl, rfl, Below.refl _ _, OwnN.nil _ _⟩
  case round =>
    obtain ⟨k, A3, c3, hk, rfl, _, rfl, HB, HO⟩ := hrel
    by_cases hlt : k < l.length
    · have hltI : (k : Int) < (l.length : Int) := by omega
      have NA := HA.out.below HB.out
      obtain ⟨b, off, rfl, _⟩ := NA.form (by omega)
      obtain ⟨c0, c1, c2, c3', c4⟩ := NA.at_ hlt
      have HT : Hid (l.take (k + 1) = l.take k ++ [l[k]]) := List.take_succ_eq_append_getElem hlt
      have Gk := Lib.hid (G.out k hlt)
      have HLK : Hid ((l.take k).length = k) := by show (l.take k).length = k; rw [List.length_take]; omega
      clear NA
      generalize l[k] = y at c0 c1 c2 c3' c4 HT Gk
      generalize l.take k = tk at HO HT HLK
      unfold nodeCells at Gk
      have HB2 : Hid (Below w.heap.size w (wr.alloc (.cells #[.int .i64 y.id, .int .i64 y.parent, .string (bstr y.name), .bool y.dir, .string (bstr y.text)] 57))) := HB.out.trans ((Below.refl _ _).alloc HB.out.size _)
      have HO2 : Hid (OwnN (wr.alloc (.cells #[.int .i64 y.id, .int .i64 y.parent, .string (bstr y.name), .bool y.dir, .string (bstr y.text)] 57)) w.heap.size A3 c3 tk) := HO.out.alloc _
      go_wp2_with fail
      refine (Gk.out _).mono ?_
      rintro e w3 ⟨rfl, hb⟩
      have HB3 := Lib.hid (HB2.out.trans (hb.mono HB2.out.size))
      have HO3 := Lib.hid (HO2.out.below hb)
      clear hb
      go_wp2_with (at_builtin
                   refine wpList_nodes_app rfl (.tmp 12) (.tmp 15) rfl (B := w.heap.size) (out := tk) (m := [y]) (HO3.out.alloc (.cells (nodeCells y).toArray 57)) (by have := HB3.out.size; simp; omega) 1 (node_lit w3 y _ rfl) (by have := HLK.out; simp; omega) (Eq.trans (rfl : _ = Value.slice A3 k c3) (by rw [HLK.out])) rfl ?_
                   intro A4 c4 w4 hown hbel
                   have HB4 := Lib.hid ((HB3.out.trans ((Below.refl _ _).alloc HB3.out.size _)).trans hbel)
                   have HO4 := Lib.hid hown
                   clear hown hbel)
      go_roundw
      case rel => exact ⟨k + 1, A4, c4, by omega, by simp [HLK.out], trivial, by go_num, HB4, by rw [HT.out]; exact HO4⟩
      case measure => simp [intOf]; omega
    · obtain rfl : k = l.length := by omega
      have hltI : ¬ (l.length : Int) < (l.length : Int) := by omega
      rw [List.take_length] at HO
      go_wp2
      go_ret
      exact ⟨A3, c3, rfl, HO.out, HB.out⟩

set_option maxRecDepth 100000 in
theorem nodes_any (p : Option Addr) (l : List NodeV) (hl : l.length ≤ 1048576) (hs : Slim l) (w : World) (h : TPtr w p l) :
    Calls Try.prog 10 #[.pointer p] w fun e w' => ∃ A' c', e = .returned (.slice A' l.length c') ∧ OwnN w' w.heap.size A' c' l ∧ Below w.heap.size w w' := by
  have G := Lib.hid (all_any p l w h)
  have GO := Lib.hid (fun A c hA => ownAll_any A c l hl hs w hA)
  clear h hs
  go_enter Try.func10, Try.ntmps10
  go_wp2_with fail
  refine (G.out).mono ?_
  rintro e w' ⟨A, c, rfl, rfl, hn⟩
  have HN := Lib.hid hn; clear hn
  go_wp2_with fail
  refine (GO.out A c HN.out.1).mono ?_
  rintro e w' ⟨A2, c2, rfl, ho, hb⟩
  have HO := Lib.hid ho
  have HB := Lib.hid hb
  clear ho hb
  go_wp2
  go_ret
  exact ⟨A2, c2, rfl, HO.out, HB.out⟩
end Go.Proofs.Ytmedaimndaaiiaa
