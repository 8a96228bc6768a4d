/- The landed tree: one in which nothing stands is taken away. Conditions: a tree, an act that may be. (Merged of 2 texts.) -/
import Derived.Test.YtmedaimndaaiiaaMTTreeSort
import Derived.Test.YtmedaimndaaiiaaMSound
import Derived.Test.YtmedaimndaaiiaaMApp
/- The landed Children: who stands in one, by their names. Condition: a tree. -/
namespace Go.Proofs.Ytmedaimndaaiiaa
open Go.RowKit Go.Deep

theorem strict_eq {α : Type} {R : α → α → Prop} (hi : ∀ x, ¬ R x x) (ha : ∀ x y, R x y → ¬ R y x) : ∀ {a b : List α}, a.Pairwise R → b.Pairwise R → (∀ x, x ∈ a ↔ x ∈ b) → a = b
  | [], [], _, _, _ => rfl
  | [], y :: b, _, _, h => absurd ((h y).2 (List.mem_cons_self ..)) (by simp)
  | x :: a, [], _, _, h => absurd ((h x).1 (List.mem_cons_self ..)) (by simp)
  | x :: a, y :: b, h1, h2, h => by
    obtain ⟨p1, p2⟩ := List.pairwise_cons.1 h1
    obtain ⟨q1, q2⟩ := List.pairwise_cons.1 h2
    have e : x = y := by
      rcases List.mem_cons.1 ((h x).1 (List.mem_cons_self ..)) with e | hx
      · exact e
      · rcases List.mem_cons.1 ((h y).2 (List.mem_cons_self ..)) with e | hy
        · exact e.symm
        · exact absurd (p1 y hy) (ha _ _ (q1 x hx))
    subst e
    rw [strict_eq hi ha p2 q2 fun z => ?_]
    constructor
    · intro hz
      rcases List.mem_cons.1 ((h z).1 (List.mem_cons_of_mem _ hz)) with e | hb
      · exact absurd (p1 z hz) (by rw [e]; exact hi _)
      · exact hb
    · intro hz
      rcases List.mem_cons.1 ((h z).2 (List.mem_cons_of_mem _ hz)) with e | hb
      · exact absurd (q1 z hz) (by rw [e]; exact hi _)
      · exact hb
def fil (l : List NodeV) (p : Int) : List NodeV := l.filter fun y => decide (y.parent = p)
theorem fil_mem {l : List NodeV} {p : Int} {y : NodeV} : y ∈ fil l p ↔ y ∈ l ∧ y.parent = p := by unfold fil; rw [List.mem_filter, decide_eq_true_iff]
theorem fil_yes {l : List NodeV} {p : Int} {k : Nat} (hk : k < l.length) (h : l[k].parent = p) : fil (l.take (k + 1)) p = fil (l.take k) p ++ [l[k]] := by
  unfold fil
  rw [List.take_succ_eq_append_getElem hk, List.filter_append, List.filter_cons, if_pos (decide_eq_true h)]
  rfl
theorem fil_no {l : List NodeV} {p : Int} {k : Nat} (hk : k < l.length) (h : ¬ l[k].parent = p) : fil (l.take (k + 1)) p = fil (l.take k) p := by
  unfold fil
  rw [List.take_succ_eq_append_getElem hk, List.filter_append, List.filter_cons, if_neg (by rw [decide_eq_false h]; decide)]
  simp
theorem fil_len (l : List NodeV) (p : Int) : (fil l p).length ≤ l.length := by unfold fil; exact List.length_filter_le _ _
theorem TreeM.fil_names {l : List NodeV} (h : TreeM l) (p : Int) : (fil l p).Pairwise fun a b => a.name ≠ b.name := by
  have h1 : (fil l p).Pairwise fun a b => a.id < b.id := by unfold fil; exact h.srt.filter _
  refine h1.imp_of_mem fun {a b} ha hb hlt e => ?_
  obtain ⟨ha, pa⟩ := fil_mem.1 ha
  obtain ⟨hb, pb⟩ := fil_mem.1 hb
  have := h.uniq a ha b hb (by rw [pa, pb]) e
  rw [this] at hlt
  omega
theorem TreeM.names_bytes {l : List NodeV} (h : TreeM l) : ∀ y ∈ l, ∀ x ∈ y.name, x < 256 := fun y hy x hx => by
  exact (h.good y hy).2.2.1.1 x hx
theorem TreeM.sorted_kids {l m : List NodeV} (h : TreeM l) {p : Int} (hp : m.Perm (fil l p)) (hs : m.Pairwise fun a b => lessB a.name b.name = true) : m = kids l p l.length := by
  refine strict_eq (R := fun (a b : NodeV) => lessB a.name b.name = true) (fun x => by rw [lessB_self]; decide) (fun x y e => by rw [lessB_asymm e]; decide) hs (h.kids_sorted h.names_bytes p (Nat.le_refl _)) fun y => ?_
  rw [hp.mem_iff, fil_mem, kids_mem (Nat.le_refl _), List.take_length]
attribute [irreducible] fil

set_option maxHeartbeats 2000000 in
set_option maxRecDepth 100000 in
theorem children_any (p : Option Addr) (l : List NodeV) (hm : TreeM l) (parent : Int) (w : World) (h : TPtr w p l) :
    Calls Try.prog 46 #[.pointer p, .int .i64 parent] w fun e w' => ∃ A c, e = .returned (.slice A (kids l parent l.length).length c) ∧ OwnK w' w.heap.size A c ((kids l parent l.length).map fun y => y.id) ∧ Below w.heap.size w w' := by
  have G := Lib.hid (all_any p l w h)
  have hl := hm.len
  have HM := Lib.hid hm
  have GS := Lib.hid (fun (A : Option Addr) (c : Nat) (w' : World) (hB : w.heap.size ≤ w'.heap.size) (ho : OwnN w' w.heap.size A c (fil l parent)) => sortNodes_any A c (fil l parent) (by have := fil_len l parent; omega) (hm.fil_names parent) (fun y hy => hm.names_bytes y (fil_mem.1 hy).1) w' hB ho)
  obtain ⟨K0, HK0⟩ : ∃ x, Hid (kids l parent l.length = x) := ⟨_, Lib.hid rfl⟩
  rw [HK0.out]
  clear h hm
  go_enter Try.func46, Try.ntmps46
  go_wp2_with fail
  refine (G.out).mono ?_
  rintro e w' ⟨A, c, rfl, rfl, hA⟩
  have HA := Lib.hid hA.1
  clear hA
  go_wp2
  go_loopw [5, 7, 14] (fun s5 s7 s14 wr => ∃ (k : Nat) (A3 : Option Addr) (c3 : Nat), k ≤ l.length ∧ s5 = .slice A3 (fil (l.take k) parent).length c3 ∧ s7 = s7 ∧ s14 = .int .i64 (k : Int) ∧ Hid (Below w.heap.size w wr) ∧ Hid (OwnN wr w.heap.size A3 c3 (fil (l.take k) parent))) (fun _ _ i _ => l.length - (intOf i).toNat)
  case atStart =>
    have e0 : fil (l.take 0) parent = [] := by unfold fil; rfl
    exact ⟨0, none, 0, Nat.zero_le _, by rw [e0]; rfl, rfl, rfl, Below.refl _ _, by rw [e0]; exact OwnN.nil _ _⟩
  case round =>
    obtain ⟨k, A3, c3, hk, rfl, _, rfl, HB, HO⟩ := hrel
    by_cases hlt : k < l.length
    · have hltI : (k : Int) < (l.length : Int) := by omega
      have NA := HA.out.below HB.out
      obtain ⟨b, off, rfl, _⟩ := NA.form (by omega)
      obtain ⟨c0, c1, c2, c3', c4⟩ := NA.at_ hlt
      have HYES : Hid (l[k].parent = parent → fil (l.take (k + 1)) parent = fil (l.take k) parent ++ [l[k]]) := fun e => fil_yes hlt e
      have HNO : Hid (¬ l[k].parent = parent → fil (l.take (k + 1)) parent = fil (l.take k) parent) := fun e => fil_no hlt e
      have HLK : Hid ((fil (l.take k) parent).length ≤ 100) := by show _ ≤ _; have := fil_len (l.take k) parent; rw [List.length_take] at this; omega
      clear NA
      generalize l[k] = y at c0 c1 c2 c3' c4 HYES HNO
      generalize fil (l.take k) parent = fk at HO HYES HNO HLK
      have HB2 : Hid (Below w.heap.size w (wr.alloc (.cells #[.int .i64 y.id, .int .i64 y.parent, .string (bstr y.name), .bool y.dir, .string (bstr y.text)] 57))) := HB.out.trans ((Below.refl _ _).alloc HB.out.size _)
      have HO2 : Hid (OwnN (wr.alloc (.cells #[.int .i64 y.id, .int .i64 y.parent, .string (bstr y.name), .bool y.dir, .string (bstr y.text)] 57)) w.heap.size A3 c3 fk) := HO.out.alloc _
      by_cases hp : y.parent = parent
      · have HF := Lib.hid (HYES.out hp)
        have e1 : (y.parent == parent) = true := beq_iff_eq.2 hp
        clear HYES HNO hp
        go_wp2_with (at_builtin
                     refine wpList_nodes_app rfl (.tmp 22) (.tmp 24) rfl (B := w.heap.size) (out := fk) (m := [y]) (HO2.out.alloc (.cells (nodeCells y).toArray 57)) (by have := HB2.out.size; simp at this ⊢; omega) 1 (node_lit (wr.alloc (.cells #[.int .i64 y.id, .int .i64 y.parent, .string (bstr y.name), .bool y.dir, .string (bstr y.text)] 57)) y _ (by simp)) (by have := HLK.out; simp; omega) rfl rfl ?_
                     intro A4 c4 w4 hown hbel
                     have HB4 := Lib.hid ((HB2.out.trans ((Below.refl _ _).alloc HB2.out.size _)).trans hbel)
                     have HO4 := Lib.hid hown
                     clear hown hbel)
        go_roundw
        case rel => exact ⟨k + 1, A4, c4, by omega, by rw [HF.out, List.length_append]; rfl, trivial, by go_num, HB4, by rw [HF.out]; exact HO4⟩
        case measure => simp [intOf]; omega
      · have HF := Lib.hid (HNO.out hp)
        have e1 : (y.parent == parent) = false := beq_eq_false_iff_ne.2 hp
        clear HYES HNO hp
        go_wp2
        go_roundw
        case rel => exact ⟨k + 1, A3, c3, by omega, by rw [HF.out], trivial, by go_num, HB2, by rw [HF.out]; exact HO2⟩
        case measure => simp [intOf]; omega
    · obtain rfl : k = l.length := by omega
      have hltI : ¬ (l.length : Int) < (l.length : Int) := by omega
      rw [List.take_length] at HO ⊢
      have GSS := Lib.hid (GS.out A3 c3 wr HB.out.size HO.out)
      go_wp2_with fail
      refine (GSS.out).mono ?_
      rintro e w5 ⟨rfl, m, hperm, hsort, hat, hb5⟩
      have hmk : m = K0 := by rw [← HK0.out]; exact HM.out.sorted_kids hperm hsort
      subst hmk
      have HLN : Hid ((fil l parent).length = m.length) := hperm.length_eq.symm
      have HML : Hid (m.length ≤ 100) := by show _ ≤ _; rw [← HLN.out]; have := fil_len l parent; omega
      have HAT := Lib.hid hat
      have HB5 := Lib.hid (HB.out.trans hb5)
      clear hperm hsort hat hb5
      rw [HLN.out]
      obtain ⟨wq, hwq⟩ : ∃ x, x = w5 := ⟨_, rfl⟩
      subst hwq
      go_wp2
      go_loopw [8, 10, 31] (fun s8 s10 s31 wr => ∃ (k : Nat) (A4 : Option Addr) (c4 : Nat), k ≤ m.length ∧ s8 = .slice A4 k c4 ∧ s10 = s10 ∧ s31 = .int .i64 (k : Int) ∧ Hid (Below w.heap.size w wr) ∧ Hid (Below wq.heap.size wq wr) ∧ Hid (OwnK wr wq.heap.size A4 c4 ((m.take k).map fun y => y.id))) (fun _ _ i _ => m.length - (intOf i).toNat)
      case atStart => exact ⟨0, none, 0, Nat.zero_le _, rfl, rfl, rfl, HB5, Below.refl _ _, OwnK.nil _ _⟩
      case round =>
        obtain ⟨k, A4, c4, hk, rfl, _, rfl, HB6, HBQ, HO6⟩ := hrel
        by_cases hlt : k < m.length
        · have hltI : (k : Int) < (m.length : Int) := by omega
          have hml : m.length ≤ 100 := HML.out
          have NA := HAT.out.below HBQ.out
          obtain ⟨b, off, rfl, _⟩ := NA.form (by omega)
          obtain ⟨c0, c1, c2, c3', c4'⟩ := NA.at_ hlt
          have HF : Hid ((m.take (k + 1)).map (fun y => y.id) = (m.take k).map (fun y => y.id) ++ [m[k].id]) := by show _ = _; rw [List.take_succ_eq_append_getElem hlt, List.map_append]; rfl
          have HLK : Hid (((m.take k).map fun y => y.id).length = k) := by show _ = k; rw [List.length_map, List.length_take]; omega
          clear NA
          generalize m[k] = y at c0 c1 c2 c3' c4' HF
          generalize (m.take k).map (fun y => y.id) = ik at HO6 HF HLK
          have HA6 : Hid (Below w.heap.size w (wr.alloc (.cells #[.int .i64 y.id, .int .i64 y.parent, .string (bstr y.name), .bool y.dir, .string (bstr y.text)] 57))) := HB6.out.trans ((Below.refl _ _).alloc HB6.out.size _)
          have HQ6 : Hid (Below wq.heap.size wq (wr.alloc (.cells #[.int .i64 y.id, .int .i64 y.parent, .string (bstr y.name), .bool y.dir, .string (bstr y.text)] 57))) := HBQ.out.trans ((Below.refl _ _).alloc HBQ.out.size _)
          have HO7 : Hid (OwnK (wr.alloc (.cells #[.int .i64 y.id, .int .i64 y.parent, .string (bstr y.name), .bool y.dir, .string (bstr y.text)] 57)) wq.heap.size A4 c4 ik) := HO6.out.alloc _
          go_wp2_with (at_builtin
                       refine wpList_nums_app rfl (.tmp 35) (.tmp 38) rfl (B := wq.heap.size) (out := ik) (m := [y.id]) (HO7.out.alloc (.cells (intCells y.id).toArray 3)) (by have := HQ6.out.size; simp at this ⊢; omega) 1 (num_lit (wr.alloc (.cells #[.int .i64 y.id, .int .i64 y.parent, .string (bstr y.name), .bool y.dir, .string (bstr y.text)] 57)) y.id _ (by simp)) (by have := HLK.out; have := HML.out; simp; omega) (Eq.trans (rfl : _ = Value.slice A4 k c4) (by rw [HLK.out])) rfl ?_
                       intro A5 c5 w6 hown hbel
                       have HB7 := Lib.hid ((HA6.out.trans ((Below.refl _ _).alloc HA6.out.size _)).trans (hbel.mono (by have := HB5.out.size; omega)))
                       have HQ7 := Lib.hid ((HQ6.out.trans ((Below.refl _ _).alloc HQ6.out.size _)).trans hbel)
                       have HO8 := Lib.hid hown
                       clear hown hbel)
          go_roundw
          case rel => exact ⟨k + 1, A5, c5, by omega, by simp [HLK.out], trivial, by go_num, HB7, HQ7, by rw [HF.out]; exact HO8⟩
          case measure => simp [intOf]; omega
        · obtain rfl : k = m.length := by omega
          have hltI : ¬ (m.length : Int) < (m.length : Int) := by omega
          rw [List.take_length] at HO6
          have HB0 := Lib.hid (HB5.out.size)
          go_wp2
          go_ret
          exact ⟨A4, c4, rfl, own_base HO6.out HB0.out, HB6.out⟩
end Go.Proofs.Ytmedaimndaaiiaa

/- The landed tree: one in which nothing stands is taken away. Conditions: a tree, an act that may be. -/
namespace Go.Proofs.Ytmedaimndaaiiaa
open Go.RowKit Go.Deep

set_option maxHeartbeats 4000000 in
set_option maxRecDepth 100000 in
theorem remove_any (g : Nat) (l : List NodeV) (a : ActV) (hm : TreeM l) (ha : ActOk a) (hk : a.kind = 2) (w : World) (h : TreeAt w g l) (hop : CompsAt w a.opsA a.ops) :
    Calls Try.prog 30 #[.pointer (some ⟨g, 0, none⟩), .agg (actCells a).toArray] w (DoRes w g l a) := by
  have HM := Lib.hid hm
  have HT := Lib.hid h
  have HA := Lib.hid ha
  have HOP := Lib.hid hop
  have hl := hm.len
  have HTW : Hid (∀ w', Below w.heap.size w w' → TreeAt w' g l) := fun w' hb => HT.out.below hb
  have HR := Lib.hid (act_row w a)
  have HBA := Lib.hid ((Below.refl w.heap.size w).alloc (Nat.le_refl _) (.cells #[.int .i64 a.kind, .int .i64 a.id, .int .i64 a.parent, .string (bstr a.name), .bool a.dir, .slice a.opsA a.ops.length a.opsC] 26))
  obtain ⟨w1, HW1⟩ : ∃ x, Hid (w.alloc (.cells #[.int .i64 a.kind, .int .i64 a.id, .int .i64 a.parent, .string (bstr a.name), .bool a.dir, .slice a.opsA a.ops.length a.opsC] 26) = x) := ⟨_, Lib.hid rfl⟩
  rw [HW1.out] at HR HBA
  have HB1 := Lib.hid (Below.refl w1.heap.size w1)
  have HGL : Hid (g < w.heap.size) := h.lt
  have GAT := Lib.hid (fun (w' : World) (hb : Below w.heap.size w w') => at_any _ l a.id hm.srt (by omega) w' (HTW.out w' hb).ptr)
  have GKI := Lib.hid (fun (w' : World) (hb : Below w.heap.size w w') => children_any _ l hm a.id w' (HTW.out w' hb).ptr)
  have HK := Lib.hid hk
  clear h hop ha hk
  cases hf : rFind l a.id with
  | none =>
    have HE := Lib.hid (rDo_r1 HK.out hf)
    rw [hf] at GAT
    clear hf hm
    unfold actCells
    go_enter Try.func30, Try.ntmps30
    obtain ⟨q0, q1, q2, q3, q4, q5⟩ := act_row_at HR.out
    rw [← HW1.out] at q0 q1 q2 q3 q4 q5
    go_wp2_with fail
    rw [HW1.out]
    rw [HW1.out] at q0 q1 q2 q3 q4 q5
    refine (GAT.out w1 (HBA.out.trans (HB1.out.mono HBA.out.size))).mono ?_
    rintro e w2 ⟨rfl, hb⟩
    have HB2 := Lib.hid (HB1.out.trans (hb.mono HB1.out.size))
    clear hb q0 q1 q2 q3 q4 q5
    obtain ⟨q0, q1, q2, q3, q4, q5⟩ := act_row_at (HR.out.of_block (HB2.out.block _ HR.out.lt))
    go_wp2
    go_ret
    exact doRes_of HE.out rfl (HTW.out _ (HBA.out.trans (HB2.out.mono HBA.out.size))) (Only.of_below (HBA.out.trans (HB2.out.mono HBA.out.size)))
  | some k =>
    obtain ⟨hkl, hki, _⟩ := rFind_some hf
    have GPUT := Lib.hid (fun (w' : World) (ht : TreeAt w' g l) => put_any g l [] none 0 k (k + 1) (by omega) (by omega) (by simp; omega) w' ht (.inl rfl))
    rw [hf, srt_at hm.srt hf] at GAT
    obtain ⟨n, HN⟩ : ∃ n, Hid ((kids l a.id l.length).length = n) := ⟨_, Lib.hid rfl⟩
    rw [HN.out] at GKI
    by_cases hn : 0 < n
    · have HE := Lib.hid (rDo_r2 HK.out hf (by
        obtain ⟨y, hy⟩ := List.exists_mem_of_length_pos (by rw [HN.out]; exact hn : 0 < (kids l a.id l.length).length)
        rw [kids_mem (Nat.le_refl _), List.take_length] at hy
        exact ⟨y, hy.1, hy.2⟩))
      clear hf hm
      unfold actCells
      go_enter Try.func30, Try.ntmps30
      obtain ⟨q0, q1, q2, q3, q4, q5⟩ := act_row_at HR.out
      rw [← HW1.out] at q0 q1 q2 q3 q4 q5
      go_wp2_with fail
      rw [HW1.out]
      rw [HW1.out] at q0 q1 q2 q3 q4 q5
      refine (GAT.out w1 (HBA.out.trans (HB1.out.mono HBA.out.size))).mono ?_
      rintro e w2 ⟨rfl, hb⟩
      have HB2 := Lib.hid (HB1.out.trans (hb.mono HB1.out.size))
      clear hb q0 q1 q2 q3 q4 q5
      obtain ⟨q0, q1, q2, q3, q4, q5⟩ := act_row_at (HR.out.of_block (HB2.out.block _ HR.out.lt))
      go_wp2_with fail
      refine (GKI.out w2 (HBA.out.trans (HB2.out.mono HBA.out.size))).mono ?_
      rintro e w3 ⟨A, c, rfl, ho, hb⟩
      have HB3 := Lib.hid (HB2.out.trans (hb.mono HB2.out.size))
      clear ho
      clear hb q0 q1 q2 q3 q4 q5
      obtain ⟨q0, q1, q2, q3, q4, q5⟩ := act_row_at (HR.out.of_block (HB3.out.block _ HR.out.lt))
      go_wp2
      go_ret
      exact doRes_of HE.out rfl (HTW.out _ (HBA.out.trans (HB3.out.mono HBA.out.size))) (Only.of_below (HBA.out.trans (HB3.out.mono HBA.out.size)))
    · have HE := Lib.hid (rDo_r3 HK.out hf (by
        rintro ⟨y, hy, e⟩
        have : y ∈ kids l a.id l.length := (kids_mem (Nat.le_refl _)).2 ⟨by rw [List.take_length]; exact hy, e⟩
        have := List.length_pos_of_mem this
        rw [HN.out] at this
        exact hn this))
      obtain rfl : n = 0 := by omega
      clear hf hm hn
      unfold actCells
      go_enter Try.func30, Try.ntmps30
      obtain ⟨q0, q1, q2, q3, q4, q5⟩ := act_row_at HR.out
      rw [← HW1.out] at q0 q1 q2 q3 q4 q5
      go_wp2_with fail
      rw [HW1.out]
      rw [HW1.out] at q0 q1 q2 q3 q4 q5
      refine (GAT.out w1 (HBA.out.trans (HB1.out.mono HBA.out.size))).mono ?_
      rintro e w2 ⟨rfl, hb⟩
      have HB2 := Lib.hid (HB1.out.trans (hb.mono HB1.out.size))
      clear hb q0 q1 q2 q3 q4 q5
      obtain ⟨q0, q1, q2, q3, q4, q5⟩ := act_row_at (HR.out.of_block (HB2.out.block _ HR.out.lt))
      go_wp2_with fail
      refine (GKI.out w2 (HBA.out.trans (HB2.out.mono HBA.out.size))).mono ?_
      rintro e w3 ⟨A, c, rfl, ho, hb⟩
      have HB3 := Lib.hid (HB2.out.trans (hb.mono HB2.out.size))
      clear ho
      clear hb q0 q1 q2 q3 q4 q5
      obtain ⟨q0, q1, q2, q3, q4, q5⟩ := act_row_at (HR.out.of_block (HB3.out.block _ HR.out.lt))
      go_wp2_with fail
      refine (GPUT.out w3 (HTW.out _ (HBA.out.trans (HB3.out.mono HBA.out.size)))).mono ?_
      rintro e w4 ⟨rfl, ht, ho⟩
      have HFT := Lib.hid ht
      have HFO : Hid (Only g w w4) := (Only.of_below (HBA.out.trans (HB3.out.mono HBA.out.size))).trans ho
      clear ht ho
      go_wp2
      go_ret
      refine doRes_of HE.out rfl ?_ HFO.out
      have := HFT.out
      unfold spl at this
      simpa using this
end Go.Proofs.Ytmedaimndaaiiaa
