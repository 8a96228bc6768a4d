/- Nodes stand by their IDs, children by their names, and each path is its parent's, with the name behind it: it answers true and changes nothing. No condition. (Merged of 3 texts.) -/
import Derived.Test.YtkckgchohnkkpaaGreatMTTreePath
import Derived.Test.YtkckgchohnkkpaaGreatMRk
import Derived.Test.YtkckgchohnkkpaaGreatMKit
import Derived.Test.YtkckgchohnkkpaaGreatMTTreeGuard
import Derived.Test.YtkckgchohnkkpaaGreatMTTreeEq
import Derived.Test.YtkckgchohnkkpaaGreatMTRefSound
import Derived.BigQuiet
import Derived.Laws.Cover1
import Derived.Test.YtkckgchohnkkpaaGreatMCells
import Derived.ChangeMaps5
/- Paths told over a tree; a tree and a list of its nodes beside it. Condition: a tree. -/
namespace Go.Proofs.YtkckgchohnkkpaaGreat
open Go.RowKit Go.Deep

theorem path_told {l : List NodeV} (hm : TreeM l) {id : Int} {s : List Nat} (hs : rPath l id = some s) (g : Nat) (w : World) (h : TreeAt w g l) :
    Calls Tryz.prog 9 #[.pointer (some ⟨g, 0, none⟩), .int .i64 id] w fun e W' => e = .returned (.tuple #[.string (bstr s), .bool true]) ∧ Below w.heap.size w W' := by
  have := path_any g l id hm w h
  rw [hs] at this
  exact this
/-- The tree in block g shows l, which lies at A, too. -/
def OrdS (W : World) (g : Nat) (l : List NodeV) (A : Option Addr) (wr : World) : Prop := TreeAt wr g l ∧ NodesAt wr A l ∧ Below W.heap.size W wr
theorem OrdS.below {W : World} {g : Nat} {l : List NodeV} {A : Option Addr} {wr w2 : World} (h : OrdS W g l A wr) (hb : Below wr.heap.size wr w2) : OrdS W g l A w2 := ⟨h.1.below hb, h.2.1.below hb, h.2.2.trans (hb.mono h.2.2.size)⟩
theorem OrdS.drewN {W : World} {g : Nat} {l : List NodeV} {A : Option Addr} {wr : World} (h : OrdS W g l A wr) (n : Nat) : OrdS W g l A (wr.drewN n) := ⟨h.1, h.2.1, below_drewN h.2.2 n⟩
theorem path_len {l : List NodeV} (hm : TreeM l) {id : Int} {s : List Nat} (h : rPath l id = some s) : s.length ≤ 10000 := by
  cases hL : lineF l l.length id [] with
  | none => rw [path_no hm hL] at h; cases h
  | some r =>
    obtain ⟨s2, hs, hsl, hp⟩ := line_path hm _ _ _ _ hL
    obtain rfl : r = s2 := hs
    obtain ⟨_, _, h3⟩ := line_len hL
    have hl := hm.len
    rw [hp] at h
    injection h with h
    rw [← h]
    have hh : (nmsOf r ((List.finRange r.length).map fun k => (⟨k.1, k.2⟩ : Bk r)).reverse).length ≤ 21 * ((List.finRange r.length).map fun k => (⟨k.1, k.2⟩ : Bk r)).reverse.length := nmsOf_len (fun y hy => (isName_iff.1 (hm.nd y (hsl y hy)).2.2.1).2.1) _
    rw [nmsOf_all (by
      rw [List.map_reverse, List.map_map]
      congr 1
      refine List.ext_getElem (by simp) fun i h1 h2 => ?_
      simp)] at hh
    simp at h3
    rw [List.length_reverse, List.length_map, List.length_finRange] at hh
    omega
end Go.Proofs.YtkckgchohnkkpaaGreat

/- Nodes stand by their IDs, children by their names, and each path is its parent's, with the name behind it: TreeOrder answers true and changes nothing. No condition. -/
namespace Go.Proofs.YtkckgchohnkkpaaGreat
open Go.RowKit Go.Deep

/-- How many children have been seen. -/
def seenN (l : List NodeV) (q : Nat) : Nat := (((0 :: l.map fun y => y.id).take q).map fun q => (kids l q l.length).length).sum
theorem seen_first (l : List NodeV) : seenN l 1 = seenN l 0 + (kids l 0 l.length).length := by simp [seenN]
theorem seen_next {l : List NodeV} {j : Nat} (h : j < l.length) : seenN l (j + 1 + 1) = seenN l (j + 1) + (kids l l[j].id l.length).length := by
  unfold seenN
  rw [List.take_succ_cons, List.take_succ_cons, List.take_succ_eq_append_getElem (by simpa using h), List.map_cons, List.map_cons, List.map_append, List.sum_cons, List.sum_cons, List.sum_append]
  simp
  omega
theorem seen_all {l : List NodeV} (h : TreeM l) : seenN l (l.length + 1) = l.length := by
  have := h.children
  unfold seenN
  rw [List.take_of_length_le (by simp)]
  exact this
attribute [irreducible] seenN
theorem get_mem {l : List NodeV} (p : Option Addr) (hm : TreeM l) {y : NodeV} (hy : y ∈ l) (w : World) (h : TPtr w p l) :
    Calls Tryz.prog 11 #[.pointer p, .int .i64 y.id] w fun e w' => e = .returned (.tuple #[.agg (nodeCells y).toArray, .bool true]) ∧ Below w.heap.size w w' := by
  have := get_any p l hm y.id w h
  obtain ⟨k, hk, rfl⟩ := List.getElem_of_mem hy
  rw [getN, srt_find hm.srt hk] at this
  simp only [List.getElem?_eq_getElem hk, Option.getD_some, Option.isSome_some] at this
  exact this
theorem box_cells (w : World) (yi yp : Int) (yn : List Nat) (yd : Bool) (yt : List Nat) : (w.alloc (.cells #[.int .i64 yi, .int .i64 yp, .string (bstr yn), .bool yd, .string (bstr yt)] 32)).cell? ⟨w.heap.size, 1, none⟩ = some (.int .i64 yp) ∧ (w.alloc (.cells #[.int .i64 yi, .int .i64 yp, .string (bstr yn), .bool yd, .string (bstr yt)] 32)).cell? ⟨w.heap.size, 2, none⟩ = some (.string (bstr yn)) :=
  ⟨by rw [cell_of_row _ _ _ _ _ _ (heap_alloc_new w _)]; rfl, by rw [cell_of_row _ _ _ _ _ _ (heap_alloc_new w _)]; rfl⟩
set_option maxHeartbeats 8000000 in
set_option maxRecDepth 100000 in
theorem treeOrder_any (A : Option Addr) (l : List NodeV) (c : Nat) (hl : l.length ≤ maxLen) (hg : ∀ y ∈ l, y.Good) (w : World) (hA : NodesC w A c l) :
    Calls Tryz.prog 3 #[.slice A l.length c] w fun e w' => e = .returned (.bool true) ∧ Below w.heap.size w w' := by
  have GA := Lib.hid (fun w => awake_any w)
  have GS := Lib.hid (small_any A none c 0 l [] hl (by simp) hg (fun y hy => (List.not_mem_nil hy).elim) w hA.1 ⟨.inl rfl, fun y hy => (List.not_mem_nil hy).elim⟩)
  rw [List.length_nil] at GS
  have HA := Lib.hid hA.1
  have hlc := hA.2
  clear hA
  cases hsm : smallB l [] with
  | false =>
    rw [hsm] at GS
    go_enter Tryz.func3, Tryz.ntmps3
    go_wp2_with fail
    refine GS.out.mono ?_
    rintro e w1 ⟨rfl, hb⟩
    have HB := Lib.hid hb
    clear hb
    go_wp2_with fail
    refine (GA.out _).mono ?_
    rintro e x2 ⟨rfl, hb⟩
    replace HB := Lib.hid (HB.out.trans (hb.mono HB.out.size))
    clear hb
    go_wp2
    go_ret
    exact ⟨rfl, HB.out⟩

  | true =>
    rw [hsm] at GS
    have hwt := (small_yes hsm).1
    have hsl := wt_slim hwt
    have hgd := nodes_guard hwt
    clear hsm hwt
    by_cases hS : SoundN l
    · have GL := Lib.hid (fun w hA => load_yes A c l (by omega) hlc hg hsl hS w hA)
      have HM := Lib.hid (TreeM.of hS)
      have hl100 := HM.out.len
      have GN := Lib.hid (fun p w h => nodes_any p l (by omega) hsl w h)
      clear hg hS hgd
      go_enter Tryz.func3, Tryz.ntmps3
      go_wp2_with fail
      refine GS.out.mono ?_
      rintro e w1 ⟨rfl, hb⟩
      have HB := Lib.hid hb
      replace HA := Lib.hid (HA.out.below hb)
      clear hb
      go_wp2_with fail
      refine (GL.out _ HA.out).mono ?_
      rintro e w2 ⟨g, rfl, hgw, ht, hb⟩
      have HT := Lib.hid ht
      replace HB := Lib.hid (HB.out.trans (hb.mono HB.out.size))
      clear hb ht
      go_wp2_with fail
      refine (GN.out _ _ HT.out.ptr).mono ?_
      rintro e w3 ⟨A2, c2, rfl, hn, hb⟩
      have HS : Hid (OrdS w g l A2 w3) := ⟨HT.out.below hb, hn.nodes.1, HB.out.trans (hb.mono HB.out.size)⟩
      clear hb hn HT HB hgw HA
      go_wp2
      go_loopw [7, 8, 9, 10, 11] (fun i s8 s9 s10 s11 wr => ∃ k : Nat, k ≤ l.length ∧ i = .int .i64 (k : Int) ∧ s8 = s8 ∧ s9 = s9 ∧ s10 = s10 ∧ s11 = s11 ∧ Hid (OrdS w g l A2 wr)) (fun i _ _ _ _ _ => l.length - (intOf i).toNat)
      case atStart => exact ⟨0, Nat.zero_le _, rfl, rfl, rfl, rfl, rfl, HS⟩
      case round =>
        clear HS
        obtain ⟨k, hk, rfl, _, _, _, _, HS⟩ := hrel
        by_cases hlt : k < l.length
        · obtain ⟨b, off, rfl, _⟩ := HS.out.2.1.form (by omega)
          have hltI : (k : Int) < (l.length : Int) := by omega
          by_cases hk0 : k = 0
          · skip
            obtain rfl : k = 0 := by omega
            have hmem := List.getElem_mem hlt
            have HIX : Hid (∀ X : World, OrdS w g l (some ⟨b, off, none⟩) X → X.cell? ⟨b, off, none⟩ = some (.int .i64 l[0].id) ∧ X.cell? ⟨b, off + 1, none⟩ = some (.int .i64 l[0].parent) ∧ X.cell? ⟨b, off + 2, none⟩ = some (.string (bstr l[0].name))) := fun X h => ⟨by simpa using (h.2.1.at_ hlt).1, by simpa using (h.2.1.at_ hlt).2.1, by simpa using (h.2.1.at_ hlt).2.2.1⟩
            obtain ⟨s, hs⟩ : ∃ s, rPath l l[0].parent = some s := by
              obtain ⟨q, hq, _⟩ := HM.out.path_some hmem
              rw [HM.out.path_up hmem] at hq
              cases h : rPath l l[0].parent with
              | none => rw [h] at hq; cases hq
              | some s => exact ⟨s, rfl⟩
            have hs2 := HM.out.path_up hmem
            rw [hs, Option.map_some] at hs2
            have GP1 := Lib.hid (path_told HM.out hs g)
            have GP2 := Lib.hid (path_told HM.out hs2 g)
            have hnl := (isName_iff.1 (HM.out.nd _ hmem).2.2.1).2.1
            have hsl := path_len HM.out hs
            clear hs hs2 hmem
            generalize l[0].id = yi at *
            generalize l[0].parent = yp at *
            generalize l[0].name = yn at *
            cases s with
            | nil =>
              have hadd := fun w => add_bstr [] yn (by simp) (by omega) w
              have hem := empty_yes
              have hj : jn [] yn = yn := jn_nil yn
              rw [hj] at GP2
              rw [List.nil_append] at hadd
              go_wp2
              go_quiet (fail)
              replace HS := Lib.hid (HS.out.drewN nq)
              generalize wr.drewN nq = wq at HS ⊢
              obtain ⟨z0, z1, z2⟩ := HIX.out _ HS.out
              go_wp2_with fail
              refine (GP1.out _ HS.out.1).mono ?_
              rintro e x1 ⟨rfl, hb⟩
              replace HS := Lib.hid (HS.out.below hb)
              clear hb
              obtain ⟨z0, z1, z2⟩ := HIX.out _ HS.out
              go_wp2_with fail
              refine (GP2.out _ HS.out.1).mono ?_
              rintro e x2 ⟨rfl, hb⟩
              replace HS := Lib.hid (HS.out.below hb)
              clear hb
              obtain ⟨z0, z1, z2⟩ := HIX.out _ HS.out
              go_wp2
              go_roundw
              case rel => exact ⟨1, by omega, by go_num, trivial, trivial, trivial, trivial, HS⟩
              case measure => simp [intOf]; omega

            | cons s0 s =>
              obtain ⟨S1, HS1⟩ : ∃ S1, Hid ((s0 :: s) ++ [47] = S1) := ⟨_, Lib.hid rfl⟩
              obtain ⟨S2, HS2⟩ : ∃ S2, Hid (S1 ++ yn = S2) := ⟨_, Lib.hid rfl⟩
              have hS1 : S1.length ≤ 10001 := by rw [← HS1.out]; simp at hsl ⊢; omega
              have hadd1 : ∀ w, (Op.stringOp .add (bstr (s0 :: s)) { data := #[47] }).run Tryz.prog w = .ok (.string (bstr S1)) w := fun w => by rw [← HS1.out]; exact add_bstr (s0 :: s) [47] (by omega) (by simp) w
              have hadd2 : ∀ w, (Op.stringOp .add (bstr S1) (bstr yn)).run Tryz.prog w = .ok (.string (bstr S2)) w := fun w => by rw [← HS2.out]; exact add_bstr S1 yn (by omega) (by omega) w
              have hem := empty_no (l := s0 :: s) (by simp)
              have hj : jn (s0 :: s) yn = S2 := by rw [← HS2.out, ← HS1.out]; unfold jn; rw [if_neg (by simp)]; simp
              rw [hj] at GP2
              clear hj
              go_wp2
              go_quiet (fail)
              replace HS := Lib.hid (HS.out.drewN nq)
              generalize wr.drewN nq = wq at HS ⊢
              obtain ⟨z0, z1, z2⟩ := HIX.out _ HS.out
              go_wp2_with fail
              refine (GP1.out _ HS.out.1).mono ?_
              rintro e x1 ⟨rfl, hb⟩
              replace HS := Lib.hid (HS.out.below hb)
              clear hb
              obtain ⟨z0, z1, z2⟩ := HIX.out _ HS.out
              go_wp2_with fail
              refine (GP2.out _ HS.out.1).mono ?_
              rintro e x2 ⟨rfl, hb⟩
              replace HS := Lib.hid (HS.out.below hb)
              clear hb
              obtain ⟨z0, z1, z2⟩ := HIX.out _ HS.out
              go_wp2
              go_roundw
              case rel => exact ⟨1, by omega, by go_num, trivial, trivial, trivial, trivial, HS⟩
              case measure => simp [intOf]; omega

          · skip
            obtain ⟨j, hj⟩ : ∃ j, j + 1 = k := ⟨k - 1, by omega⟩
            have hjl : j < l.length := by omega
            have hkj : (k : Int) - 1 = (j : Int) := by omega
            have hk1 : 0 < k := by omega
            have hk2 : (0 : Int) < (k : Int) := by omega
            have hjI : (j : Int) < (l.length : Int) := by omega
            have hwj : IntKind.i64.wrap (j : Int) = (j : Int) := IntWalk.i64_in _ (by omega)
            obtain ⟨p0, _, _, _, _⟩ := HS.out.2.1.at_ hjl
            obtain ⟨y0, _, _, _, _⟩ := HS.out.2.1.at_ hlt
            have hord := List.pairwise_iff_getElem.1 HM.out.srt j k hjl hlt (by omega)
            have hmem := List.getElem_mem hlt
            have HIX : Hid (∀ X : World, OrdS w g l (some ⟨b, off, none⟩) X → X.cell? ⟨b, off + k * 5, none⟩ = some (.int .i64 l[k].id) ∧ X.cell? ⟨b, off + k * 5 + 1, none⟩ = some (.int .i64 l[k].parent) ∧ X.cell? ⟨b, off + k * 5 + 2, none⟩ = some (.string (bstr l[k].name))) := fun X h => ⟨(h.2.1.at_ hlt).1, (h.2.1.at_ hlt).2.1, (h.2.1.at_ hlt).2.2.1⟩
            obtain ⟨s, hs⟩ : ∃ s, rPath l l[k].parent = some s := by
              obtain ⟨q, hq, _⟩ := HM.out.path_some hmem
              rw [HM.out.path_up hmem] at hq
              cases h : rPath l l[k].parent with
              | none => rw [h] at hq; cases hq
              | some s => exact ⟨s, rfl⟩
            have hs2 := HM.out.path_up hmem
            rw [hs, Option.map_some] at hs2
            have GP1 := Lib.hid (path_told HM.out hs g)
            have GP2 := Lib.hid (path_told HM.out hs2 g)
            have hnl := (isName_iff.1 (HM.out.nd _ hmem).2.2.1).2.1
            have hsl := path_len HM.out hs
            clear hs hs2 hmem
            generalize l[j].id = u at p0 hord
            generalize l[k].id = yi at *
            generalize l[k].parent = yp at *
            generalize l[k].name = yn at *
            cases s with
            | nil =>
              have hadd := fun w => add_bstr [] yn (by simp) (by omega) w
              have hem := empty_yes
              have hj : jn [] yn = yn := jn_nil yn
              rw [hj] at GP2
              rw [List.nil_append] at hadd
              go_wp2
              go_quiet (fail)
              replace HS := Lib.hid (HS.out.drewN nq)
              generalize wr.drewN nq = wq at HS ⊢
              obtain ⟨z0, z1, z2⟩ := HIX.out _ HS.out
              go_wp2_with fail
              refine (GP1.out _ HS.out.1).mono ?_
              rintro e x1 ⟨rfl, hb⟩
              replace HS := Lib.hid (HS.out.below hb)
              clear hb
              obtain ⟨z0, z1, z2⟩ := HIX.out _ HS.out
              go_wp2_with fail
              refine (GP2.out _ HS.out.1).mono ?_
              rintro e x2 ⟨rfl, hb⟩
              replace HS := Lib.hid (HS.out.below hb)
              clear hb
              obtain ⟨z0, z1, z2⟩ := HIX.out _ HS.out
              go_wp2
              go_roundw
              case rel => exact ⟨k + 1, by omega, by go_num, trivial, trivial, trivial, trivial, HS⟩
              case measure => simp [intOf]; omega

            | cons s0 s =>
              obtain ⟨S1, HS1⟩ : ∃ S1, Hid ((s0 :: s) ++ [47] = S1) := ⟨_, Lib.hid rfl⟩
              obtain ⟨S2, HS2⟩ : ∃ S2, Hid (S1 ++ yn = S2) := ⟨_, Lib.hid rfl⟩
              have hS1 : S1.length ≤ 10001 := by rw [← HS1.out]; simp at hsl ⊢; omega
              have hadd1 : ∀ w, (Op.stringOp .add (bstr (s0 :: s)) { data := #[47] }).run Tryz.prog w = .ok (.string (bstr S1)) w := fun w => by rw [← HS1.out]; exact add_bstr (s0 :: s) [47] (by omega) (by simp) w
              have hadd2 : ∀ w, (Op.stringOp .add (bstr S1) (bstr yn)).run Tryz.prog w = .ok (.string (bstr S2)) w := fun w => by rw [← HS2.out]; exact add_bstr S1 yn (by omega) (by omega) w
              have hem := empty_no (l := s0 :: s) (by simp)
              have hj : jn (s0 :: s) yn = S2 := by rw [← HS2.out, ← HS1.out]; unfold jn; rw [if_neg (by simp)]; simp
              rw [hj] at GP2
              clear hj
              go_wp2
              go_quiet (fail)
              replace HS := Lib.hid (HS.out.drewN nq)
              generalize wr.drewN nq = wq at HS ⊢
              obtain ⟨z0, z1, z2⟩ := HIX.out _ HS.out
              go_wp2_with fail
              refine (GP1.out _ HS.out.1).mono ?_
              rintro e x1 ⟨rfl, hb⟩
              replace HS := Lib.hid (HS.out.below hb)
              clear hb
              obtain ⟨z0, z1, z2⟩ := HIX.out _ HS.out
              go_wp2_with fail
              refine (GP2.out _ HS.out.1).mono ?_
              rintro e x2 ⟨rfl, hb⟩
              replace HS := Lib.hid (HS.out.below hb)
              clear hb
              obtain ⟨z0, z1, z2⟩ := HIX.out _ HS.out
              go_wp2
              go_roundw
              case rel => exact ⟨k + 1, by omega, by go_num, trivial, trivial, trivial, trivial, HS⟩
              case measure => simp [intOf]; omega

        · obtain rfl : k = l.length := by omega
          obtain ⟨w5, hw5⟩ : ∃ x, x = wr := ⟨wr, rfl⟩
          subst hw5
          go_wp2
          go_loopw [6, 12, 13, 14, 15, 16, 17, 18] (fun s6 s12 s13 s14 s15 s16 s17 s18 wr => ∃ (q : Nat) (z : Int) (sn : Nat), q ≤ l.length + 1 ∧ s6 = .int .i64 (sn : Int) ∧ s12 = .int .i64 z ∧ z + 1 = (q : Int) ∧ s13 = s13 ∧ s14 = s14 ∧ s15 = s15 ∧ s16 = s16 ∧ s17 = s17 ∧ s18 = s18 ∧ Hid (seenN l q = sn) ∧ sn ≤ 100 * q ∧ Hid (OrdS w g l A2 wr)) (fun _ i _ _ _ _ _ _ _ => ((l.length : Int) - intOf i).toNat)
          case atStart => exact ⟨0, -1, 0, by omega, rfl, rfl, by omega, rfl, rfl, rfl, rfl, rfl, rfl, Lib.hid (by unfold seenN; rfl), by omega, HS⟩
          case round =>
            clear HS
            obtain ⟨q, z, sn, hq, rfl, rfl, hz, _, _, _, _, _, _, HSN, hsn0, HS⟩ := hrel
            by_cases hlt : q ≤ l.length
            · have hzl : z < (l.length : Int) := by omega
              by_cases hq0 : q = 0
              · obtain rfl : z = -1 := by omega
                clear hz
                subst hq0
                have hsn : seenN l 1 = sn + (kids l 0 l.length).length := by rw [seen_first, HSN.out]
                obtain ⟨K3, HK3⟩ : ∃ K3, Hid (kids l 0 l.length = K3) := ⟨_, Lib.hid rfl⟩
                have HKF : Hid (∀ y ∈ K3, y ∈ l ∧ y.parent = 0) := fun y hy => by
                  rw [← HK3.out, kids_mem (Nat.le_refl _), List.take_length] at hy
                  exact hy
                have HKS : Hid (K3.Pairwise fun a b => lessB a.name b.name = true) := by
                  show List.Pairwise _ _
                  rw [← HK3.out]
                  exact HM.out.kids_sorted HM.out.names_bytes 0 (Nat.le_refl _)
                have hKL : K3.length ≤ l.length := by
                  rw [← HK3.out, kids_length (Nat.le_refl _)]
                  exact Nat.le_trans (List.length_filter_le _ _) (by rw [List.length_take]; omega)
                have GC := Lib.hid (fun p w h => children_any p l HM.out 0 w h)
                rw [HK3.out] at GC
                rw [HK3.out] at hsn
                have HSN2 := Lib.hid hsn
                clear hsn HK3
                go_wp2_with fail
                refine (GC.out _ _ HS.out.1.ptr).mono ?_
                rintro e x4 ⟨A3, c3, rfl, hk, hb⟩
                replace HS := Lib.hid (HS.out.below hb)
                have HC := Lib.hid hk.at_
                clear hb hk
                go_wp2
                go_loopw [15, 16, 17, 18] (fun la mi s17 s18 wr => ∃ (m : Nat) (t : List Nat), m ≤ K3.length ∧ la = .string (bstr t) ∧ mi = .int .i64 (m : Int) ∧ s17 = s17 ∧ s18 = s18 ∧ Hid (∀ (h : m < K3.length), 0 < m → lessB t K3[m].name = true) ∧ Hid (OrdS w g l A2 wr) ∧ Hid (NumsAt wr A3 (K3.map fun y => y.id))) (fun _ mi _ _ _ => K3.length - (intOf mi).toNat)
                case atStart => exact ⟨0, [], Nat.zero_le _, rfl, rfl, rfl, rfl, fun _ h => absurd h (by omega), HS, HC⟩
                case round =>
                  clear HS HC
                  obtain ⟨m, t, hm, rfl, rfl, _, _, HLT, HS, HC⟩ := hrel
                  by_cases hml : m < K3.length
                  · have hmI : (m : Int) < (K3.length : Int) := by omega
                    obtain ⟨b3, off3, rfl, _⟩ := HC.out.form (by simp; omega)
                    have c3 := HC.out.get (i := m) (by simpa using hml)
                    rw [List.getElem_map] at c3
                    have hless := HLT.out hml
                    have HNX : Hid (∀ (h : m + 1 < K3.length), 0 < m + 1 → lessB K3[m].name (K3[m + 1]'h).name = true) := fun h _ => List.pairwise_iff_getElem.1 HKS.out m (m + 1) hml h (by omega)
                    obtain ⟨hyl, hyp⟩ := HKF.out _ (List.getElem_mem hml)
                    have GG := Lib.hid (fun p w h => get_mem p HM.out hyl w h)
                    clear hyl HLT
                    generalize K3[m] = y at c3 hless HNX hyp GG
                    obtain ⟨yi, yp, yn, yd, yt⟩ := y
                    simp only at c3 hless HNX hyp GG
                    have hyp2 := hyp.symm
                    clear hyp
                    subst hyp2
                    have hne : ((0 : Int) != 0) = false := by simp
                    unfold nodeCells at GG
                    simp only at GG
                    go_wp2_with fail
                    refine (GG.out _ _ HS.out.1.ptr).mono ?_
                    rintro e x5 ⟨rfl, hb⟩
                    replace HS := Lib.hid (HS.out.below hb)
                    replace HC := Lib.hid (HC.out.below hb)
                    clear hb
                    obtain ⟨n1, n2⟩ := box_cells x5 yi 0 yn yd yt
                    have hb := (Below.refl x5.heap.size x5).alloc (Nat.le_refl _) (.cells #[.int .i64 yi, .int .i64 0, .string (bstr yn), .bool yd, .string (bstr yt)] 32)
                    replace HS := Lib.hid (HS.out.below hb)
                    replace HC := Lib.hid (HC.out.below hb)
                    clear hb
                    by_cases hm0 : m = 0
                    · have hm1 : ¬ (0 : Int) < (m : Int) := by omega
                      clear hless
                      go_wp2_with fail
                      go_roundw
                      case rel => exact ⟨m + 1, yn, by omega, rfl, by go_num, trivial, trivial, HNX, HS, HC⟩
                      case measure => simp [intOf]; omega
                    · have hm1 : (0 : Int) < (m : Int) := by omega
                      have hbl : Op.bytesLess (bstr t).toList (bstr yn).toList = true := hless (by omega)
                      have hbl2 : (!Op.bytesLess (bstr t).toList (bstr yn).toList) = false := by rw [hbl]; rfl
                      clear hless
                      go_wp2_with fail
                      go_roundw
                      case rel => exact ⟨m + 1, yn, by omega, rfl, by go_num, trivial, trivial, HNX, HS, HC⟩
                      case measure => simp [intOf]; omega
                  · obtain rfl : m = K3.length := by omega
                    obtain ⟨w7, hw7⟩ : ∃ x, x = wr := ⟨wr, rfl⟩
                    subst hw7
                    go_wp2_with fail
                    go_roundw
                    case rel => exact ⟨1, 0, sn + K3.length, by omega, by go_num, by go_num, by omega, trivial, trivial, trivial, trivial, trivial, trivial, HSN2, by omega, HS⟩
                    case measure => first | (simp only [intOf]; omega) | (simp [intOf]; done) | (simp [intOf]; omega)

              · obtain ⟨j, rfl⟩ : ∃ j, q = j + 1 := ⟨q - 1, by omega⟩
                obtain rfl : z = (j : Int) := by omega
                clear hz
                have hjl : j < l.length := by omega
                have hjI : (j : Int) < (l.length : Int) := by omega
                have hsn : seenN l (j + 1 + 1) = sn + (kids l l[j].id l.length).length := by rw [seen_next hjl, HSN.out]
                obtain ⟨b, off, rfl, _⟩ := HS.out.2.1.form (by omega)
                obtain ⟨y0, _, _, _, _⟩ := HS.out.2.1.at_ hjl
                generalize l[j].id = P at y0 hsn
                obtain ⟨K3, HK3⟩ : ∃ K3, Hid (kids l P l.length = K3) := ⟨_, Lib.hid rfl⟩
                have HKF : Hid (∀ y ∈ K3, y ∈ l ∧ y.parent = P) := fun y hy => by
                  rw [← HK3.out, kids_mem (Nat.le_refl _), List.take_length] at hy
                  exact hy
                have HKS : Hid (K3.Pairwise fun a b => lessB a.name b.name = true) := by
                  show List.Pairwise _ _
                  rw [← HK3.out]
                  exact HM.out.kids_sorted HM.out.names_bytes P (Nat.le_refl _)
                have hKL : K3.length ≤ l.length := by
                  rw [← HK3.out, kids_length (Nat.le_refl _)]
                  exact Nat.le_trans (List.length_filter_le _ _) (by rw [List.length_take]; omega)
                have GC := Lib.hid (fun p w h => children_any p l HM.out P w h)
                rw [HK3.out] at GC
                rw [HK3.out] at hsn
                have HSN2 := Lib.hid hsn
                clear hsn HK3
                go_wp2_with fail
                refine (GC.out _ _ HS.out.1.ptr).mono ?_
                rintro e x4 ⟨A3, c3, rfl, hk, hb⟩
                replace HS := Lib.hid (HS.out.below hb)
                have HC := Lib.hid hk.at_
                clear hb hk
                go_wp2
                go_loopw [15, 16, 17, 18] (fun la mi s17 s18 wr => ∃ (m : Nat) (t : List Nat), m ≤ K3.length ∧ la = .string (bstr t) ∧ mi = .int .i64 (m : Int) ∧ s17 = s17 ∧ s18 = s18 ∧ Hid (∀ (h : m < K3.length), 0 < m → lessB t K3[m].name = true) ∧ Hid (OrdS w g l (some ⟨b, off, none⟩) wr) ∧ Hid (NumsAt wr A3 (K3.map fun y => y.id))) (fun _ mi _ _ _ => K3.length - (intOf mi).toNat)
                case atStart => exact ⟨0, [], Nat.zero_le _, rfl, rfl, rfl, rfl, fun _ h => absurd h (by omega), HS, HC⟩
                case round =>
                  clear HS HC
                  obtain ⟨m, t, hm, rfl, rfl, _, _, HLT, HS, HC⟩ := hrel
                  by_cases hml : m < K3.length
                  · have hmI : (m : Int) < (K3.length : Int) := by omega
                    obtain ⟨b3, off3, rfl, _⟩ := HC.out.form (by simp; omega)
                    have c3 := HC.out.get (i := m) (by simpa using hml)
                    rw [List.getElem_map] at c3
                    have hless := HLT.out hml
                    have HNX : Hid (∀ (h : m + 1 < K3.length), 0 < m + 1 → lessB K3[m].name (K3[m + 1]'h).name = true) := fun h _ => List.pairwise_iff_getElem.1 HKS.out m (m + 1) hml h (by omega)
                    obtain ⟨hyl, hyp⟩ := HKF.out _ (List.getElem_mem hml)
                    have GG := Lib.hid (fun p w h => get_mem p HM.out hyl w h)
                    clear hyl HLT
                    generalize K3[m] = y at c3 hless HNX hyp GG
                    obtain ⟨yi, yp, yn, yd, yt⟩ := y
                    simp only at c3 hless HNX hyp GG
                    have hyp2 := hyp.symm
                    clear hyp
                    subst hyp2
                    have hne : (P != P) = false := by simp
                    unfold nodeCells at GG
                    simp only at GG
                    go_wp2_with fail
                    refine (GG.out _ _ HS.out.1.ptr).mono ?_
                    rintro e x5 ⟨rfl, hb⟩
                    replace HS := Lib.hid (HS.out.below hb)
                    replace HC := Lib.hid (HC.out.below hb)
                    clear hb
                    obtain ⟨n1, n2⟩ := box_cells x5 yi P yn yd yt
                    have hb := (Below.refl x5.heap.size x5).alloc (Nat.le_refl _) (.cells #[.int .i64 yi, .int .i64 P, .string (bstr yn), .bool yd, .string (bstr yt)] 32)
                    replace HS := Lib.hid (HS.out.below hb)
                    replace HC := Lib.hid (HC.out.below hb)
                    clear hb
                    by_cases hm0 : m = 0
                    · have hm1 : ¬ (0 : Int) < (m : Int) := by omega
                      clear hless
                      go_wp2_with fail
                      go_roundw
                      case rel => exact ⟨m + 1, yn, by omega, rfl, by go_num, trivial, trivial, HNX, HS, HC⟩
                      case measure => simp [intOf]; omega
                    · have hm1 : (0 : Int) < (m : Int) := by omega
                      have hbl : Op.bytesLess (bstr t).toList (bstr yn).toList = true := hless (by omega)
                      have hbl2 : (!Op.bytesLess (bstr t).toList (bstr yn).toList) = false := by rw [hbl]; rfl
                      clear hless
                      go_wp2_with fail
                      go_roundw
                      case rel => exact ⟨m + 1, yn, by omega, rfl, by go_num, trivial, trivial, HNX, HS, HC⟩
                      case measure => simp [intOf]; omega
                  · obtain rfl : m = K3.length := by omega
                    obtain ⟨w7, hw7⟩ : ∃ x, x = wr := ⟨wr, rfl⟩
                    subst hw7
                    go_wp2_with fail
                    go_roundw
                    case rel => exact ⟨j + 1 + 1, (j : Int) + 1, sn + K3.length, by omega, by go_num, by go_num, by omega, trivial, trivial, trivial, trivial, trivial, trivial, HSN2, by omega, HS⟩
                    case measure => first | (simp only [intOf]; omega) | (simp [intOf]; done) | (simp [intOf]; omega)

            · obtain rfl : q = l.length + 1 := by omega
              obtain rfl : z = (l.length : Int) := by omega
              have hse : sn = l.length := by rw [← HSN.out]; exact seen_all HM.out
              subst hse
              obtain ⟨w6, hw6⟩ : ∃ x, x = wr := ⟨wr, rfl⟩
              subst hw6
              have HB := Lib.hid HS.out.2.2
              go_wp2_with fail
              refine (GA.out _).mono ?_
              rintro e x9 ⟨rfl, hb⟩
              replace HB := Lib.hid (HB.out.trans (hb.mono HB.out.size))
              clear hb
              go_wp2
              go_ret
              exact ⟨rfl, HB.out⟩


    · have GL := Lib.hid (fun w hA => load_no A c l (by omega) hlc hg hsl hS w hA)
      have GO := Lib.hid (fun w hA => refSound_any A c l (by omega) hg (fun y hy => by have := (hgd.2 y hy).2; omega) w hA)
      rw [rSound_no hS] at GO
      clear hg hS
      go_enter Tryz.func3, Tryz.ntmps3
      go_wp2_with fail
      refine GS.out.mono ?_
      rintro e w1 ⟨rfl, hb⟩
      have HB := Lib.hid hb
      replace HA := Lib.hid (HA.out.below hb)
      clear hb
      go_wp2_with fail
      refine (GL.out _ HA.out).mono ?_
      rintro e w2 ⟨rfl, hb⟩
      replace HA := Lib.hid (HA.out.below hb)
      replace HB := Lib.hid (HB.out.trans (hb.mono HB.out.size))
      clear hb
      go_wp2_with fail
      refine (GO.out _ HA.out).mono ?_
      rintro e w3 ⟨rfl, hb⟩
      replace HB := Lib.hid (HB.out.trans (hb.mono HB.out.size))
      clear hb
      go_wp2_with fail
      refine (GA.out _).mono ?_
      rintro e x4 ⟨rfl, hb⟩
      replace HB := Lib.hid (HB.out.trans (hb.mono HB.out.size))
      clear hb
      go_wp2
      go_ret
      exact ⟨rfl, HB.out⟩

end Go.Proofs.YtkckgchohnkkpaaGreat

/- Nodes stand by their IDs, children by their names, and each path is its parent's, with the name behind it: it answers true and changes nothing. No condition. -/
namespace Go.Proofs.YtkckgchohnkkpaaGreat
open Go.ChangeShapes Go.WideShapes Go.ChangeAt Go.RowKit

set_option maxRecDepth 100000 in
theorem treeOrder_lifted (os : Os) (started : os.Started) (H : Type) (enc : TypeId × Value → H) :
    ReturnsInHanded {} Tryz.checked os 3 .any (Rows.treeOrderSpec.pre6 enc Tryz.prog Tryz.f3 Rows.treeOrderRow.domain false) (Rows.treeOrderSpec.post enc Tryz.prog Tryz.f3 false true false false) := by
  refine returnsInHanded_of_change (C := Tryz.checked) law_own started (by kernel_rfl) Tryz.func3
    (ChangeSpec.witness6 (enc := enc) (C := Tryz.checked) false ⟨#[], #[.slice none 0 0], []⟩ 8 (by kernel_rfl) (by kernel_rfl) (by kernel_rfl) (by kernel_rfl)) ?_
  intro W base args ds gs before hval0 hW _ _
  have hval : ∀ (j : Nat) t v, Tryz.f3.params[j]? = some t → args[j]? = some v → Value.okWide Tryz.prog W .any base t v := hval0
  have hW' := hW
  obtain ⟨p, q, hA0, hV, rfl, _, _⟩ := hW
  have hlt : ∀ x ∈ p ++ q, x.block < W.heap.size := fun x hx => hW'.lt x hx
  have hA : DataW.TrodAll enc Tryz.prog W 0 (fun _ => true) true Tryz.f3.params.toList args.toList ds p := hA0
  rw [Tryz.params3] at hA hval
  obtain ⟨v0, d0, rfl, rfl, h0⟩ := trodAll_one hA
  obtain ⟨rfl, rfl⟩ := trodVars_none hV
  obtain ⟨A0, l0, c0, rfl, hat0, hg0, hlc0, hc0⟩ := open_nodes (hval 0 22 v0 rfl rfl) h0 (fun x hx => hlt x (by simp [hx]))
  have hl0 : l0.length ≤ maxLen := by omega
  clear hA0 hval0
  refine (treeOrder_any A0 l0 c0 hl0 hg0 W ⟨hat0, hlc0⟩).mono fun e W' ⟨he, hb⟩ => ?_
  exact ⟨_, he, law_post law_laid (by kernel_rfl) (by kernel_rfl) Tryz.underlying4 rfl hW' rfl hb⟩

theorem treeOrder_holds : Rows.TreeOrderSaid :=
  OpenClaim.holds_of_wide 3 Tryz.f3 rfl rfl rfl rfl rfl rfl rfl ⟨rfl, rfl, rfl, rfl, rfl⟩ rfl rfl rfl rfl rfl (by kernel_rfl) Tryz.func3 (by kernel_rfl)
    (of_decide_eq_true (by kernel_rfl)) (by unfold Func.isWrapper; first | (rw [if_pos (by decide +kernel)]; kernel_rfl) | (rw [if_neg (by decide +kernel)]; exact ⟨rfl, rfl⟩))
    (fun os started H enc _ => treeOrder_lifted os started H enc)
end Go.Proofs.YtkckgchohnkkpaaGreat
