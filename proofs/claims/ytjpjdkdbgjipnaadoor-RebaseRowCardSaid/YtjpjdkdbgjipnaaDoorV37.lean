/- What the landed effect answers: Of, Get, Over, Same. Conditions: acts and what was done that may be looked at, in slices with room for them. (Merged of 3 texts.) -/
import Derived.Test.YtjpjdkdbgjipnaaDoorV35
import Derived.Test.YtjpjdkdbgjipnaaDoorV36
import Derived.Test.YtjpjdkdbgjipnaaDoorV33
import Derived.Test.YtjpjdkdbgjipnaaDoorV47
import Derived.Test.YtjpjdkdbgjipnaaDoorV23
import Derived.Test.YtjpjdkdbgjipnaaDoorV46
import Derived.Test.YtjpjdkdbgjipnaaDoorV20
namespace Go.Proofs.YtjpjdkdbgjipnaaDoor
open Go.RowKit Go.Deep
theorem yy600 (m : List ActV) : ∀ x : OneK, yy277 m x = { x with ops := yy45 x.ops ((rowsE m x.id).map (·.2.2)) } := by
 have h : ∀ (m : List ActV) (x : OneK), m.foldl yy74 x = { x with ops := yy45 x.ops ((rowsE m x.id).map (·.2.2)) } := by
  intro m
  induction m with
  | nil => intro x; rfl
  | cons a m ih =>
   intro x
   rw [List.foldl_cons, ih, (yy278 x a).1]
   have e : rowsE (a :: m) x.id = rowsE [a] x.id ++ rowsE m x.id := by
    unfold rowsE
    rw [← List.map_append, ← List.filter_append]
    rfl
   rw [e, List.map_append]
   unfold yy45
   rw [List.foldl_append]
   have e2 : yy74 x a = { x with ops := ((rowsE [a] x.id).map (·.2.2)).foldl yy56 x.ops } := by
    unfold yy74 rowsE
    by_cases h1 : a.kind = 4 ∧ a.id = x.id
    ·have h2 : (decide (a.kind = 4) && decide (a.id = x.id)) = true := by rw [decide_eq_true h1.1, decide_eq_true h1.2]; rfl
     rw [List.filter_cons, if_pos h2]
     show _ = { x with ops := yy56 x.ops a.ops }
     unfold yy56
     by_cases h3 : x.ops ≠ [] ∧ (rOver true x.ops a.ops).2 = 0
     ·rw [if_pos ⟨h1, h3⟩, if_pos h3]
     ·rw [if_neg (fun h => h3 h.2), if_neg h3]
    ·have h2 : ¬ (decide (a.kind = 4) && decide (a.id = x.id)) = true := fun h => h1 (by simpa using h)
     rw [if_neg (fun h => h1 h.1), List.filter_cons, if_neg h2]
     rfl
   rw [e2]
 exact h m
theorem yy395 {m : List ActV} {i : Int} {x : EditR} (h : x ∈ rowsE m i) : ∃ a ∈ m, x = (a.opsA, a.opsC, a.ops) := by
 unfold rowsE at h
 obtain ⟨a, ha, rfl⟩ := List.mem_map.1 h
 exact ⟨a, (List.mem_filter.1 ha).1, rfl⟩
theorem yy703 {w : World} {V c : Nat} {A : Option Addr} {rows : List EditR} (h : OwnX w V A c rows) (hc : ∀ x ∈ rows, CompsC w x.1 x.2.1 x.2.2) : RowsC w A rows := by
 rcases yy4.of_own h with h0 | ⟨b, off, rfl, hlt, hcc⟩
 ·exact .inl (List.map_eq_nil_iff.1 h0)
 ·refine .inr ⟨b, off, rfl, hlt, fun j x hj => ⟨hcc j _ (by rw [List.getElem?_map, hj]; rfl), hc x (List.mem_of_getElem? hj)⟩⟩
set_option maxHeartbeats 8000000 in
set_option maxRecDepth 100000 in
theorem yy357 (A : Option Addr) (c : Nat) (l : List OneV) (hl : l.length ≤ 1048576) (hg : ∀ y ∈ l, y.Good ∧ KeyH y.k) (B : Option Addr) (d : Nat) (m : List ActV) (hm : m.length ≤ 1048576) (hgm : ∀ a ∈ m, ActH a) (w : World) (hA : OnesAt w A l) (hB : ActsAt w B m) :
  Calls Tryd.prog 38 #[.slice A l.length c, .slice B m.length d] w fun e w' => ∃ Lo A3 c3 V, e = .returned (.slice A3 (List.length Lo) c3) ∧ OwnE w' V A3 c3 Lo ∧ Lo.map (·.k) = overK (l.map (·.k)) m ∧ (∀ y ∈ Lo, Made1 w' V y) ∧ w.heap.size ≤ V ∧ Below w.heap.size w w' := by
 have GE := xh (yy356 B d m hm hgm w hB)
 have HA := xh hA
 have HG := xh hg
 have HBC := xh hB.2
 have HGM := xh hgm
 clear hA hB hg hgm
 unfold yy534 at GE
 go_enter Tryd.func38, Tryd.ntmps38
 go_wp2_with fail
 refine (GE.out).mono ?_
 rintro e w1 ⟨Bm, V, n, S, D, rfl, hE, hBm, hb1⟩
 have HE := xh hE
 have HB1 := xh hb1
 clear hE hBm hb1 GE
 obtain ⟨wq, hwq⟩ : ∃ x, x = w1 := ⟨_, rfl⟩
 subst hwq
 go_wp2
 go_loopw [6, 13] (fun s6 i wr => ∃ (k : Nat) (A3 : Option Addr) (c3 : Nat) (Lo : List OneV), k ≤ l.length ∧ i = .int .i64 k ∧ s6 = .slice A3 Lo.length c3 ∧ Hid (Lo.length = k) ∧ Hid (OwnE wr wq.heap.size A3 c3 Lo) ∧ Hid (Lo.map (·.k) = overK ((l.take k).map (·.k)) m) ∧ Hid (∀ y ∈ Lo, Made1 wr wq.heap.size y) ∧ Hid (Below wq.heap.size wq wr)) (fun _ i _ => l.length - (intOf i).toNat)
 case atStart => exact ⟨0, none, 0, [], Nat.zero_le _, rfl, rfl, xh rfl, xh (OwnE.nil _ _), xh rfl, xh (fun y h => by cases h), xh (Below.refl _ _)⟩
 case round =>
  obtain ⟨k, A3, c3, Lo, hk, rfl, rfl, HLO, HOW, HMAP, HMD, HBE⟩ := hrel
  by_cases hlt : k < l.length
  ·have hltI : (k : Int) < (l.length : Int) := by omega
   have HBW : Hid (Below w.heap.size w wr) := xh (HB1.out.trans (HBE.out.mono HB1.out.size))
   have hAw := HA.out.below HBW.out
   obtain ⟨b1, o1, rfl, _⟩ := hAw.form (by omega)
   obtain ⟨x0, x1, x2, x3, x4, x5, x6, x7⟩ := hAw.at_ hlt
   have HGK := xh (HG.out _ (List.getElem_mem hlt))
   have HCK := xh (hAw.2 _ (List.getElem_mem hlt))
   have HTK : Hid ((l.take (k + 1)).map (·.k) = (l.take k).map (·.k) ++ [l[k].k]) := xh (by rw [List.take_succ_eq_append_getElem hlt, List.map_append]; rfl)
   have HEW := xh (HE.out.below HBE.out)
   clear hAw
   generalize l[k] = y at x0 x1 x2 x3 x4 x5 x6 x7 HGK HCK HTK
   have hfit : Fit64 y.k.id := HGK.out.1.1
   have HFIT := xh hfit
   clear hfit
   obtain ⟨h, HH⟩ : ∃ h, Hid (wr.heap.size = h) := ⟨_, xh rfl⟩
   have hrow := yy32 wr 48 (.int .i64 y.k.id) (.slice y.opsA y.k.ops.length y.opsC) (.bool y.k.edited) (.bool y.k.removed) (.bool y.k.created) (.bool y.k.moved) (.int .i64 y.k.parent) (.string (bstr y.k.name))
   have HBX : Hid (Below wr.heap.size wr (wr.alloc (.cells #[.int .i64 y.k.id, .slice y.opsA y.k.ops.length y.opsC, .bool y.k.edited, .bool y.k.removed, .bool y.k.created, .bool y.k.moved, .int .i64 y.k.parent, .string (bstr y.k.name)] 48))) := xh ((Below.refl _ _).alloc (Nat.le_refl _) _)
   have HEX := xh (HEW.out.alloc (.cells #[.int .i64 y.k.id, .slice y.opsA y.k.ops.length y.opsC, .bool y.k.edited, .bool y.k.removed, .bool y.k.created, .bool y.k.moved, .int .i64 y.k.parent, .string (bstr y.k.name)] 48))
   have hlk := yy354 HEX.out.own HFIT.out (HEX.out.at_ y.k.id)
   have GB := xh (yy303 y.opsA y.opsC y.k.ops HGK.out.2.1 HGK.out.1.2.2.2.2.2 (S y.k.id).1 (S y.k.id).2 (rowsE m y.k.id) (Nat.le_trans (yy394 m y.k.id) hm) (fun x hx => by
    obtain ⟨a, ha, rfl⟩ := yy395 hx
    exact (HGM.out a ha).2.1) (wr.alloc (.cells #[.int .i64 y.k.id, .slice y.opsA y.k.ops.length y.opsC, .bool y.k.edited, .bool y.k.removed, .bool y.k.created, .bool y.k.moved, .int .i64 y.k.parent, .string (bstr y.k.name)] 48)) ⟨HCK.out.below HBX.out, HGK.out.1.2.2.2.2.1⟩ (yy703 (HEX.out.row y.k.id) (fun x hx => by
    obtain ⟨a, ha, rfl⟩ := yy395 hx
    exact ⟨((HBC.out a ha).below HBW.out).below HBX.out, (HGM.out a ha).1.2.2.2.2.2.1⟩)))
   have HOV := xh (yy600 m y.k)
   obtain ⟨rows, HRW⟩ : ∃ x, Hid (rowsE m y.k.id = x) := ⟨_, xh rfl⟩
   rw [HRW.out] at hlk GB HOV
   generalize S y.k.id = sv at hlk GB
   obtain ⟨sA, sC⟩ := sv
   simp only at hlk GB
   rw [HH.out] at hrow
   have HROW := xh (hrow)
   clear hrow
   go_wp2_with fail
   refine (GB.out).mono ?_
   rintro e w3 ⟨⟨A2, c2, r, rfl, hr, hc2, hh2, hcm2, hsrc⟩, hb3⟩
   rw [HH.out]
   have hr3 := HROW.out.of_block (hb3.block _ HROW.out.lt)
   have HSZX : Hid ((wr.alloc (.cells #[.int .i64 y.k.id, .slice y.opsA y.k.ops.length y.opsC, .bool y.k.edited, .bool y.k.removed, .bool y.k.created, .bool y.k.moved, .int .i64 y.k.parent, .string (bstr y.k.name)] 48)).heap.size = h + 1) := xh (by rw [← HH.out]; simp)
   have hb3w : Below wr.heap.size wr w3 := HBX.out.trans (hb3.mono HBX.out.size)
   have q1 := hr3.cell (i := 1) (by omega)
   have f1 := hr3.frozen 1
   have hr4 := hr3.set 1 (.slice A2 r.length c2)
   have hrow4 : World.rowIs _ h 48 8 (eightV (.int .i64 y.k.id) (.slice A2 r.length c2) (.bool y.k.edited) (.bool y.k.removed) (.bool y.k.created) (.bool y.k.moved) (.int .i64 y.k.parent) (.string (bstr y.k.name))) := hr4.congr fun i hi => by rcases (show i = 0 ∨ i = 1 ∨ i = 2 ∨ i = 3 ∨ i = 4 ∨ i = 5 ∨ i = 6 ∨ i = 7 by omega) with rfl | rfl | rfl | rfl | rfl | rfl | rfl | rfl <;> rfl
   have HB4 : Hid (Below wr.heap.size wr (w3.setCell ⟨h, 1, none⟩ (.slice A2 r.length c2))) := xh (hb3w.setCell (by show wr.heap.size ≤ h; rw [HH.out]; exact Nat.le_refl _) _)
   have HC4 : Hid (yy6 (w3.setCell ⟨h, 1, none⟩ (.slice A2 r.length c2)) A2 r) := xh (by
    rcases hsrc with ⟨rfl, rfl⟩ | hown
    ·exact HCK.out.below HB4.out
    ·exact yy4.of_own (ownsRow_setCell_below (a := ⟨h, 1, none⟩) hown (by show h < _; rw [HSZX.out]; omega) _))
   obtain ⟨z0, z1, z2, z3, z4, z5, z6, z7⟩ := yy10 hrow4
   have HZK : Hid ((⟨y.k.id, r, y.k.edited, y.k.removed, y.k.created, y.k.moved, y.k.parent, y.k.name⟩ : OneK) = yy277 m y.k) := xh (by rw [HOV.out, hr])
   have HZG : Hid ((⟨⟨y.k.id, r, y.k.edited, y.k.removed, y.k.created, y.k.moved, y.k.parent, y.k.name⟩, A2, c2⟩ : OneV).Good) := xh ⟨HGK.out.1.1, HGK.out.1.2.1, HGK.out.1.2.2.1, hh2.good, hc2.2, hcm2⟩
   have GO := xh (yy81 ⟨⟨y.k.id, r, y.k.edited, y.k.removed, y.k.created, y.k.moved, y.k.parent, y.k.name⟩, A2, c2⟩ HZG.out ⟨hh2, HGK.out.2.2⟩ (w3.setCell ⟨h, 1, none⟩ (.slice A2 r.length c2)) HC4.out)
   unfold yy8 at GO
   simp only at GO
   clear hr3 hr4 hrow4 hb3 hb3w hsrc hc2 hh2 hcm2 hr hlk x0 x1 x2 x3 x4 x5 x6 x7
   go_wp2_with fail
   refine (GO.out).mono ?_
   rintro e w5 ⟨⟨A5, c5, rfl, h1, h2, hown5⟩, hb5⟩
   have HB5 : Hid (Below wr.heap.size wr w5) := xh (HB4.out.trans (hb5.mono HB4.out.size))
   have HM5 : Hid (Made1 w5 wq.heap.size ⟨⟨y.k.id, r, y.k.edited, y.k.removed, y.k.created, y.k.moved, y.k.parent, y.k.name⟩, A5, c5⟩) := xh ⟨⟨HZG.out.1, HZG.out.2.1, HZG.out.2.2.1, HZG.out.2.2.2.1, h1, h2⟩, yy34 hown5 (Nat.le_trans HBE.out.size HB4.out.size)⟩
   have HLL : Hid (Lo.length ≤ 1048576) := xh (by have := HLO.out; omega)
   clear q1 f1 z0 z1 z2 z3 z4 z5 z6 z7 h1 h2 hown5 hb5 GO GB
   have HBL := xh ((Below.refl w5.heap.size w5).alloc (Nat.le_refl _) (Obj.cells (yy8 ⟨⟨y.k.id, r, y.k.edited, y.k.removed, y.k.created, y.k.moved, y.k.parent, y.k.name⟩, A5, c5⟩).toArray 48))
   have HB6 := xh (HB5.out.trans (HBL.out.mono HB5.out.size))
   have HM6 : Hid (Made1 _ wq.heap.size ⟨⟨y.k.id, r, y.k.edited, y.k.removed, y.k.created, y.k.moved, y.k.parent, y.k.name⟩, A5, c5⟩) := xh ⟨HM5.out.1, own_below HM5.out.2 HBL.out⟩
   have hll := HLL.out
   go_wp2_with (at_builtin
                go_loud (refine yy50 rfl (.tmp 25) (.tmp 28) rfl (B := wq.heap.size) (out := Lo) (m := [⟨⟨y.k.id, r, y.k.edited, y.k.removed, y.k.created, y.k.moved, y.k.parent, y.k.name⟩, A5, c5⟩]) (HOW.out.below HB6.out) (Nat.le_trans HBE.out.size HB6.out.size) 1 (yy207 w5 ⟨⟨y.k.id, r, y.k.edited, y.k.removed, y.k.created, y.k.moved, y.k.parent, y.k.name⟩, A5, c5⟩ _ rfl) (by simp; omega) rfl rfl ?_)
                intro A7 c7 w7 hown hbel hkeep
                have HO7 := xh hown
                have HBE7 := xh ((HBE.out.trans (HB6.out.mono HBE.out.size)).trans hbel)
                have HMD7 : Hid (∀ z ∈ Lo ++ [⟨⟨y.k.id, r, y.k.edited, y.k.removed, y.k.created, y.k.moved, y.k.parent, y.k.name⟩, A5, c5⟩], Made1 w7 wq.heap.size z) := xh (fun z hz => by
                 rcases List.mem_append.1 hz with hz | hz
                 ·exact ⟨(HMD.out z hz).1, hkeep _ _ _ _ _ (own_below (HMD.out z hz).2 HB6.out)⟩
                 ·rw [List.mem_singleton.1 hz]; exact ⟨HM6.out.1, hkeep _ _ _ _ _ HM6.out.2⟩)
                clear hown hbel hkeep)
   have HMAP7 : Hid ((Lo ++ [(⟨⟨y.k.id, r, y.k.edited, y.k.removed, y.k.created, y.k.moved, y.k.parent, y.k.name⟩, A5, c5⟩ : OneV)]).map (fun z : OneV => z.k) = overK ((l.take (k + 1)).map (·.k)) m) := xh (by
    rw [HTK.out]
    unfold overK
    rw [List.map_append, List.map_append, HMAP.out]
    unfold overK
    rw [List.map_singleton, List.map_singleton, HZK.out])
   go_roundw
   case rel => exact ⟨k + 1, A7, c7, _, by omega, by go_num, by rw [List.length_append]; rfl, xh (by rw [List.length_append, HLO.out]; rfl), HO7, HMAP7, HMD7, HBE7⟩
   case measure => simp [intOf]; omega
  ·obtain rfl : k = l.length := by omega
   have hltI : ¬ (l.length : Int) < (l.length : Int) := by omega
   rw [List.take_length] at HMAP
   go_wp2
   go_ret
   exact ⟨Lo, A3, c3, rfl, wq.heap.size, HOW.out, HMAP.out, HMD.out, HB1.out.size, HB1.out.trans (HBE.out.mono HB1.out.size)⟩
def EffRes (w' : World) (v : Value) (ks : List OneK) : Prop := ∃ A' c' L, v = .slice A' (List.length L) c' ∧ OnesAt w' A' L ∧ L.map (·.k) = ks ∧ (∀ y ∈ L, y.Good) ∧ L.length ≤ c'
theorem yy396 {w' : World} {V : Nat} {A' : Option Addr} {c' : Nat} {L : List OneV} {ks : List OneK} (ho : OwnE w' V A' c' L) (hk : L.map (·.k) = ks) (hm : ∀ y ∈ L, Made1 w' V y) : EffRes w' (.slice A' L.length c') ks :=
 ⟨A', c', L, rfl, ⟨ho.at_, fun y hy => yy4.of_own (hm y hy).2⟩, hk, fun y hy => (hm y hy).1, ho.cap⟩
theorem yy397 (A : Option Addr) (c : Nat) (l : List ActV) (hl : l.length ≤ 1048576) (_hc : l.length ≤ c) (hg : ∀ a ∈ l, ActH a) (w : World) (hA : ActsAt w A l) :
  Calls Tryd.prog 16 #[.slice A l.length c] w fun e w' => (∃ v, e = .returned v ∧ EffRes w' v (eff l)) ∧ Below w.heap.size w w' :=
 (yy532 A c l hl hg w hA).mono fun _ _ ⟨_, hr, _, _, _, he, ⟨_, _, ho, hmd⟩, hk, hb⟩ => ⟨⟨_, he, yy396 ho (by rw [hk]; exact yy530 hr) hmd⟩, hb⟩
theorem yy226 (A : Option Addr) (c : Nat) (l : List OneV) (hl : l.length ≤ 1048576) (_hc : l.length ≤ c) (hg : ∀ y ∈ l, y.Good ∧ KeyH y.k) (B : Option Addr) (d : Nat) (m : List ActV) (hm : m.length ≤ 1048576) (_hd : m.length ≤ d) (hgm : ∀ a ∈ m, ActH a) (w : World) (hA : OnesAt w A l) (hB : ActsAt w B m) :
  Calls Tryd.prog 38 #[.slice A l.length c, .slice B m.length d] w fun e w' => (∃ v, e = .returned v ∧ EffRes w' v (overK (l.map (·.k)) m)) ∧ Below w.heap.size w w' :=
 (yy357 A c l hl hg B d m hm hgm w hA hB).mono fun _ _ ⟨_, _, _, _, he, ho, hk, hmd, _, hb⟩ => ⟨⟨_, he, yy396 ho hk hmd⟩, hb⟩
end Go.Proofs.YtjpjdkdbgjipnaaDoor
