/- Just what is a tree is taken, and shown as it is; any names are judged: it answers true and changes nothing: the card. No condition. (Merged of 3 texts.) -/
import Derived.Test.YtkckgchohnkkpaaGreatDoorCards
import Derived.Test.YtkckgchohnkkpaaGreatDoorTie
import Derived.WalkKit
import Derived.ProofKit
import Derived.OpenShut
import Derived.Deep.DeepHandedRow
import Derived.Lib.LaidTab
import Derived.Test.YtkckgchohnkkpaaGreatDoorMTTreeShows
import Derived.Test.YtkckgchohnkkpaaGreatDoorMKit
import Derived.Test.YtkckgchohnkkpaaGreatDoorMTTreeGuard
import Derived.Test.YtkckgchohnkkpaaGreatDoorMTRefSound
import Derived.Test.YtkckgchohnkkpaaGreatDoorMNd
import Derived.Test.YtkckgchohnkkpaaGreatDoorMCells
import Derived.ChangeMaps5
/- A world for the witness of a card: the settled one, both tables of unicode/utf8 holding what the text lays. No condition. -/
namespace Go.Proofs.YtkckgchohnkkpaaGreatDoor
open Go.ChangeShapes Go.WideShapes Go.ChangeAt Go.RowKit

def tabFirst : Array Value := #[.int .u8 240, .int .u8 240, .int .u8 240, .int .u8 240, .int .u8 240, .int .u8 240, .int .u8 240, .int .u8 240, .int .u8 240, .int .u8 240, .int .u8 240, .int .u8 240, .int .u8 240, .int .u8 240, .int .u8 240, .int .u8 240, .int .u8 240, .int .u8 240, .int .u8 240, .int .u8 240, .int .u8 240, .int .u8 240, .int .u8 240, .int .u8 240, .int .u8 240, .int .u8 240, .int .u8 240, .int .u8 240, .int .u8 240, .int .u8 240, .int .u8 240, .int .u8 240, .int .u8 240, .int .u8 240, .int .u8 240, .int .u8 240, .int .u8 240, .int .u8 240, .int .u8 240, .int .u8 240, .int .u8 240, .int .u8 240, .int .u8 240, .int .u8 240, .int .u8 240, .int .u8 240, .int .u8 240, .int .u8 240, .int .u8 240, .int .u8 240, .int .u8 240, .int .u8 240, .int .u8 240, .int .u8 240, .int .u8 240, .int .u8 240, .int .u8 240, .int .u8 240, .int .u8 240, .int .u8 240, .int .u8 240, .int .u8 240, .int .u8 240, .int .u8 240, .int .u8 240, .int .u8 240, .int .u8 240, .int .u8 240, .int .u8 240, .int .u8 240, .int .u8 240, .int .u8 240, .int .u8 240, .int .u8 240, .int .u8 240, .int .u8 240, .int .u8 240, .int .u8 240, .int .u8 240, .int .u8 240, .int .u8 240, .int .u8 240, .int .u8 240, .int .u8 240, .int .u8 240, .int .u8 240, .int .u8 240, .int .u8 240, .int .u8 240, .int .u8 240, .int .u8 240, .int .u8 240, .int .u8 240, .int .u8 240, .int .u8 240, .int .u8 240, .int .u8 240, .int .u8 240, .int .u8 240, .int .u8 240, .int .u8 240, .int .u8 240, .int .u8 240, .int .u8 240, .int .u8 240, .int .u8 240, .int .u8 240, .int .u8 240, .int .u8 240, .int .u8 240, .int .u8 240, .int .u8 240, .int .u8 240, .int .u8 240, .int .u8 240, .int .u8 240, .int .u8 240, .int .u8 240, .int .u8 240, .int .u8 240, .int .u8 240, .int .u8 240, .int .u8 240, .int .u8 240, .int .u8 240, .int .u8 240, .int .u8 240, .int .u8 240, .int .u8 241, .int .u8 241, .int .u8 241, .int .u8 241, .int .u8 241, .int .u8 241, .int .u8 241, .int .u8 241, .int .u8 241, .int .u8 241, .int .u8 241, .int .u8 241, .int .u8 241, .int .u8 241, .int .u8 241, .int .u8 241, .int .u8 241, .int .u8 241, .int .u8 241, .int .u8 241, .int .u8 241, .int .u8 241, .int .u8 241, .int .u8 241, .int .u8 241, .int .u8 241, .int .u8 241, .int .u8 241, .int .u8 241, .int .u8 241, .int .u8 241, .int .u8 241, .int .u8 241, .int .u8 241, .int .u8 241, .int .u8 241, .int .u8 241, .int .u8 241, .int .u8 241, .int .u8 241, .int .u8 241, .int .u8 241, .int .u8 241, .int .u8 241, .int .u8 241, .int .u8 241, .int .u8 241, .int .u8 241, .int .u8 241, .int .u8 241, .int .u8 241, .int .u8 241, .int .u8 241, .int .u8 241, .int .u8 241, .int .u8 241, .int .u8 241, .int .u8 241, .int .u8 241, .int .u8 241, .int .u8 241, .int .u8 241, .int .u8 241, .int .u8 241, .int .u8 241, .int .u8 241, .int .u8 2, .int .u8 2, .int .u8 2, .int .u8 2, .int .u8 2, .int .u8 2, .int .u8 2, .int .u8 2, .int .u8 2, .int .u8 2, .int .u8 2, .int .u8 2, .int .u8 2, .int .u8 2, .int .u8 2, .int .u8 2, .int .u8 2, .int .u8 2, .int .u8 2, .int .u8 2, .int .u8 2, .int .u8 2, .int .u8 2, .int .u8 2, .int .u8 2, .int .u8 2, .int .u8 2, .int .u8 2, .int .u8 2, .int .u8 2, .int .u8 19, .int .u8 3, .int .u8 3, .int .u8 3, .int .u8 3, .int .u8 3, .int .u8 3, .int .u8 3, .int .u8 3, .int .u8 3, .int .u8 3, .int .u8 3, .int .u8 3, .int .u8 35, .int .u8 3, .int .u8 3, .int .u8 52, .int .u8 4, .int .u8 4, .int .u8 4, .int .u8 68, .int .u8 241, .int .u8 241, .int .u8 241, .int .u8 241, .int .u8 241, .int .u8 241, .int .u8 241, .int .u8 241, .int .u8 241, .int .u8 241, .int .u8 241]
def tabRanges : Array Value := #[.int .u8 128, .int .u8 191, .int .u8 160, .int .u8 191, .int .u8 128, .int .u8 159, .int .u8 144, .int .u8 191, .int .u8 128, .int .u8 143, .int .u8 0, .int .u8 0, .int .u8 0, .int .u8 0, .int .u8 0, .int .u8 0, .int .u8 0, .int .u8 0, .int .u8 0, .int .u8 0, .int .u8 0, .int .u8 0, .int .u8 0, .int .u8 0, .int .u8 0, .int .u8 0, .int .u8 0, .int .u8 0, .int .u8 0, .int .u8 0, .int .u8 0, .int .u8 0]
def layTab (cs : Array Value) : Obj → Obj
  | .cells _ t frozen => .cells cs t frozen
  | o => o
noncomputable def laidWorld (os : Os) : World :=
  { World.holding Tryz.prog os ⟨#[], #[], []⟩ with heap := ((World.holding Tryz.prog os ⟨#[], #[], []⟩).heap.modify 1 (layTab tabFirst)).modify 2 (layTab tabRanges) }
end Go.Proofs.YtkckgchohnkkpaaGreatDoor

/- Just what is a tree is taken, and shown as it is; any names are judged: TreeLoads answers true and changes nothing. No condition. -/
namespace Go.Proofs.YtkckgchohnkkpaaGreatDoor
open Go.RowKit Go.Deep

set_option maxHeartbeats 4000000 in
set_option maxRecDepth 100000 in
theorem treeLoads_any (A : Option Addr) (l : List NodeV) (c : Nat) (s : List Nat) (hl : l.length ≤ maxLen) (hg : ∀ y ∈ l, y.Good) (hb : ∀ x ∈ s, x < 256) (hs : s.length ≤ maxLen) (w : World) (hA : NodesC w A c l) :
    Calls Tryz.prog 3 #[.slice A l.length c, .string (bstr s)] w fun e w' => e = .returned (.bool true) ∧ Below w.heap.size w w' := by
  have GA := Lib.hid (fun w => awake_any w)
  have GM := Lib.hid (fun w => name_any s hb hs w)
  have GR := Lib.hid (fun w => refName_any s hb hs w)
  have hsz := bstr_size s
  generalize rName s = nb at GM GR
  have GS := Lib.hid (small_any A none c 0 l [] hl (by simp) hg (fun y hy => (List.not_mem_nil hy).elim) w hA.1 ⟨.inl rfl, fun y hy => (List.not_mem_nil hy).elim⟩)
  rw [List.length_nil] at GS
  have HA := Lib.hid hA.1
  have hlc := hA.2
  clear hA hb hs
  cases hsm : smallB l [] with
  | false =>
    rw [hsm] at GS
    go_enter Tryz.func3, Tryz.ntmps3
    have HB := Lib.hid (Below.refl w.heap.size w)
    go_wp2_with fail
    refine (GS.out).mono ?_
    rintro e x1 ⟨rfl, hb⟩
    replace HA := Lib.hid (HA.out.below hb)
    replace HB := Lib.hid (HB.out.trans (hb.mono HB.out.size))
    clear hb
    go_wp2_with fail
    refine (GA.out _).mono ?_
    rintro e x2 ⟨rfl, hb⟩
    replace HB := Lib.hid (HB.out.trans (hb.mono HB.out.size))
    clear hb
    go_wp2
    go_ret
    exact ⟨rfl, HB.out⟩

  | true =>
    rw [hsm] at GS
    have hwt := (small_yes hsm).1
    have hslim := wt_slim hwt
    have hgd := nodes_guard hwt
    clear hsm hwt
    by_cases h100 : 100 < s.length
    · have h100I : (100 : Int) < (s.length : Int) := by omega
      go_enter Tryz.func3, Tryz.ntmps3
      have HB := Lib.hid (Below.refl w.heap.size w)
      go_wp2_with fail
      refine (GS.out).mono ?_
      rintro e x1 ⟨rfl, hb⟩
      replace HA := Lib.hid (HA.out.below hb)
      replace HB := Lib.hid (HB.out.trans (hb.mono HB.out.size))
      clear hb
      go_wp2_with fail
      refine (GA.out _).mono ?_
      rintro e x2 ⟨rfl, hb⟩
      replace HB := Lib.hid (HB.out.trans (hb.mono HB.out.size))
      clear hb
      go_wp2
      go_ret
      exact ⟨rfl, HB.out⟩

    · have h100I : ¬ (100 : Int) < (s.length : Int) := by omega
      by_cases hS : SoundN l
      · have GL := Lib.hid (fun w hA => load_yes A c l (by omega) hlc hg hslim hS w hA)
        have GO := Lib.hid (fun w hA => refSound_any A c l (by omega) hg (fun y hy => by have := (hgd.2 y hy).2; omega) w hA)
        rw [rSound_yes hS] at GO
        have GW := Lib.hid (fun g w h hA => shows_yes g l (TreeM.of hS) A c w h hA)
        clear hg hS
        cases nb with
        | true =>
          go_enter Tryz.func3, Tryz.ntmps3
          have HB := Lib.hid (Below.refl w.heap.size w)
          go_wp2_with fail
          refine (GS.out).mono ?_
          rintro e x1 ⟨rfl, hb⟩
          replace HA := Lib.hid (HA.out.below hb)
          replace HB := Lib.hid (HB.out.trans (hb.mono HB.out.size))
          clear hb
          go_wp2_with fail
          refine (GL.out _ HA.out).mono ?_
          rintro e x2 ⟨g, rfl, _, ht, hb⟩
          have HT := Lib.hid ht
          replace HA := Lib.hid (HA.out.below hb)
          replace HB := Lib.hid (HB.out.trans (hb.mono HB.out.size))
          clear hb ht
          go_wp2_with fail
          refine (GO.out _ HA.out).mono ?_
          rintro e x3 ⟨rfl, hb⟩
          replace HA := Lib.hid (HA.out.below hb)
          replace HT := Lib.hid (HT.out.below hb)
          replace HB := Lib.hid (HB.out.trans (hb.mono HB.out.size))
          clear hb
          go_wp2_with fail
          refine (GM.out _).mono ?_
          rintro e x4 ⟨rfl, hb⟩
          replace HA := Lib.hid (HA.out.below hb)
          replace HT := Lib.hid (HT.out.below hb)
          replace HB := Lib.hid (HB.out.trans (hb.mono HB.out.size))
          clear hb
          go_wp2_with fail
          refine (GR.out _).mono ?_
          rintro e x5 ⟨rfl, rfl⟩
          go_wp2_with fail
          refine (GW.out g _ HT.out HA.out).mono ?_
          rintro e x6 ⟨rfl, hb⟩
          replace HB := Lib.hid (HB.out.trans (hb.mono HB.out.size))
          clear hb
          go_wp2_with fail
          refine (GA.out _).mono ?_
          rintro e x7 ⟨rfl, hb⟩
          replace HB := Lib.hid (HB.out.trans (hb.mono HB.out.size))
          clear hb
          go_wp2
          go_ret
          exact ⟨rfl, HB.out⟩

        | false =>
          go_enter Tryz.func3, Tryz.ntmps3
          have HB := Lib.hid (Below.refl w.heap.size w)
          go_wp2_with fail
          refine (GS.out).mono ?_
          rintro e x1 ⟨rfl, hb⟩
          replace HA := Lib.hid (HA.out.below hb)
          replace HB := Lib.hid (HB.out.trans (hb.mono HB.out.size))
          clear hb
          go_wp2_with fail
          refine (GL.out _ HA.out).mono ?_
          rintro e x2 ⟨g, rfl, _, ht, hb⟩
          have HT := Lib.hid ht
          replace HA := Lib.hid (HA.out.below hb)
          replace HB := Lib.hid (HB.out.trans (hb.mono HB.out.size))
          clear hb ht
          go_wp2_with fail
          refine (GO.out _ HA.out).mono ?_
          rintro e x3 ⟨rfl, hb⟩
          replace HA := Lib.hid (HA.out.below hb)
          replace HT := Lib.hid (HT.out.below hb)
          replace HB := Lib.hid (HB.out.trans (hb.mono HB.out.size))
          clear hb
          go_wp2_with fail
          refine (GM.out _).mono ?_
          rintro e x4 ⟨rfl, hb⟩
          replace HA := Lib.hid (HA.out.below hb)
          replace HT := Lib.hid (HT.out.below hb)
          replace HB := Lib.hid (HB.out.trans (hb.mono HB.out.size))
          clear hb
          go_wp2_with fail
          refine (GR.out _).mono ?_
          rintro e x5 ⟨rfl, rfl⟩
          go_wp2_with fail
          refine (GW.out g _ HT.out HA.out).mono ?_
          rintro e x6 ⟨rfl, hb⟩
          replace HB := Lib.hid (HB.out.trans (hb.mono HB.out.size))
          clear hb
          go_wp2_with fail
          refine (GA.out _).mono ?_
          rintro e x7 ⟨rfl, hb⟩
          replace HB := Lib.hid (HB.out.trans (hb.mono HB.out.size))
          clear hb
          go_wp2
          go_ret
          exact ⟨rfl, HB.out⟩

      · have GL := Lib.hid (fun w hA => load_no A c l (by omega) hlc hg hslim hS w hA)
        have GO := Lib.hid (fun w hA => refSound_any A c l (by omega) hg (fun y hy => by have := (hgd.2 y hy).2; omega) w hA)
        rw [rSound_no hS] at GO
        clear hg hS
        cases nb with
        | true =>
          go_enter Tryz.func3, Tryz.ntmps3
          have HB := Lib.hid (Below.refl w.heap.size w)
          go_wp2_with fail
          refine (GS.out).mono ?_
          rintro e x1 ⟨rfl, hb⟩
          replace HA := Lib.hid (HA.out.below hb)
          replace HB := Lib.hid (HB.out.trans (hb.mono HB.out.size))
          clear hb
          go_wp2_with fail
          refine (GL.out _ HA.out).mono ?_
          rintro e x2 ⟨rfl, hb⟩
          replace HA := Lib.hid (HA.out.below hb)
          replace HB := Lib.hid (HB.out.trans (hb.mono HB.out.size))
          clear hb
          go_wp2_with fail
          refine (GO.out _ HA.out).mono ?_
          rintro e x3 ⟨rfl, hb⟩
          replace HA := Lib.hid (HA.out.below hb)
          replace HB := Lib.hid (HB.out.trans (hb.mono HB.out.size))
          clear hb
          go_wp2_with fail
          refine (GM.out _).mono ?_
          rintro e x4 ⟨rfl, hb⟩
          replace HB := Lib.hid (HB.out.trans (hb.mono HB.out.size))
          clear hb
          go_wp2_with fail
          refine (GR.out _).mono ?_
          rintro e x5 ⟨rfl, rfl⟩
          go_wp2_with fail
          refine (GA.out _).mono ?_
          rintro e x7 ⟨rfl, hb⟩
          replace HB := Lib.hid (HB.out.trans (hb.mono HB.out.size))
          clear hb
          go_wp2
          go_ret
          exact ⟨rfl, HB.out⟩

        | false =>
          go_enter Tryz.func3, Tryz.ntmps3
          have HB := Lib.hid (Below.refl w.heap.size w)
          go_wp2_with fail
          refine (GS.out).mono ?_
          rintro e x1 ⟨rfl, hb⟩
          replace HA := Lib.hid (HA.out.below hb)
          replace HB := Lib.hid (HB.out.trans (hb.mono HB.out.size))
          clear hb
          go_wp2_with fail
          refine (GL.out _ HA.out).mono ?_
          rintro e x2 ⟨rfl, hb⟩
          replace HA := Lib.hid (HA.out.below hb)
          replace HB := Lib.hid (HB.out.trans (hb.mono HB.out.size))
          clear hb
          go_wp2_with fail
          refine (GO.out _ HA.out).mono ?_
          rintro e x3 ⟨rfl, hb⟩
          replace HA := Lib.hid (HA.out.below hb)
          replace HB := Lib.hid (HB.out.trans (hb.mono HB.out.size))
          clear hb
          go_wp2_with fail
          refine (GM.out _).mono ?_
          rintro e x4 ⟨rfl, hb⟩
          replace HB := Lib.hid (HB.out.trans (hb.mono HB.out.size))
          clear hb
          go_wp2_with fail
          refine (GR.out _).mono ?_
          rintro e x5 ⟨rfl, rfl⟩
          go_wp2_with fail
          refine (GA.out _).mono ?_
          rintro e x7 ⟨rfl, hb⟩
          replace HB := Lib.hid (HB.out.trans (hb.mono HB.out.size))
          clear hb
          go_wp2
          go_ret
          exact ⟨rfl, HB.out⟩

end Go.Proofs.YtkckgchohnkkpaaGreatDoor

/- Just what is a tree is taken, and shown as it is; any names are judged: it answers true and changes nothing: the card. No condition. -/
namespace Go.Proofs.YtkckgchohnkkpaaGreatDoor
open Go.ChangeShapes Go.WideShapes Go.ChangeAt Go.RowKit

set_option maxRecDepth 100000 in
theorem treeLoads_contract (H : Type) (enc : TypeId × Value → H) (W : World) (base : Nat) (args : Array Value) (ds gs : List (DataW H)) (before : List MemPlace)
    (hval0 : ∀ (j : Nat) t v, Tryz.f3.params[j]? = some t → args[j]? = some v → Value.okWide Tryz.prog W .any base t v)
    (hW : DataW.Whole enc Tryz.prog Tryz.f3.params.toList Rows.treeLoadsSpec.vars false W args.toList ds gs before) :
    Calls Tryz.prog 3 args W fun e W' => ∃ v, e = .returned v ∧ Rows.treeLoadsSpec.post enc Tryz.prog Tryz.f3 false true false false W args v W' := by
  have hval : ∀ (j : Nat) t v, Tryz.f3.params[j]? = some t → args[j]? = some v → Value.okWide Tryz.prog W .any base t v := hval0
  have hW' := hW
  obtain ⟨p, q, hA0, hV, rfl, _, _⟩ := hW
  have hlt : ∀ x ∈ p ++ q, x.block < W.heap.size := fun x hx => hW'.lt x hx
  have hA : DataW.TrodAll enc Tryz.prog W 0 (fun _ => true) true Tryz.f3.params.toList args.toList ds p := hA0
  rw [Tryz.params3] at hA hval
  obtain ⟨v0, v1, d0, d1, p0, p1, rfl, rfl, rfl, h0, h1⟩ := trodAll_two hA
  obtain ⟨rfl, rfl⟩ := trodVars_none hV
  obtain ⟨A0, l0, c0, rfl, hat0, hg0, hlc0, hc0⟩ := open_nodes (hval 0 22 v0 rfl rfl) h0 (fun x hx => hlt x (by simp [hx]))
  have hl0 : l0.length ≤ maxLen := by omega
  obtain ⟨s1, rfl, rfl, rfl, hsz1⟩ := Go.ChangeMaps.open_string Tryz.underlying9 (hval 1 9 v1 rfl rfl) h1
  obtain ⟨t1, hb1, rfl⟩ := bstr_any s1
  have hl1 : t1.length ≤ maxLen := by rw [bstr_size] at hsz1; exact hsz1
  clear hA0 hval0
  refine (treeLoads_any A0 l0 c0 t1 hl0 hg0 hb1 hl1 W ⟨hat0, hlc0⟩).mono fun e W' ⟨he, hb⟩ => ?_
  exact ⟨_, he, law_post law_laid (by kernel_rfl) (by kernel_rfl) Tryz.underlying4 rfl hW' rfl hb⟩

theorem treeLoads_laid_met (os : Os) : laidMet Tryz.prog Rows.treeLoadsRow.laid ((laidWorld os).forCall (fun _ _ => 0) ⟨#[], #[.slice none 0 0, .string { data := #[] }], []⟩).memory :=
  laidMet_of_run' 8 (by kernel_rfl) (by kernel_rfl)
theorem treeLoads_reads (os : Os) {H : Type} (enc : TypeId × Value → H) : ∃ places, DataW.whole enc Tryz.prog ((laidWorld os).forCall (fun _ _ => 0) ⟨#[], #[.slice none 0 0, .string { data := #[] }], []⟩).memory Tryz.f3.params.toList Rows.treeLoadsSpec.vars false (#[.slice none 0 0, .string { data := #[] }] : Array Value).toList 8 = some ([.nil, .lit (.string [])], [], places) :=
  ⟨[], by kernel_rfl⟩
set_option maxRecDepth 100000 in
theorem treeLoads_lifted (os : Os) (started : os.Started) (H : Type) (enc : TypeId × Value → H) (F : Stop.Interp) :
    ReturnsInHanded {} Tryz.checked os 3 .any ((OpenSpec.ofChange Rows.treeLoadsSpec).preRow enc Tryz.prog Tryz.f3 Rows.treeLoadsRow.domain false Rows.treeLoadsRow.laid) (((OpenSpec.ofChange Rows.treeLoadsSpec).at F).post enc Tryz.prog Tryz.f3 false true false false) := by
  obtain ⟨places, hx⟩ := treeLoads_reads os enc
  refine returnsInHanded_of_row (C := Tryz.checked) (s := OpenSpec.ofChange Rows.treeLoadsSpec) law_own started (by kernel_rfl) Tryz.func3
    (witness_row_at (enc := enc) (C := Tryz.checked) false (laidWorld os) #[.slice none 0 0, .string { data := #[] }] rfl (by kernel_rfl) (by kernel_rfl) (by kernel_rfl)
      (OpenSpec.preRow_of_cond 8 hx (by kernel_rfl) (fun k hk => by cases hk) (by kernel_rfl) (treeLoads_laid_met os))) ?_
  intro W base args ds gs before hval hW _ _ _ _ _ _
  exact treeLoads_contract H enc W base args ds gs before hval hW
theorem treeLoads_said : Rows.TreeLoadsSaid :=
  OpenClaim.holds_of_cond 3 Tryz.f3 rfl rfl rfl rfl rfl rfl rfl ⟨rfl, rfl, rfl, rfl, rfl⟩ rfl rfl rfl rfl rfl (by kernel_rfl) Tryz.func3 (by kernel_rfl)
    (of_decide_eq_true (by kernel_rfl)) (by unfold Func.isWrapper; first | (rw [if_pos (by decide +kernel)]; kernel_rfl) | (rw [if_neg (by decide +kernel)]; exact ⟨rfl, rfl⟩))
    (fun os started H enc _ F => by rw [OpenClaim.pre_eq_preRow]; exact treeLoads_lifted os started H enc F)
theorem treeLoads_plain (f : FuncId) (fn : Func) (hf : Tryz.pinned.checked.prog.funcNamed "ropewalk/ropewalklaw13.TreeLoads" = some f) (hfn : Tryz.pinned.checked.prog.funcs[f]? = some fn) :
    false = Tryz.pinned.checked.prog.looks [] ∧ ∀ (j : Nat) t, fn.params[j]? = some t → Tryz.pinned.checked.prog.wantsStandIn t = false := by
  obtain rfl : f = 3 := Option.some.inj ((show Tryz.prog.funcNamed "ropewalk/ropewalklaw13.TreeLoads" = some 3 by kernel_rfl).symm.trans hf) |>.symm
  obtain rfl : fn = Tryz.f3 := (Option.some.inj (Tryz.func3.symm.trans hfn)).symm
  refine ⟨by kernel_rfl, fun j t ht => ?_⟩
  rw [Tryz.params3] at ht
  have hts : t = 22 ∨ t = 9 := by simpa using Array.mem_of_getElem? ht
  rcases hts with rfl | rfl
  · exact (show Tryz.prog.wantsStandIn 22 = false by kernel_rfl)
  · exact (show Tryz.prog.wantsStandIn 9 = false by kernel_rfl)
theorem treeLoads_card : Rows.TreeLoadsCardSaid :=
  Claim7.holds_tied_plain_at .later [] _ _ _ _ treeLoads_said (fun _ h => by cases h) (by kernel_rfl) (fun _ h => by cases h) treeLoads_row_tie rfl ⟨rfl, rfl⟩ (by kernel_rfl) rfl treeLoads_plain (by kernel_rfl)
end Go.Proofs.YtkckgchohnkkpaaGreatDoor
