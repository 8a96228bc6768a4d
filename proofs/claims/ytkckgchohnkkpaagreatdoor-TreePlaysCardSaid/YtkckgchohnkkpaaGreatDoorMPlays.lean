/- Whatever is created, taken away, moved and edited, each call answers, and the tree is shown, as the document says: it answers true and changes nothing: the card. No condition. (Merged of 3 texts.) -/
import Derived.Test.YtkckgchohnkkpaaGreatDoorCards
import Derived.Test.YtkckgchohnkkpaaGreatDoorTie
import Derived.WalkKit
import Derived.ProofKit
import Derived.OpenShut
import Derived.Deep.DeepHandedRow
import Derived.Lib.LaidTab
import Derived.Test.YtkckgchohnkkpaaGreatDoorMTTreeShows
import Derived.Test.YtkckgchohnkkpaaGreatDoorMKit
import Derived.Test.YtkckgchohnkkpaaGreatDoorMTTreeGuard
import Derived.Test.YtkckgchohnkkpaaGreatDoorMTRefSound
import Derived.Test.YtkckgchohnkkpaaGreatDoorMCells
import Derived.ChangeMaps5
/- A world for the witness of a card: the settled one, both tables of unicode/utf8 holding what the text lays. No condition. -/
namespace Go.Proofs.YtkckgchohnkkpaaGreatDoor
open Go.ChangeShapes Go.WideShapes Go.ChangeAt Go.RowKit

def tabFirst : Array Value := #[.int .u8 240, .int .u8 240, .int .u8 240, .int .u8 240, .int .u8 240, .int .u8 240, .int .u8 240, .int .u8 240, .int .u8 240, .int .u8 240, .int .u8 240, .int .u8 240, .int .u8 240, .int .u8 240, .int .u8 240, .int .u8 240, .int .u8 240, .int .u8 240, .int .u8 240, .int .u8 240, .int .u8 240, .int .u8 240, .int .u8 240, .int .u8 240, .int .u8 240, .int .u8 240, .int .u8 240, .int .u8 240, .int .u8 240, .int .u8 240, .int .u8 240, .int .u8 240, .int .u8 240, .int .u8 240, .int .u8 240, .int .u8 240, .int .u8 240, .int .u8 240, .int .u8 240, .int .u8 240, .int .u8 240, .int .u8 240, .int .u8 240, .int .u8 240, .int .u8 240, .int .u8 240, .int .u8 240, .int .u8 240, .int .u8 240, .int .u8 240, .int .u8 240, .int .u8 240, .int .u8 240, .int .u8 240, .int .u8 240, .int .u8 240, .int .u8 240, .int .u8 240, .int .u8 240, .int .u8 240, .int .u8 240, .int .u8 240, .int .u8 240, .int .u8 240, .int .u8 240, .int .u8 240, .int .u8 240, .int .u8 240, .int .u8 240, .int .u8 240, .int .u8 240, .int .u8 240, .int .u8 240, .int .u8 240, .int .u8 240, .int .u8 240, .int .u8 240, .int .u8 240, .int .u8 240, .int .u8 240, .int .u8 240, .int .u8 240, .int .u8 240, .int .u8 240, .int .u8 240, .int .u8 240, .int .u8 240, .int .u8 240, .int .u8 240, .int .u8 240, .int .u8 240, .int .u8 240, .int .u8 240, .int .u8 240, .int .u8 240, .int .u8 240, .int .u8 240, .int .u8 240, .int .u8 240, .int .u8 240, .int .u8 240, .int .u8 240, .int .u8 240, .int .u8 240, .int .u8 240, .int .u8 240, .int .u8 240, .int .u8 240, .int .u8 240, .int .u8 240, .int .u8 240, .int .u8 240, .int .u8 240, .int .u8 240, .int .u8 240, .int .u8 240, .int .u8 240, .int .u8 240, .int .u8 240, .int .u8 240, .int .u8 240, .int .u8 240, .int .u8 240, .int .u8 240, .int .u8 240, .int .u8 240, .int .u8 240, .int .u8 240, .int .u8 241, .int .u8 241, .int .u8 241, .int .u8 241, .int .u8 241, .int .u8 241, .int .u8 241, .int .u8 241, .int .u8 241, .int .u8 241, .int .u8 241, .int .u8 241, .int .u8 241, .int .u8 241, .int .u8 241, .int .u8 241, .int .u8 241, .int .u8 241, .int .u8 241, .int .u8 241, .int .u8 241, .int .u8 241, .int .u8 241, .int .u8 241, .int .u8 241, .int .u8 241, .int .u8 241, .int .u8 241, .int .u8 241, .int .u8 241, .int .u8 241, .int .u8 241, .int .u8 241, .int .u8 241, .int .u8 241, .int .u8 241, .int .u8 241, .int .u8 241, .int .u8 241, .int .u8 241, .int .u8 241, .int .u8 241, .int .u8 241, .int .u8 241, .int .u8 241, .int .u8 241, .int .u8 241, .int .u8 241, .int .u8 241, .int .u8 241, .int .u8 241, .int .u8 241, .int .u8 241, .int .u8 241, .int .u8 241, .int .u8 241, .int .u8 241, .int .u8 241, .int .u8 241, .int .u8 241, .int .u8 241, .int .u8 241, .int .u8 241, .int .u8 241, .int .u8 241, .int .u8 241, .int .u8 2, .int .u8 2, .int .u8 2, .int .u8 2, .int .u8 2, .int .u8 2, .int .u8 2, .int .u8 2, .int .u8 2, .int .u8 2, .int .u8 2, .int .u8 2, .int .u8 2, .int .u8 2, .int .u8 2, .int .u8 2, .int .u8 2, .int .u8 2, .int .u8 2, .int .u8 2, .int .u8 2, .int .u8 2, .int .u8 2, .int .u8 2, .int .u8 2, .int .u8 2, .int .u8 2, .int .u8 2, .int .u8 2, .int .u8 2, .int .u8 19, .int .u8 3, .int .u8 3, .int .u8 3, .int .u8 3, .int .u8 3, .int .u8 3, .int .u8 3, .int .u8 3, .int .u8 3, .int .u8 3, .int .u8 3, .int .u8 3, .int .u8 35, .int .u8 3, .int .u8 3, .int .u8 52, .int .u8 4, .int .u8 4, .int .u8 4, .int .u8 68, .int .u8 241, .int .u8 241, .int .u8 241, .int .u8 241, .int .u8 241, .int .u8 241, .int .u8 241, .int .u8 241, .int .u8 241, .int .u8 241, .int .u8 241]
def tabRanges : Array Value := #[.int .u8 128, .int .u8 191, .int .u8 160, .int .u8 191, .int .u8 128, .int .u8 159, .int .u8 144, .int .u8 191, .int .u8 128, .int .u8 143, .int .u8 0, .int .u8 0, .int .u8 0, .int .u8 0, .int .u8 0, .int .u8 0, .int .u8 0, .int .u8 0, .int .u8 0, .int .u8 0, .int .u8 0, .int .u8 0, .int .u8 0, .int .u8 0, .int .u8 0, .int .u8 0, .int .u8 0, .int .u8 0, .int .u8 0, .int .u8 0, .int .u8 0, .int .u8 0]
def layTab (cs : Array Value) : Obj → Obj
  | .cells _ t frozen => .cells cs t frozen
  | o => o
noncomputable def laidWorld (os : Os) : World :=
  { World.holding Tryz.prog os ⟨#[], #[], []⟩ with heap := ((World.holding Tryz.prog os ⟨#[], #[], []⟩).heap.modify 1 (layTab tabFirst)).modify 2 (layTab tabRanges) }
end Go.Proofs.YtkckgchohnkkpaaGreatDoor

/- Whatever is created, taken away, moved and edited, each call answers, and the tree is shown, as the document says: TreePlays answers true and changes nothing. No condition. -/
namespace Go.Proofs.YtkckgchohnkkpaaGreatDoor
open Go.RowKit Go.Deep

theorem ActsAt.only {w w' : World} {g : Nat} {t : List NodeV} (h : TreeAt w g t) (ho : Only g w w') {A : Option Addr} {l : List ActV} (hc : ActsAt w A l) : ActsAt w' A l := by
  refine ⟨CellsAt.only h ho hc.1 fun v hv B n c e => ?_, fun y hy => CellsAt.only h ho (hc.2 y hy) fun v hv B n c e => ?_⟩
  · cases l with
    | nil => cases hv
    | cons y l =>
      rw [List.flatMap_cons] at hv
      injection hv with hv
      rw [e] at hv
      cases hv
  · cases ho2 : y.ops with
    | nil => rw [ho2] at hv; cases hv
    | cons z r =>
      rw [ho2, List.flatMap_cons] at hv
      injection hv with hv
      rw [e] at hv
      cases hv
/-- The tree in block g, its nodes made by the document's own, and the acts. -/
structure PlayS (W : World) (g : Nat) (T : List NodeV) (AX : Option Addr) (cX : Nat) (B : Option Addr) (m : List ActV) (wr : World) : Prop where
  tree : TreeAt wr g T
  nodes : NodesC wr AX cX T
  acts : ActsAt wr B m
  bel : Below W.heap.size W wr
  new : W.heap.size ≤ g
theorem PlayS.below {W : World} {g : Nat} {T : List NodeV} {AX B : Option Addr} {cX : Nat} {m : List ActV} {wr w2 : World} (h : PlayS W g T AX cX B m wr) (hb : Below wr.heap.size wr w2) : PlayS W g T AX cX B m w2 :=
  ⟨h.tree.below hb, h.nodes.below hb, h.acts.below hb, h.bel.trans (hb.mono h.bel.size), h.new⟩
theorem PlayS.does {W : World} {g : Nat} {T X : List NodeV} {AX A1 B : Option Addr} {cX c1 : Nat} {m : List ActV} {wr w2 : World} (h : PlayS W g T AX cX B m wr) (ht : TreeAt w2 g X) (ho : Only g wr w2) (hn : NodesC wr A1 c1 X) : PlayS W g X A1 c1 B m w2 :=
  ⟨ht, NodesC.only h.tree ho hn, ActsAt.only h.tree ho h.acts, ho.below h.bel h.new, h.new⟩
set_option maxHeartbeats 4000000 in
set_option maxRecDepth 100000 in
theorem treePlays_any (A : Option Addr) (l : List NodeV) (c : Nat) (B : Option Addr) (m : List ActV) (d : Nat) (hl : l.length ≤ maxLen) (hg : ∀ y ∈ l, y.Good) (hm : m.length ≤ maxLen) (gg : ∀ y ∈ m, y.Good) (w : World) (hA : NodesC w A c l) (hB : ActsAt w B m ∧ m.length ≤ d) :
    Calls Tryz.prog 4 #[.slice A l.length c, .slice B m.length d] w fun e w' => e = .returned (.bool true) ∧ Below w.heap.size w w' := by
  have GA := Lib.hid (fun w => awake_any w)
  have GS := Lib.hid (small_any A B c d l m hl hm hg gg w hA.1 hB.1)
  have HA := Lib.hid hA
  have HC := Lib.hid hB.1
  have hlc := hA.2
  clear hA hB hm
  cases hsm : smallB l m with
  | false =>
    rw [hsm] at GS
    clear hg gg
    go_enter Tryz.func4, Tryz.ntmps4
    have HB := Lib.hid (Below.refl w.heap.size w)
    go_wp2_with fail
    refine (GS.out).mono ?_
    rintro e x1 ⟨rfl, hb⟩
    replace HA := Lib.hid (HA.out.below hb)
    replace HC := Lib.hid (HC.out.below hb)
    replace HB := Lib.hid (HB.out.trans (hb.mono HB.out.size))
    clear hb
    go_wp2_with fail
    refine (GA.out _).mono ?_
    rintro e x2 ⟨rfl, hb⟩
    replace HB := Lib.hid (HB.out.trans (hb.mono HB.out.size))
    clear hb
    go_wp2
    go_ret
    exact ⟨rfl, HB.out⟩

  | true =>
    rw [hsm] at GS
    obtain ⟨hwt, hwa, hm60⟩ := small_yes hsm
    have hslim := wt_slim hwt
    have hgd := nodes_guard hwt
    have GAC := Lib.hid (acts_guard gg hwa)
    clear hsm hwt hwa gg
    by_cases hS : SoundN l
    · have GL := Lib.hid (fun w hA => load_yes A c l (by omega) hlc hg hslim hS w hA)
      have HM := Lib.hid (TreeM.of hS)
      clear hg hS
      go_enter Tryz.func4, Tryz.ntmps4
      have HB := Lib.hid (Below.refl w.heap.size w)
      go_wp2_with fail
      refine (GS.out).mono ?_
      rintro e x1 ⟨rfl, hb⟩
      replace HA := Lib.hid (HA.out.below hb)
      replace HC := Lib.hid (HC.out.below hb)
      replace HB := Lib.hid (HB.out.trans (hb.mono HB.out.size))
      clear hb
      go_wp2_with fail
      refine (GL.out _ HA.out.1).mono ?_
      rintro e x2 ⟨g, rfl, hgw, ht, hb⟩
      have HS : Hid (PlayS w g l A c B m x2) := ⟨ht, HA.out.below hb, HC.out.below hb, HB.out.trans (hb.mono HB.out.size), Nat.le_trans HB.out.size hgw⟩
      clear hb ht hgw HA HC HB GL GS
      go_wp2
      go_loopw [7, 8, 9, 10] (fun s7 s8 s9 s10 wr => ∃ (k : Nat) (T : List NodeV) (AX : Option Addr) (cX : Nat), k ≤ m.length ∧ s7 = .slice AX T.length cX ∧ s8 = .int .i64 (k : Int) ∧ s9 = s9 ∧ s10 = s10 ∧ Hid (TreeM T) ∧ Hid (PlayS w g T AX cX B m wr)) (fun _ s8 _ _ _ => m.length - (intOf s8).toNat)
      case atStart => exact ⟨0, l, A, c, Nat.zero_le _, rfl, rfl, rfl, rfl, HM, HS⟩
      case round =>
        clear HS HM
        obtain ⟨k, T, AX, cX, hk, rfl, rfl, _, _, HM, HS⟩ := hrel
        by_cases hlt : k < m.length
        · skip
          obtain ⟨b, off, rfl, _⟩ := HS.out.acts.form (by omega)
          have hltI : (k : Int) < (m.length : Int) := by omega
          have hact := GAC.out _ (List.getElem_mem hlt)
          have HY : Hid (∀ X AX cX T g' (wr : World), PlayS w g' T AX cX (some ⟨b, off, none⟩) m X → X.cell? ⟨b, off + k * 6, none⟩ = some (.int .i64 m[k].kind) ∧ X.cell? ⟨b, off + k * 6 + 1, none⟩ = some (.int .i64 m[k].id) ∧ X.cell? ⟨b, off + k * 6 + 2, none⟩ = some (.int .i64 m[k].parent) ∧ X.cell? ⟨b, off + k * 6 + 3, none⟩ = some (.string (bstr m[k].name)) ∧ X.cell? ⟨b, off + k * 6 + 4, none⟩ = some (.bool m[k].dir) ∧ X.cell? ⟨b, off + k * 6 + 5, none⟩ = some (.slice m[k].opsA m[k].ops.length m[k].opsC)) := fun X AX cX T g' _ h => h.acts.at_ hlt
          have HOP : Hid (∀ X AX cX T g', PlayS w g' T AX cX (some ⟨b, off, none⟩) m X → CompsAt X m[k].opsA m[k].ops) := fun X AX cX T g' h => h.acts.2 _ (List.getElem_mem hlt)
          generalize m[k] = a at hact HY HOP
          obtain ⟨X, u, hXu⟩ : ∃ X u, rDo T a = (X, u) := ⟨_, _, rfl⟩
          have hX : TreeM X := by
            have := HM.out.does a
            rw [hXu] at this
            exact this
          have GD := Lib.hid (fun w hop hC => kNDo HM.out hact AX cX w hop hC)
          rw [hXu] at GD
          unfold actCells at GD
          have GT := Lib.hid (fun w h hop => tDo (g := g) hXu HM.out hact w h hop)
          have GW := Lib.hid (fun A c w h hA => shows_yes g X hX A c w h hA)
          have hXl := hX.len
          have GO := Lib.hid (fun A c w hA => refSound_any A c X (by omega) hX.good (fun y hy => by have := (hX.nd y hy).2.2.2.2.1; omega) w hA)
          rw [rSound_yes hX.sound] at GO
          have HX := Lib.hid hX
          clear hX hXu hact
          have e3 : (u != u) = false := by simp
          obtain ⟨z0, z1, z2, z3, z4, z5⟩ := HY.out _ _ _ _ _ wr HS.out
          go_wp2_with fail
          refine (GD.out _ (HOP.out _ _ _ _ _ HS.out) HS.out.nodes).mono ?_
          rintro e x1 ⟨⟨⟨A1, c1, rfl, hn⟩, _⟩, hb⟩
          replace HS := Lib.hid (HS.out.below hb)
          have HN := Lib.hid hn
          clear hb hn
          obtain ⟨z0, z1, z2, z3, z4, z5⟩ := HY.out _ _ _ _ _ wr HS.out
          go_wp2_with fail
          refine (GT.out _ HS.out.tree (HOP.out _ _ _ _ _ HS.out)).mono ?_
          rintro e x2 ⟨rfl, ht, ho⟩
          replace HS := Lib.hid (HS.out.does ht ho HN.out)
          clear ht ho HN
          go_wp2_with fail
          refine (GW.out _ _ _ HS.out.tree HS.out.nodes.1).mono ?_
          rintro e x3 ⟨rfl, hb⟩
          replace HS := Lib.hid (HS.out.below hb)
          clear hb
          go_wp2_with fail
          refine (GO.out _ _ _ HS.out.nodes.1).mono ?_
          rintro e x4 ⟨rfl, hb⟩
          replace HS := Lib.hid (HS.out.below hb)
          clear hb
          go_wp2_with fail
          go_roundw
          case rel => exact ⟨k + 1, X, A1, c1, by omega, rfl, by go_num, trivial, trivial, HX, HS⟩
          case measure => simp [intOf]; omega

        · obtain rfl : k = m.length := by omega
          obtain ⟨w5, hw5⟩ : ∃ x, x = wr := ⟨wr, rfl⟩
          subst hw5
          have HB := Lib.hid HS.out.bel
          go_wp2_with fail
          refine (GA.out _).mono ?_
          rintro e x9 ⟨rfl, hb⟩
          replace HB := Lib.hid (HB.out.trans (hb.mono HB.out.size))
          clear hb
          go_wp2
          go_ret
          exact ⟨rfl, HB.out⟩


    · have GL := Lib.hid (fun w hA => load_no A c l (by omega) hlc hg hslim hS w hA)
      have GO := Lib.hid (fun w hA => refSound_any A c l (by omega) hg (fun y hy => by have := (hgd.2 y hy).2; omega) w hA)
      rw [rSound_no hS] at GO
      clear hg hS
      go_enter Tryz.func4, Tryz.ntmps4
      have HB := Lib.hid (Below.refl w.heap.size w)
      go_wp2_with fail
      refine (GS.out).mono ?_
      rintro e x1 ⟨rfl, hb⟩
      replace HA := Lib.hid (HA.out.below hb)
      replace HC := Lib.hid (HC.out.below hb)
      replace HB := Lib.hid (HB.out.trans (hb.mono HB.out.size))
      clear hb
      go_wp2_with fail
      refine (GL.out _ HA.out.1).mono ?_
      rintro e x2 ⟨rfl, hb⟩
      replace HA := Lib.hid (HA.out.below hb)
      replace HB := Lib.hid (HB.out.trans (hb.mono HB.out.size))
      clear hb
      go_wp2_with fail
      refine (GO.out _ HA.out.1).mono ?_
      rintro e x3 ⟨rfl, hb⟩
      replace HB := Lib.hid (HB.out.trans (hb.mono HB.out.size))
      clear hb
      go_wp2_with fail
      refine (GA.out _).mono ?_
      rintro e x4 ⟨rfl, hb⟩
      replace HB := Lib.hid (HB.out.trans (hb.mono HB.out.size))
      clear hb
      go_wp2
      go_ret
      exact ⟨rfl, HB.out⟩

end Go.Proofs.YtkckgchohnkkpaaGreatDoor

/- Whatever is created, taken away, moved and edited, each call answers, and the tree is shown, as the document says: it answers true and changes nothing: the card. No condition. -/
namespace Go.Proofs.YtkckgchohnkkpaaGreatDoor
open Go.ChangeShapes Go.WideShapes Go.ChangeAt Go.RowKit

set_option maxRecDepth 100000 in
theorem treePlays_contract (H : Type) (enc : TypeId × Value → H) (W : World) (base : Nat) (args : Array Value) (ds gs : List (DataW H)) (before : List MemPlace)
    (hval0 : ∀ (j : Nat) t v, Tryz.f4.params[j]? = some t → args[j]? = some v → Value.okWide Tryz.prog W .any base t v)
    (hW : DataW.Whole enc Tryz.prog Tryz.f4.params.toList Rows.treePlaysSpec.vars false W args.toList ds gs before) :
    Calls Tryz.prog 4 args W fun e W' => ∃ v, e = .returned v ∧ Rows.treePlaysSpec.post enc Tryz.prog Tryz.f4 false true false false W args v W' := by
  have hval : ∀ (j : Nat) t v, Tryz.f4.params[j]? = some t → args[j]? = some v → Value.okWide Tryz.prog W .any base t v := hval0
  have hW' := hW
  obtain ⟨p, q, hA0, hV, rfl, _, _⟩ := hW
  have hlt : ∀ x ∈ p ++ q, x.block < W.heap.size := fun x hx => hW'.lt x hx
  have hA : DataW.TrodAll enc Tryz.prog W 0 (fun _ => true) true Tryz.f4.params.toList args.toList ds p := hA0
  rw [Tryz.params4] at hA hval
  obtain ⟨v0, v1, d0, d1, p0, p1, rfl, rfl, rfl, h0, h1⟩ := trodAll_two hA
  obtain ⟨rfl, rfl⟩ := trodVars_none hV
  obtain ⟨A0, l0, c0, rfl, hat0, hg0, hlc0, hc0⟩ := open_nodes (hval 0 22 v0 rfl rfl) h0 (fun x hx => hlt x (by simp [hx]))
  have hl0 : l0.length ≤ maxLen := by omega
  obtain ⟨A1, l1, c1, rfl, hat1, hg1, hlc1, hc1⟩ := open_acts (hval 1 33 v1 rfl rfl) h1 (fun x hx => hlt x (by simp [hx]))
  have hl1 : l1.length ≤ maxLen := by omega
  clear hA0 hval0
  refine (treePlays_any A0 l0 c0 A1 l1 c1 hl0 hg0 hl1 hg1 W ⟨hat0, hlc0⟩ ⟨hat1, hlc1⟩).mono fun e W' ⟨he, hb⟩ => ?_
  exact ⟨_, he, law_post law_laid (by kernel_rfl) (by kernel_rfl) Tryz.underlying4 rfl hW' rfl hb⟩

theorem treePlays_laid_met (os : Os) : laidMet Tryz.prog Rows.treePlaysRow.laid ((laidWorld os).forCall (fun _ _ => 0) ⟨#[], #[.slice none 0 0, .slice none 0 0], []⟩).memory :=
  laidMet_of_run' 8 (by kernel_rfl) (by kernel_rfl)
theorem treePlays_reads (os : Os) {H : Type} (enc : TypeId × Value → H) : ∃ places, DataW.whole enc Tryz.prog ((laidWorld os).forCall (fun _ _ => 0) ⟨#[], #[.slice none 0 0, .slice none 0 0], []⟩).memory Tryz.f4.params.toList Rows.treePlaysSpec.vars false (#[.slice none 0 0, .slice none 0 0] : Array Value).toList 8 = some ([.nil, .nil], [], places) :=
  ⟨[], by kernel_rfl⟩
set_option maxRecDepth 100000 in
theorem treePlays_lifted (os : Os) (started : os.Started) (H : Type) (enc : TypeId × Value → H) (F : Stop.Interp) :
    ReturnsInHanded {} Tryz.checked os 4 .any ((OpenSpec.ofChange Rows.treePlaysSpec).preRow enc Tryz.prog Tryz.f4 Rows.treePlaysRow.domain false Rows.treePlaysRow.laid) (((OpenSpec.ofChange Rows.treePlaysSpec).at F).post enc Tryz.prog Tryz.f4 false true false false) := by
  obtain ⟨places, hx⟩ := treePlays_reads os enc
  refine returnsInHanded_of_row (C := Tryz.checked) (s := OpenSpec.ofChange Rows.treePlaysSpec) law_own started (by kernel_rfl) Tryz.func4
    (witness_row_at (enc := enc) (C := Tryz.checked) false (laidWorld os) #[.slice none 0 0, .slice none 0 0] rfl (by kernel_rfl) (by kernel_rfl) (by kernel_rfl)
      (OpenSpec.preRow_of_cond 8 hx (by kernel_rfl) (fun k hk => by cases hk) (by kernel_rfl) (treePlays_laid_met os))) ?_
  intro W base args ds gs before hval hW _ _ _ _ _ _
  exact treePlays_contract H enc W base args ds gs before hval hW
theorem treePlays_said : Rows.TreePlaysSaid :=
  OpenClaim.holds_of_cond 4 Tryz.f4 rfl rfl rfl rfl rfl rfl rfl ⟨rfl, rfl, rfl, rfl, rfl⟩ rfl rfl rfl rfl rfl (by kernel_rfl) Tryz.func4 (by kernel_rfl)
    (of_decide_eq_true (by kernel_rfl)) (by unfold Func.isWrapper; first | (rw [if_pos (by decide +kernel)]; kernel_rfl) | (rw [if_neg (by decide +kernel)]; exact ⟨rfl, rfl⟩))
    (fun os started H enc _ F => by rw [OpenClaim.pre_eq_preRow]; exact treePlays_lifted os started H enc F)
theorem treePlays_plain (f : FuncId) (fn : Func) (hf : Tryz.pinned.checked.prog.funcNamed "ropewalk/ropewalklaw13.TreePlays" = some f) (hfn : Tryz.pinned.checked.prog.funcs[f]? = some fn) :
    false = Tryz.pinned.checked.prog.looks [] ∧ ∀ (j : Nat) t, fn.params[j]? = some t → Tryz.pinned.checked.prog.wantsStandIn t = false := by
  obtain rfl : f = 4 := Option.some.inj ((show Tryz.prog.funcNamed "ropewalk/ropewalklaw13.TreePlays" = some 4 by kernel_rfl).symm.trans hf) |>.symm
  obtain rfl : fn = Tryz.f4 := (Option.some.inj (Tryz.func4.symm.trans hfn)).symm
  refine ⟨by kernel_rfl, fun j t ht => ?_⟩
  rw [Tryz.params4] at ht
  have hts : t = 22 ∨ t = 33 := by simpa using Array.mem_of_getElem? ht
  rcases hts with rfl | rfl
  · exact (show Tryz.prog.wantsStandIn 22 = false by kernel_rfl)
  · exact (show Tryz.prog.wantsStandIn 33 = false by kernel_rfl)
theorem treePlays_card : Rows.TreePlaysCardSaid :=
  Claim7.holds_tied_plain_at .later [] _ _ _ _ treePlays_said (fun _ h => by cases h) (by kernel_rfl) (fun _ h => by cases h) treePlays_row_tie rfl ⟨rfl, rfl⟩ (by kernel_rfl) rfl treePlays_plain (by kernel_rfl)
end Go.Proofs.YtkckgchohnkkpaaGreatDoor
