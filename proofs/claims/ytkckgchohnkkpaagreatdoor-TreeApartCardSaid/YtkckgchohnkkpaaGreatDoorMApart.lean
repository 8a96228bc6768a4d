/- A copy goes on by itself; what was told may be changed behind it; trees are the same just if all their nodes are; nothing has nothing: it answers true and changes nothing: the card. No condition. (Merged of 6 texts.) -/
import Derived.Test.YtkckgchohnkkpaaGreatDoorCards
import Derived.Test.YtkckgchohnkkpaaGreatDoorTie
import Derived.WalkKit
import Derived.ProofKit
import Derived.OpenShut
import Derived.Deep.DeepHandedRow
import Derived.Lib.LaidTab
import Derived.Test.YtkckgchohnkkpaaGreatDoorMTTreeShows
import Derived.Test.YtkckgchohnkkpaaGreatDoorMKit
import Derived.Test.YtkckgchohnkkpaaGreatDoorMTTreeGuard
import Derived.Test.YtkckgchohnkkpaaGreatDoorMTRefSound
import Derived.Test.YtkckgchohnkkpaaGreatDoorMPath
import Derived.Test.YtkckgchohnkkpaaGreatDoorMTTreeEq
import Derived.Test.YtkckgchohnkkpaaGreatDoorMCells
import Derived.Test.YtkckgchohnkkpaaGreatDoorMTActArg
import Derived.ChangeMaps5
/- A world for the witness of a card: the settled one, both tables of unicode/utf8 holding what the text lays. No condition. -/
namespace Go.Proofs.YtkckgchohnkkpaaGreatDoor
open Go.ChangeShapes Go.WideShapes Go.ChangeAt Go.RowKit

def tabFirst : Array Value := #[.int .u8 240, .int .u8 240, .int .u8 240, .int .u8 240, .int .u8 240, .int .u8 240, .int .u8 240, .int .u8 240, .int .u8 240, .int .u8 240, .int .u8 240, .int .u8 240, .int .u8 240, .int .u8 240, .int .u8 240, .int .u8 240, .int .u8 240, .int .u8 240, .int .u8 240, .int .u8 240, .int .u8 240, .int .u8 240, .int .u8 240, .int .u8 240, .int .u8 240, .int .u8 240, .int .u8 240, .int .u8 240, .int .u8 240, .int .u8 240, .int .u8 240, .int .u8 240, .int .u8 240, .int .u8 240, .int .u8 240, .int .u8 240, .int .u8 240, .int .u8 240, .int .u8 240, .int .u8 240, .int .u8 240, .int .u8 240, .int .u8 240, .int .u8 240, .int .u8 240, .int .u8 240, .int .u8 240, .int .u8 240, .int .u8 240, .int .u8 240, .int .u8 240, .int .u8 240, .int .u8 240, .int .u8 240, .int .u8 240, .int .u8 240, .int .u8 240, .int .u8 240, .int .u8 240, .int .u8 240, .int .u8 240, .int .u8 240, .int .u8 240, .int .u8 240, .int .u8 240, .int .u8 240, .int .u8 240, .int .u8 240, .int .u8 240, .int .u8 240, .int .u8 240, .int .u8 240, .int .u8 240, .int .u8 240, .int .u8 240, .int .u8 240, .int .u8 240, .int .u8 240, .int .u8 240, .int .u8 240, .int .u8 240, .int .u8 240, .int .u8 240, .int .u8 240, .int .u8 240, .int .u8 240, .int .u8 240, .int .u8 240, .int .u8 240, .int .u8 240, .int .u8 240, .int .u8 240, .int .u8 240, .int .u8 240, .int .u8 240, .int .u8 240, .int .u8 240, .int .u8 240, .int .u8 240, .int .u8 240, .int .u8 240, .int .u8 240, .int .u8 240, .int .u8 240, .int .u8 240, .int .u8 240, .int .u8 240, .int .u8 240, .int .u8 240, .int .u8 240, .int .u8 240, .int .u8 240, .int .u8 240, .int .u8 240, .int .u8 240, .int .u8 240, .int .u8 240, .int .u8 240, .int .u8 240, .int .u8 240, .int .u8 240, .int .u8 240, .int .u8 240, .int .u8 240, .int .u8 240, .int .u8 240, .int .u8 240, .int .u8 240, .int .u8 241, .int .u8 241, .int .u8 241, .int .u8 241, .int .u8 241, .int .u8 241, .int .u8 241, .int .u8 241, .int .u8 241, .int .u8 241, .int .u8 241, .int .u8 241, .int .u8 241, .int .u8 241, .int .u8 241, .int .u8 241, .int .u8 241, .int .u8 241, .int .u8 241, .int .u8 241, .int .u8 241, .int .u8 241, .int .u8 241, .int .u8 241, .int .u8 241, .int .u8 241, .int .u8 241, .int .u8 241, .int .u8 241, .int .u8 241, .int .u8 241, .int .u8 241, .int .u8 241, .int .u8 241, .int .u8 241, .int .u8 241, .int .u8 241, .int .u8 241, .int .u8 241, .int .u8 241, .int .u8 241, .int .u8 241, .int .u8 241, .int .u8 241, .int .u8 241, .int .u8 241, .int .u8 241, .int .u8 241, .int .u8 241, .int .u8 241, .int .u8 241, .int .u8 241, .int .u8 241, .int .u8 241, .int .u8 241, .int .u8 241, .int .u8 241, .int .u8 241, .int .u8 241, .int .u8 241, .int .u8 241, .int .u8 241, .int .u8 241, .int .u8 241, .int .u8 241, .int .u8 241, .int .u8 2, .int .u8 2, .int .u8 2, .int .u8 2, .int .u8 2, .int .u8 2, .int .u8 2, .int .u8 2, .int .u8 2, .int .u8 2, .int .u8 2, .int .u8 2, .int .u8 2, .int .u8 2, .int .u8 2, .int .u8 2, .int .u8 2, .int .u8 2, .int .u8 2, .int .u8 2, .int .u8 2, .int .u8 2, .int .u8 2, .int .u8 2, .int .u8 2, .int .u8 2, .int .u8 2, .int .u8 2, .int .u8 2, .int .u8 2, .int .u8 19, .int .u8 3, .int .u8 3, .int .u8 3, .int .u8 3, .int .u8 3, .int .u8 3, .int .u8 3, .int .u8 3, .int .u8 3, .int .u8 3, .int .u8 3, .int .u8 3, .int .u8 35, .int .u8 3, .int .u8 3, .int .u8 52, .int .u8 4, .int .u8 4, .int .u8 4, .int .u8 68, .int .u8 241, .int .u8 241, .int .u8 241, .int .u8 241, .int .u8 241, .int .u8 241, .int .u8 241, .int .u8 241, .int .u8 241, .int .u8 241, .int .u8 241]
def tabRanges : Array Value := #[.int .u8 128, .int .u8 191, .int .u8 160, .int .u8 191, .int .u8 128, .int .u8 159, .int .u8 144, .int .u8 191, .int .u8 128, .int .u8 143, .int .u8 0, .int .u8 0, .int .u8 0, .int .u8 0, .int .u8 0, .int .u8 0, .int .u8 0, .int .u8 0, .int .u8 0, .int .u8 0, .int .u8 0, .int .u8 0, .int .u8 0, .int .u8 0, .int .u8 0, .int .u8 0, .int .u8 0, .int .u8 0, .int .u8 0, .int .u8 0, .int .u8 0, .int .u8 0]
def layTab (cs : Array Value) : Obj → Obj
  | .cells _ t frozen => .cells cs t frozen
  | o => o
noncomputable def laidWorld (os : Os) : World :=
  { World.holding Tryz.prog os ⟨#[], #[], []⟩ with heap := ((World.holding Tryz.prog os ⟨#[], #[], []⟩).heap.modify 1 (layTab tabFirst)).modify 2 (layTab tabRanges) }
end Go.Proofs.YtkckgchohnkkpaaGreatDoor

/- Whatever is created, taken away, moved and edited, each call answers, and the tree is shown, as the document says: TreePlays answers true and changes nothing. No condition. -/
namespace Go.Proofs.YtkckgchohnkkpaaGreatDoor
open Go.RowKit Go.Deep

theorem ActsAt.only {w w' : World} {g : Nat} {t : List NodeV} (h : TreeAt w g t) (ho : Only g w w') {A : Option Addr} {l : List ActV} (hc : ActsAt w A l) : ActsAt w' A l := by
  refine ⟨CellsAt.only h ho hc.1 fun v hv B n c e => ?_, fun y hy => CellsAt.only h ho (hc.2 y hy) fun v hv B n c e => ?_⟩
  · cases l with
    | nil => cases hv
    | cons y l =>
      rw [List.flatMap_cons] at hv
      injection hv with hv
      rw [e] at hv
      cases hv
  · cases ho2 : y.ops with
    | nil => rw [ho2] at hv; cases hv
    | cons z r =>
      rw [ho2, List.flatMap_cons] at hv
      injection hv with hv
      rw [e] at hv
      cases hv
/-- The tree in block g, its nodes made by the document's own, and the acts. -/
structure PlayS (W : World) (g : Nat) (T : List NodeV) (AX : Option Addr) (cX : Nat) (B : Option Addr) (m : List ActV) (wr : World) : Prop where
  tree : TreeAt wr g T
  nodes : NodesC wr AX cX T
  acts : ActsAt wr B m
  bel : Below W.heap.size W wr
  new : W.heap.size ≤ g
theorem PlayS.below {W : World} {g : Nat} {T : List NodeV} {AX B : Option Addr} {cX : Nat} {m : List ActV} {wr w2 : World} (h : PlayS W g T AX cX B m wr) (hb : Below wr.heap.size wr w2) : PlayS W g T AX cX B m w2 :=
  ⟨h.tree.below hb, h.nodes.below hb, h.acts.below hb, h.bel.trans (hb.mono h.bel.size), h.new⟩
theorem PlayS.does {W : World} {g : Nat} {T X : List NodeV} {AX A1 B : Option Addr} {cX c1 : Nat} {m : List ActV} {wr w2 : World} (h : PlayS W g T AX cX B m wr) (ht : TreeAt w2 g X) (ho : Only g wr w2) (hn : NodesC wr A1 c1 X) : PlayS W g X A1 c1 B m w2 :=
  ⟨ht, NodesC.only h.tree ho hn, ActsAt.only h.tree ho h.acts, ho.below h.bel h.new, h.new⟩
set_option maxHeartbeats 4000000 in
set_option maxRecDepth 100000 in
theorem treePlays_any (A : Option Addr) (l : List NodeV) (c : Nat) (B : Option Addr) (m : List ActV) (d : Nat) (hl : l.length ≤ maxLen) (hg : ∀ y ∈ l, y.Good) (hm : m.length ≤ maxLen) (gg : ∀ y ∈ m, y.Good) (w : World) (hA : NodesC w A c l) (hB : ActsAt w B m ∧ m.length ≤ d) :
    Calls Tryz.prog 4 #[.slice A l.length c, .slice B m.length d] w fun e w' => e = .returned (.bool true) ∧ Below w.heap.size w w' := by
  have GA := Lib.hid (fun w => awake_any w)
  have GS := Lib.hid (small_any A B c d l m hl hm hg gg w hA.1 hB.1)
  have HA := Lib.hid hA
  have HC := Lib.hid hB.1
  have hlc := hA.2
  clear hA hB hm
  cases hsm : smallB l m with
  | false =>
    rw [hsm] at GS
    clear hg gg
    go_enter Tryz.func4, Tryz.ntmps4
    have HB := Lib.hid (Below.refl w.heap.size w)
    go_wp2_with fail
    refine (GS.out).mono ?_
    rintro e x1 ⟨rfl, hb⟩
    replace HA := Lib.hid (HA.out.below hb)
    replace HC := Lib.hid (HC.out.below hb)
    replace HB := Lib.hid (HB.out.trans (hb.mono HB.out.size))
    clear hb
    go_wp2_with fail
    refine (GA.out _).mono ?_
    rintro e x2 ⟨rfl, hb⟩
    replace HB := Lib.hid (HB.out.trans (hb.mono HB.out.size))
    clear hb
    go_wp2
    go_ret
    exact ⟨rfl, HB.out⟩

  | true =>
    rw [hsm] at GS
    obtain ⟨hwt, hwa, hm60⟩ := small_yes hsm
    have hslim := wt_slim hwt
    have hgd := nodes_guard hwt
    have GAC := Lib.hid (acts_guard gg hwa)
    clear hsm hwt hwa gg
    by_cases hS : SoundN l
    · have GL := Lib.hid (fun w hA => load_yes A c l (by omega) hlc hg hslim hS w hA)
      have HM := Lib.hid (TreeM.of hS)
      clear hg hS
      go_enter Tryz.func4, Tryz.ntmps4
      have HB := Lib.hid (Below.refl w.heap.size w)
      go_wp2_with fail
      refine (GS.out).mono ?_
      rintro e x1 ⟨rfl, hb⟩
      replace HA := Lib.hid (HA.out.below hb)
      replace HC := Lib.hid (HC.out.below hb)
      replace HB := Lib.hid (HB.out.trans (hb.mono HB.out.size))
      clear hb
      go_wp2_with fail
      refine (GL.out _ HA.out.1).mono ?_
      rintro e x2 ⟨g, rfl, hgw, ht, hb⟩
      have HS : Hid (PlayS w g l A c B m x2) := ⟨ht, HA.out.below hb, HC.out.below hb, HB.out.trans (hb.mono HB.out.size), Nat.le_trans HB.out.size hgw⟩
      clear hb ht hgw HA HC HB GL GS
      go_wp2
      go_loopw [7, 8, 9, 10] (fun s7 s8 s9 s10 wr => ∃ (k : Nat) (T : List NodeV) (AX : Option Addr) (cX : Nat), k ≤ m.length ∧ s7 = .slice AX T.length cX ∧ s8 = .int .i64 (k : Int) ∧ s9 = s9 ∧ s10 = s10 ∧ Hid (TreeM T) ∧ Hid (PlayS w g T AX cX B m wr)) (fun _ s8 _ _ _ => m.length - (intOf s8).toNat)
      case atStart => exact ⟨0, l, A, c, Nat.zero_le _, rfl, rfl, rfl, rfl, HM, HS⟩
      case round =>
        clear HS HM
        obtain ⟨k, T, AX, cX, hk, rfl, rfl, _, _, HM, HS⟩ := hrel
        by_cases hlt : k < m.length
        · skip
          obtain ⟨b, off, rfl, _⟩ := HS.out.acts.form (by omega)
          have hltI : (k : Int) < (m.length : Int) := by omega
          have hact := GAC.out _ (List.getElem_mem hlt)
          have HY : Hid (∀ X AX cX T g' (wr : World), PlayS w g' T AX cX (some ⟨b, off, none⟩) m X → X.cell? ⟨b, off + k * 6, none⟩ = some (.int .i64 m[k].kind) ∧ X.cell? ⟨b, off + k * 6 + 1, none⟩ = some (.int .i64 m[k].id) ∧ X.cell? ⟨b, off + k * 6 + 2, none⟩ = some (.int .i64 m[k].parent) ∧ X.cell? ⟨b, off + k * 6 + 3, none⟩ = some (.string (bstr m[k].name)) ∧ X.cell? ⟨b, off + k * 6 + 4, none⟩ = some (.bool m[k].dir) ∧ X.cell? ⟨b, off + k * 6 + 5, none⟩ = some (.slice m[k].opsA m[k].ops.length m[k].opsC)) := fun X AX cX T g' _ h => h.acts.at_ hlt
          have HOP : Hid (∀ X AX cX T g', PlayS w g' T AX cX (some ⟨b, off, none⟩) m X → CompsAt X m[k].opsA m[k].ops) := fun X AX cX T g' h => h.acts.2 _ (List.getElem_mem hlt)
          generalize m[k] = a at hact HY HOP
          obtain ⟨X, u, hXu⟩ : ∃ X u, rDo T a = (X, u) := ⟨_, _, rfl⟩
          have hX : TreeM X := by
            have := HM.out.does a
            rw [hXu] at this
            exact this
          have GD := Lib.hid (fun w hop hC => kNDo HM.out hact AX cX w hop hC)
          rw [hXu] at GD
          unfold actCells at GD
          have GT := Lib.hid (fun w h hop => tDo (g := g) hXu HM.out hact w h hop)
          have GW := Lib.hid (fun A c w h hA => shows_yes g X hX A c w h hA)
          have hXl := hX.len
          have GO := Lib.hid (fun A c w hA => refSound_any A c X (by omega) hX.good (fun y hy => by have := (hX.nd y hy).2.2.2.2.1; omega) w hA)
          rw [rSound_yes hX.sound] at GO
          have HX := Lib.hid hX
          clear hX hXu hact
          have e3 : (u != u) = false := by simp
          obtain ⟨z0, z1, z2, z3, z4, z5⟩ := HY.out _ _ _ _ _ wr HS.out
          go_wp2_with fail
          refine (GD.out _ (HOP.out _ _ _ _ _ HS.out) HS.out.nodes).mono ?_
          rintro e x1 ⟨⟨⟨A1, c1, rfl, hn⟩, _⟩, hb⟩
          replace HS := Lib.hid (HS.out.below hb)
          have HN := Lib.hid hn
          clear hb hn
          obtain ⟨z0, z1, z2, z3, z4, z5⟩ := HY.out _ _ _ _ _ wr HS.out
          go_wp2_with fail
          refine (GT.out _ HS.out.tree (HOP.out _ _ _ _ _ HS.out)).mono ?_
          rintro e x2 ⟨rfl, ht, ho⟩
          replace HS := Lib.hid (HS.out.does ht ho HN.out)
          clear ht ho HN
          go_wp2_with fail
          refine (GW.out _ _ _ HS.out.tree HS.out.nodes.1).mono ?_
          rintro e x3 ⟨rfl, hb⟩
          replace HS := Lib.hid (HS.out.below hb)
          clear hb
          go_wp2_with fail
          refine (GO.out _ _ _ HS.out.nodes.1).mono ?_
          rintro e x4 ⟨rfl, hb⟩
          replace HS := Lib.hid (HS.out.below hb)
          clear hb
          go_wp2_with fail
          go_roundw
          case rel => exact ⟨k + 1, X, A1, c1, by omega, rfl, by go_num, trivial, trivial, HX, HS⟩
          case measure => simp [intOf]; omega

        · obtain rfl : k = m.length := by omega
          obtain ⟨w5, hw5⟩ : ∃ x, x = wr := ⟨wr, rfl⟩
          subst hw5
          have HB := Lib.hid HS.out.bel
          go_wp2_with fail
          refine (GA.out _).mono ?_
          rintro e x9 ⟨rfl, hb⟩
          replace HB := Lib.hid (HB.out.trans (hb.mono HB.out.size))
          clear hb
          go_wp2
          go_ret
          exact ⟨rfl, HB.out⟩


    · have GL := Lib.hid (fun w hA => load_no A c l (by omega) hlc hg hslim hS w hA)
      have GO := Lib.hid (fun w hA => refSound_any A c l (by omega) hg (fun y hy => by have := (hgd.2 y hy).2; omega) w hA)
      rw [rSound_no hS] at GO
      clear hg hS
      go_enter Tryz.func4, Tryz.ntmps4
      have HB := Lib.hid (Below.refl w.heap.size w)
      go_wp2_with fail
      refine (GS.out).mono ?_
      rintro e x1 ⟨rfl, hb⟩
      replace HA := Lib.hid (HA.out.below hb)
      replace HC := Lib.hid (HC.out.below hb)
      replace HB := Lib.hid (HB.out.trans (hb.mono HB.out.size))
      clear hb
      go_wp2_with fail
      refine (GL.out _ HA.out.1).mono ?_
      rintro e x2 ⟨rfl, hb⟩
      replace HA := Lib.hid (HA.out.below hb)
      replace HB := Lib.hid (HB.out.trans (hb.mono HB.out.size))
      clear hb
      go_wp2_with fail
      refine (GO.out _ HA.out.1).mono ?_
      rintro e x3 ⟨rfl, hb⟩
      replace HB := Lib.hid (HB.out.trans (hb.mono HB.out.size))
      clear hb
      go_wp2_with fail
      refine (GA.out _).mono ?_
      rintro e x4 ⟨rfl, hb⟩
      replace HB := Lib.hid (HB.out.trans (hb.mono HB.out.size))
      clear hb
      go_wp2
      go_ret
      exact ⟨rfl, HB.out⟩

end Go.Proofs.YtkckgchohnkkpaaGreatDoor

/- What nothing answers: line, Path of a nil tree. No condition. -/
namespace Go.Proofs.YtkckgchohnkkpaaGreatDoor
open Go.RowKit Go.Deep

/-- A frame of the walk. -/
def NilFr (a : Act) (p id ln : Value) : Prop := a.defers = [] ∧ a.tmps.size = 51 ∧ a.tmps[0]? = some p ∧ a.tmps[1]? = some id ∧ a.tmps[6]? = some ln
theorem NilFr.out {a : Act} {p id ln : Value} (h : NilFr a p id ln) : ∃ f : Nat → Value, a = { tmps := #[p, id, f 2, f 3, f 4, f 5, ln, f 7, f 8, f 9, f 10, f 11, f 12, f 13, f 14, f 15, f 16, f 17, f 18, f 19, f 20, f 21, f 22, f 23, f 24, f 25, f 26, f 27, f 28, f 29, f 30, f 31, f 32, f 33, f 34, f 35, f 36, f 37, f 38, f 39, f 40, f 41, f 42, f 43, f 44, f 45, f 46, f 47, f 48, f 49, f 50], defers := [] } := by
  obtain ⟨t, d⟩ := a
  obtain ⟨rfl, hs, h0, h1, h6⟩ := h
  simp only at hs h0 h1 h6
  refine ⟨fun n => (t[n]?).getD undef, ?_⟩
  have e : t = ((List.range 51).map fun i => (t[i]?).getD undef).toArray := by
    apply Array.ext
    · simp [hs]
    · intro i h1 h2
      simp [h1]
  have e2 : ((List.range 51).map fun i => (t[i]?).getD undef).toArray = #[(t[0]?).getD undef, (t[1]?).getD undef, (t[2]?).getD undef, (t[3]?).getD undef, (t[4]?).getD undef, (t[5]?).getD undef, (t[6]?).getD undef, (t[7]?).getD undef, (t[8]?).getD undef, (t[9]?).getD undef, (t[10]?).getD undef, (t[11]?).getD undef, (t[12]?).getD undef, (t[13]?).getD undef, (t[14]?).getD undef, (t[15]?).getD undef, (t[16]?).getD undef, (t[17]?).getD undef, (t[18]?).getD undef, (t[19]?).getD undef, (t[20]?).getD undef, (t[21]?).getD undef, (t[22]?).getD undef, (t[23]?).getD undef, (t[24]?).getD undef, (t[25]?).getD undef, (t[26]?).getD undef, (t[27]?).getD undef, (t[28]?).getD undef, (t[29]?).getD undef, (t[30]?).getD undef, (t[31]?).getD undef, (t[32]?).getD undef, (t[33]?).getD undef, (t[34]?).getD undef, (t[35]?).getD undef, (t[36]?).getD undef, (t[37]?).getD undef, (t[38]?).getD undef, (t[39]?).getD undef, (t[40]?).getD undef, (t[41]?).getD undef, (t[42]?).getD undef, (t[43]?).getD undef, (t[44]?).getD undef, (t[45]?).getD undef, (t[46]?).getD undef, (t[47]?).getD undef, (t[48]?).getD undef, (t[49]?).getD undef, (t[50]?).getD undef] := rfl
  simp only [h0, h1, h6, Option.getD_some] at e2
  rw [← e2, ← e]
attribute [irreducible] NilFr
theorem NilFr.mk {t : Array Value} {p id ln : Value} (h : t.size = 51 ∧ t[0]? = some p ∧ t[1]? = some id ∧ t[6]? = some ln) : NilFr { tmps := t, defers := [] } p id ln := by
  unfold NilFr
  exact ⟨rfl, h⟩
/-- What holds at the label. -/
def NilJ (W : World) (id : Int) : Nat → Nat → Act → World → Prop
  | 0, _, a, w => NilFr a (.pointer none) (.int .i64 id) (.slice none 0 0) ∧ Below W.heap.size W w
  | _, _, _, _ => False
set_option maxHeartbeats 2000000 in
set_option maxRecDepth 100000 in
theorem line_nil (id : Int) (h0 : id ≠ 0) (w : World) :
    Calls Tryz.prog 52 #[.pointer none, .int .i64 id] w fun e w' => e = .returned (.tuple #[.slice none 0 0, .bool false]) ∧ Below w.heap.size w w' := by
  have G := Lib.hid (fun w' => at_any none [] id List.Pairwise.nil (by simp) w' (.inl ⟨rfl, rfl⟩))
  rw [rFind_no (l := []) (fun y hy => (List.not_mem_nil hy).elim)] at G
  have hne : (id == 0) = false := beq_eq_false_iff_ne.2 h0
  clear h0
  go_enter Tryz.func52, Tryz.ntmps52
  go_wp2
  refine wp_scope_one (NilJ w id) ?hJ rfl ?p0 ?first
  case hJ =>
    intro j k a w h
    match j, h with
    | 0, _ => omega
    | (n + 1), h => exact h.elim
  case first =>
    intro P0
    have P0' := Lib.hid P0; clear P0
    refine ⟨0, ?_⟩
    go_wp2
    go_step3
    rename_i K hK
    refine hK _ _ (downK_mono (Nat.le_refl _) (P0'.out _ _ _ ⟨NilFr.mk ⟨rfl, rfl, rfl, rfl⟩, Below.refl _ _⟩))
  case p0 =>
    rintro k act w1 ⟨hf, hb⟩
    obtain ⟨F, rfl⟩ := hf.out
    clear hf
    have HB := Lib.hid hb; clear hb
    go_wp2_with fail
    refine (G.out _).mono ?_
    rintro e w' ⟨rfl, hb⟩
    have HB2 := Lib.hid (HB.out.trans (hb.mono HB.out.size)); clear hb
    go_wp2
    rw [downK_ret]
    go_ret2
    exact ⟨rfl, HB2.out⟩
set_option maxHeartbeats 1000000 in
set_option maxRecDepth 100000 in
theorem path_nil (id : Int) (h0 : id ≠ 0) (w : World) :
    Calls Tryz.prog 20 #[.pointer none, .int .i64 id] w fun e w' => e = .returned (.tuple #[.string (bstr []), .bool false]) ∧ Below w.heap.size w w' := by
  have G := Lib.hid (line_nil id h0 w)
  clear h0
  go_enter Tryz.func20, Tryz.ntmps20
  go_wp2_with fail
  refine G.out.mono ?_
  rintro e w1 ⟨rfl, hb⟩
  go_wp2
  go_ret2
  exact ⟨rfl, hb⟩
end Go.Proofs.YtkckgchohnkkpaaGreatDoor

/- What TreeApart's walk holds: two acts in boxes, the given nodes; later two trees and the document's own nodes of both. No condition. -/
namespace Go.Proofs.YtkckgchohnkkpaaGreatDoor
open Go.RowKit Go.Deep

theorem CompsAt.only {w w' : World} {g : Nat} {t : List NodeV} (h : TreeAt w g t) (ho : Only g w w') {A : Option Addr} {l : List CompV} (hc : CompsAt w A l) : CompsAt w' A l := by
  refine CellsAt.only h ho hc fun v hv B n c e => ?_
  cases l with
  | nil => cases hv
  | cons z r =>
    rw [List.flatMap_cons] at hv
    injection hv with hv
    rw [e] at hv
    cases hv
/-- Two acts in boxes, and the given nodes. -/
structure ApB (W : World) (p q : Nat) (a b : ActV) (l : List NodeV) (A : Option Addr) (c : Nat) (wr : World) : Prop where
  pa : wr.heap[p]? = some (.cells (actCells a).toArray 38 (0, 0))
  pb : wr.heap[q]? = some (.cells (actCells b).toArray 38 (0, 0))
  oa : CompsAt wr a.opsA a.ops
  ob : CompsAt wr b.opsA b.ops
  nodes : NodesC wr A c l
  bel : Below W.heap.size W wr
theorem ApB.below {W : World} {p q : Nat} {a b : ActV} {l : List NodeV} {A : Option Addr} {c : Nat} {wr w2 : World} (h : ApB W p q a b l A c wr) (hb : Below wr.heap.size wr w2) : ApB W p q a b l A c w2 :=
  ⟨by rw [hb.block p (Array.getElem?_eq_some_iff.1 h.pa).1]; exact h.pa, by rw [hb.block q (Array.getElem?_eq_some_iff.1 h.pb).1]; exact h.pb, h.oa.below hb, h.ob.below hb, h.nodes.below hb, h.bel.trans (hb.mono h.bel.size)⟩
theorem act_cells {w : World} {p : Nat} {a : ActV} (h : w.heap[p]? = some (.cells (actCells a).toArray 38 (0, 0))) : w.cell? ⟨p, 0, none⟩ = some (.int .i64 a.kind) ∧ w.cell? ⟨p, 1, none⟩ = some (.int .i64 a.id) ∧ w.cell? ⟨p, 2, none⟩ = some (.int .i64 a.parent) ∧ w.cell? ⟨p, 3, none⟩ = some (.string (bstr a.name)) ∧ w.cell? ⟨p, 4, none⟩ = some (.bool a.dir) ∧ w.cell? ⟨p, 5, none⟩ = some (.slice a.opsA a.ops.length a.opsC) :=
  ⟨by rw [Lib.cell_of_heap h]; rfl, by rw [Lib.cell_of_heap h]; rfl, by rw [Lib.cell_of_heap h]; rfl, by rw [Lib.cell_of_heap h]; rfl, by rw [Lib.cell_of_heap h]; rfl, by rw [Lib.cell_of_heap h]; rfl⟩
theorem ap_begin {w : World} {a b : ActV} {l : List NodeV} {A : Option Addr} {c : Nat} (hA : NodesC w A c l) (ha : CompsAt w a.opsA a.ops) (hb : CompsAt w b.opsA b.ops) :
    ApB w w.heap.size (w.heap.size + 1) a b l A c ((w.alloc (.cells (actCells a).toArray 38)).alloc (.cells (actCells b).toArray 38)) := by
  have hB : Below w.heap.size w ((w.alloc (.cells (actCells a).toArray 38)).alloc (.cells (actCells b).toArray 38)) := ((Below.refl _ w).alloc (Nat.le_refl _) _).alloc (by simp) _
  refine ⟨?_, ?_, ha.below hB, hb.below hB, hA.below hB, hB⟩
  · rw [Below.heap_alloc _ _ _ (by simp)]
    exact World.alloc_heap_new w _
  · have := World.alloc_heap_new (w.alloc (.cells (actCells a).toArray 38)) (.cells (actCells b).toArray 38)
    rwa [World.size_alloc] at this
theorem acts_two (w : World) (a b : ActV) (ha : CompsAt w a.opsA a.ops) (hb : CompsAt w b.opsA b.ops) :
    ActsAt (w.alloc (.cells (actCells a ++ actCells b).toArray 38)) (some ⟨w.heap.size, 0, none⟩) [a, b] := by
  have hB := (Below.refl w.heap.size w).alloc (Nat.le_refl _) (.cells (actCells a ++ actCells b).toArray 38)
  refine ⟨CellsAt.lit (fun j v hj => ?_) rfl, fun y hy => ?_⟩
  · simpa using hj
  · rcases List.mem_cons.1 hy with rfl | hy
    · exact ha.below hB
    · rw [List.mem_singleton.1 hy]
      exact hb.below hB
/-- The trees of both, and the document's own nodes. -/
structure ApT (W : World) (p q : Nat) (a b : ActV) (l : List NodeV) (A : Option Addr) (c : Nat) (g k : Nat) (S T : List NodeV) (A1 : Option Addr) (c1 : Nat) (X : List NodeV) (A2 : Option Addr) (c2 : Nat) (Y : List NodeV) (wr : World) : Prop where
  base : ApB W p q a b l A c wr
  one : TreeAt wr g S
  two : TreeAt wr k T
  n1 : NodesC wr A1 c1 X
  n2 : NodesC wr A2 c2 Y
  far : W.heap.size ≤ g ∧ W.heap.size ≤ k ∧ p ≠ g ∧ q ≠ g ∧ p ≠ k ∧ q ≠ k ∧ g ≠ k
section
variable {W : World} {p q : Nat} {a b : ActV} {l : List NodeV} {A : Option Addr} {c g k : Nat} {S T : List NodeV} {A1 : Option Addr} {c1 : Nat} {X : List NodeV} {A2 : Option Addr} {c2 : Nat} {Y : List NodeV} {wr w2 : World}
theorem ApT.below (h : ApT W p q a b l A c g k S T A1 c1 X A2 c2 Y wr) (hb : Below wr.heap.size wr w2) : ApT W p q a b l A c g k S T A1 c1 X A2 c2 Y w2 :=
  ⟨h.base.below hb, h.one.below hb, h.two.below hb, h.n1.below hb, h.n2.below hb, h.far⟩
theorem ApT.put1 (h : ApT W p q a b l A c g k S T A1 c1 X A2 c2 Y wr) {S' : List NodeV} (ht : TreeAt w2 g S') (ho : Only g wr w2) : ApT W p q a b l A c g k S' T A1 c1 X A2 c2 Y w2 := by
  obtain ⟨f1, f2, f3, f4, f5, f6, f7⟩ := h.far
  exact ⟨⟨by rw [ho.block p (Array.getElem?_eq_some_iff.1 h.base.pa).1 f3]; exact h.base.pa, by rw [ho.block q (Array.getElem?_eq_some_iff.1 h.base.pb).1 f4]; exact h.base.pb, CompsAt.only h.one ho h.base.oa, CompsAt.only h.one ho h.base.ob, NodesC.only h.one ho h.base.nodes, ho.below h.base.bel f1⟩,
    ht, TreeAt.other h.one h.two (fun e => f7 e.symm) ho, NodesC.only h.one ho h.n1, NodesC.only h.one ho h.n2, h.far⟩
theorem ApT.put2 (h : ApT W p q a b l A c g k S T A1 c1 X A2 c2 Y wr) {T' : List NodeV} (ht : TreeAt w2 k T') (ho : Only k wr w2) : ApT W p q a b l A c g k S T' A1 c1 X A2 c2 Y w2 := by
  obtain ⟨f1, f2, f3, f4, f5, f6, f7⟩ := h.far
  exact ⟨⟨by rw [ho.block p (Array.getElem?_eq_some_iff.1 h.base.pa).1 f5]; exact h.base.pa, by rw [ho.block q (Array.getElem?_eq_some_iff.1 h.base.pb).1 f6]; exact h.base.pb, CompsAt.only h.two ho h.base.oa, CompsAt.only h.two ho h.base.ob, NodesC.only h.two ho h.base.nodes, ho.below h.base.bel f2⟩,
    TreeAt.other h.two h.one f7 ho, ht, NodesC.only h.two ho h.n1, NodesC.only h.two ho h.n2, h.far⟩
end
/-- A row of nodes of the call's own that is written over. -/
def RowN (w : World) (g n : Nat) : Prop := ∃ cs, w.heap[g]? = some (.cells cs 44 (0, 0)) ∧ n * 5 ≤ cs.size
theorem RowN.of_own {w : World} {B c : Nat} {A : Option Addr} {m : List NodeV} (h : OwnN w B A c m) (h0 : 0 < m.length) : ∃ g, A = some ⟨g, 0, none⟩ ∧ B ≤ g ∧ RowN w g m.length := by
  rcases h.2 with ⟨_, h1⟩ | ⟨g, cap, cur, e, hB, hg, hn, _, hs, _⟩
  · omega
  · injection e with e
    exact ⟨g, e, hB, cur, hg, by rw [hs]; exact Nat.mul_le_mul_right 5 hn⟩
theorem RowN.at_ {w : World} {g n i : Nat} (h : RowN w g n) (hi : i < n) : (∃ v, w.cell? ⟨g, i * 5 + 2, none⟩ = some v) ∧ w.frozen? ⟨g, i * 5 + 2, none⟩ = false := by
  obtain ⟨cs, h1, h2⟩ := h
  refine ⟨⟨cs[i * 5 + 2]'(by omega), ?_⟩, Lib.frozen_of_heap h1 _⟩
  rw [Lib.cell_of_heap h1, Array.getElem?_eq_getElem]
theorem RowN.set {w : World} {g n : Nat} (h : RowN w g n) (j : Nat) (v : Value) : RowN (w.setCell ⟨g, j, none⟩ v) g n := by
  obtain ⟨cs, h1, h2⟩ := h
  exact ⟨cs.setIfInBounds j v, by simp [World.setCell, Array.getElem?_modify, h1], by simpa using h2⟩
end Go.Proofs.YtkckgchohnkkpaaGreatDoor

/- A copy goes on by itself; what was told may be changed behind it; trees are the same just if all their nodes are; nothing has nothing: TreeApart answers true and changes nothing. No condition. -/
namespace Go.Proofs.YtkckgchohnkkpaaGreatDoor
open Go.RowKit Go.Deep

theorem get_none (w : World) : Calls Tryz.prog 19 #[.pointer none, .int .i64 1] w fun e w'' => e = .returned (.tuple #[.agg #[.int .i64 0, .int .i64 0, .string (bstr []), .bool false, .string (bstr [])], .bool false]) ∧ Below w.heap.size w w'' := by
  have := get_any none [] TreeM.nil 1 w (.inl ⟨rfl, rfl⟩)
  rw [getN, rFind_no (l := []) (fun y hy => (List.not_mem_nil hy).elim)] at this
  exact this
theorem find_none (w : World) : Calls Tryz.prog 21 #[.pointer none, .string (bstr [97])] w fun e w'' => e = .returned (.tuple #[.int .i64 0, .bool false]) ∧ Below w.heap.size w w'' := by
  have := find_any none [] (by simp) (fun y hy => (List.not_mem_nil hy).elim) [97] (by simp) (by simp) (by simp) w (.inl ⟨rfl, rfl⟩)
  rw [pcs_one (s := [97]) (by simp)] at this
  exact this
theorem nodes_none (w : World) : Calls Tryz.prog 18 #[.pointer none] w fun e w' => ∃ A' c', e = .returned (.slice A' 0 c') ∧ True ∧ Below w.heap.size w w' := by
  refine (nodes_any none [] (by simp) TreeM.nil.slim w (.inl ⟨rfl, rfl⟩)).mono ?_
  rintro e w' ⟨A', c', rfl, _, hb⟩
  exact ⟨A', c', rfl, trivial, hb⟩
theorem kids_none (w : World) : Calls Tryz.prog 23 #[.pointer none, .int .i64 0] w fun e w' => ∃ A c, e = .returned (.slice A 0 c) ∧ True ∧ Below w.heap.size w w' := by
  refine (children_any none [] TreeM.nil 0 w (.inl ⟨rfl, rfl⟩)).mono ?_
  rintro e w' ⟨A, c, rfl, _, hb⟩
  refine ⟨A, c, ?_, trivial, hb⟩
  rw [List.length_nil, kids_zero]
  rfl
set_option maxHeartbeats 8000000 in
set_option maxRecDepth 100000 in
theorem treeApart_any (A : Option Addr) (l : List NodeV) (c : Nat) (a b : ActV) (hl : l.length ≤ maxLen) (hg : ∀ y ∈ l, y.Good) (ga : a.Good) (gb : b.Good) (w : World) (hA : NodesC w A c l) (hopa : CompsAt w a.opsA a.ops) (hopb : CompsAt w b.opsA b.ops) :
    Calls Tryz.prog 5 #[.slice A l.length c, .agg (actCells a).toArray, .agg (actCells b).toArray] w fun e w' => e = .returned (.bool true) ∧ Below w.heap.size w w' := by
  have GA := Lib.hid (fun w => awake_any w)
  have hgab : ∀ y ∈ [a, b], y.Good := fun y hy => by
    rcases List.mem_cons.1 hy with rfl | hy
    · exact ga
    · rw [List.mem_singleton.1 hy]; exact gb
  have GS := Lib.hid (fun (B : Option Addr) (w' : World) h1 h2 => small_any A B c 2 l [a, b] hl (by unfold maxLen; simp) hg hgab w' h1 h2)
  simp only [List.length_cons, List.length_nil] at GS
  have hlc := hA.2
  unfold actCells
  cases hsm : smallB l [a, b] with
  | false =>
    rw [hsm] at GS
    go_enter Tryz.func5, Tryz.ntmps5
    have HS := Lib.hid (ap_begin hA hopa hopb)
    obtain ⟨y0, y1, y2, y3, y4, y5⟩ := act_cells HS.out.pa
    obtain ⟨z0, z1, z2, z3, z4, z5⟩ := act_cells HS.out.pb
    have HL := Lib.hid (acts_two _ a b HS.out.oa HS.out.ob)
    have hsz : ((w.alloc (.cells (actCells a).toArray 38)).alloc (.cells (actCells b).toArray 38)).heap.size = w.heap.size + 1 + 1 := by simp
    rw [hsz] at HL
    have hb := (Below.refl ((w.alloc (.cells #[.int .i64 a.kind, .int .i64 a.id, .int .i64 a.parent, .string (bstr a.name), .bool a.dir, .slice a.opsA a.ops.length a.opsC] 38)).alloc (.cells #[.int .i64 b.kind, .int .i64 b.id, .int .i64 b.parent, .string (bstr b.name), .bool b.dir, .slice b.opsA b.ops.length b.opsC] 38)).heap.size ((w.alloc (.cells #[.int .i64 a.kind, .int .i64 a.id, .int .i64 a.parent, .string (bstr a.name), .bool a.dir, .slice a.opsA a.ops.length a.opsC] 38)).alloc (.cells #[.int .i64 b.kind, .int .i64 b.id, .int .i64 b.parent, .string (bstr b.name), .bool b.dir, .slice b.opsA b.ops.length b.opsC] 38))).alloc (Nat.le_refl _) (.cells (actCells a ++ actCells b).toArray 38)
    replace HS := Lib.hid (HS.out.below hb)
    clear hb hsz
    unfold actCells at y0 y1 y2 y3 y4 y5 z0 z1 z2 z3 z4 z5
    go_wp2_with fail
    refine (GS.out _ _ HS.out.nodes.1 HL.out).mono ?_
    rintro e x1 ⟨rfl, hb⟩
    replace HS := Lib.hid (HS.out.below hb)
    clear HL
    clear hb
    go_wp2_with fail
    refine (GA.out _).mono ?_
    rintro e x2 ⟨rfl, hb⟩
    replace HS := Lib.hid (HS.out.below hb)
    clear hb
    go_wp2
    go_ret
    exact ⟨rfl, HS.out.bel⟩

  | true =>
    rw [hsm] at GS
    obtain ⟨hwt, hwa, _⟩ := small_yes hsm
    have hslim := wt_slim hwt
    have hgd := nodes_guard hwt
    have hka := acts_guard hgab hwa a (by simp)
    have hkb := acts_guard hgab hwa b (by simp)
    clear hsm hwt hwa hgab
    by_cases hS : SoundN l
    · have GL := Lib.hid (fun w hA => load_yes A c l (by omega) hlc hg hslim hS w hA)
      have hM := TreeM.of hS
      obtain ⟨X, u, hXu⟩ : ∃ X u, rDo l a = (X, u) := ⟨_, _, rfl⟩
      obtain ⟨Y, v, hYv⟩ : ∃ Y v, rDo l b = (Y, v) := ⟨_, _, rfl⟩
      have hX : TreeM X := by
        have := hM.does a
        rw [hXu] at this
        exact this
      have hY : TreeM Y := by
        have := hM.does b
        rw [hYv] at this
        exact this
      have GC := Lib.hid (fun g w h => copy_any g l hM w h)
      have GE := Lib.hid (fun g k w h1 h2 => same_any g k l l hM hM w h1 h2)
      rw [sameN_self] at GE
      have GDa := Lib.hid (fun w hop hC => kNDo hM hka A c w hop hC)
      have GDb := Lib.hid (fun w hop hC => kNDo hM hkb A c w hop hC)
      rw [hXu] at GDa
      rw [hYv] at GDb
      unfold actCells at GDa GDb
      have GTa := Lib.hid (fun g w h hop => tDo (g := g) hXu hM hka w h hop)
      have GTb := Lib.hid (fun g w h hop => tDo (g := g) hYv hM hkb w h hop)
      have hXl := hX.len
      have GN := Lib.hid (fun p w h => nodes_any p X (by omega) hX.slim w h)
      have GG := Lib.hid (fun w => get_none w)
      have GP := Lib.hid (fun w => path_nil 1 (by decide) w)
      have GF := Lib.hid (fun w => find_none w)
      have GZ := Lib.hid (fun w => do_nil a w)
      unfold actCells at GZ
      have GW1 := Lib.hid (fun g A c w h hA => shows_yes g X hX A c w h hA)
      have GW2 := Lib.hid (fun g A c w h hA => shows_yes g Y hY A c w h hA)
      have GQ := Lib.hid (fun g k w h1 h2 => same_any g k X Y hX hY w h1 h2)
      have GR := Lib.hid (fun A B ca cb w h1 h2 => kSame hX hY A B ca cb w h1 h2)
      have GN0 := Lib.hid (fun w => nodes_none w)
      have GK0 := Lib.hid (fun w => kids_none w)
      generalize sameN X Y = B at GQ GR
      clear hg hS hX hY hka hkb hXu hYv hslim hgd
      by_cases k1 : a.kind < 1
      · rw [if_pos (.inl k1)] at GZ
        cases B with
        | true =>
          go_enter Tryz.func5, Tryz.ntmps5
          have HS := Lib.hid (ap_begin hA hopa hopb)
          obtain ⟨y0, y1, y2, y3, y4, y5⟩ := act_cells HS.out.pa
          obtain ⟨z0, z1, z2, z3, z4, z5⟩ := act_cells HS.out.pb
          have HL := Lib.hid (acts_two _ a b HS.out.oa HS.out.ob)
          have hsz : ((w.alloc (.cells (actCells a).toArray 38)).alloc (.cells (actCells b).toArray 38)).heap.size = w.heap.size + 1 + 1 := by simp
          rw [hsz] at HL
          have hb := (Below.refl ((w.alloc (.cells #[.int .i64 a.kind, .int .i64 a.id, .int .i64 a.parent, .string (bstr a.name), .bool a.dir, .slice a.opsA a.ops.length a.opsC] 38)).alloc (.cells #[.int .i64 b.kind, .int .i64 b.id, .int .i64 b.parent, .string (bstr b.name), .bool b.dir, .slice b.opsA b.ops.length b.opsC] 38)).heap.size ((w.alloc (.cells #[.int .i64 a.kind, .int .i64 a.id, .int .i64 a.parent, .string (bstr a.name), .bool a.dir, .slice a.opsA a.ops.length a.opsC] 38)).alloc (.cells #[.int .i64 b.kind, .int .i64 b.id, .int .i64 b.parent, .string (bstr b.name), .bool b.dir, .slice b.opsA b.ops.length b.opsC] 38))).alloc (Nat.le_refl _) (.cells (actCells a ++ actCells b).toArray 38)
          replace HS := Lib.hid (HS.out.below hb)
          clear hb hsz
          unfold actCells at y0 y1 y2 y3 y4 y5 z0 z1 z2 z3 z4 z5
          go_wp2_with fail
          refine (GS.out _ _ HS.out.nodes.1 HL.out).mono ?_
          rintro e x1 ⟨rfl, hb⟩
          replace HS := Lib.hid (HS.out.below hb)
          clear HL
          clear hb
          go_wp2_with fail
          have HS1 := HS
          refine (GL.out _ HS.out.nodes.1).mono ?_
          rintro e x2 ⟨g, rfl, hgw, ht, hb⟩
          replace HS := Lib.hid (HS.out.below hb)
          have hp := (Array.getElem?_eq_some_iff.1 HS1.out.pa).1
          have hq := (Array.getElem?_eq_some_iff.1 HS1.out.pb).1
          have hwx := HS1.out.bel.size
          have hgl := ht.lt
          have HT := Lib.hid ht
          clear hb ht
          go_wp2_with fail
          refine (GC.out g _ HT.out).mono ?_
          rintro e x3 ⟨k, rfl, hkw, ht, hb⟩
          replace HS := Lib.hid (HS.out.below hb)
          replace HT := Lib.hid (HT.out.below hb)
          have HU := Lib.hid ht
          clear hb ht
          go_wp2_with fail
          refine (GE.out g k _ HT.out HU.out).mono ?_
          rintro e x4 ⟨rfl, hb⟩
          replace HS := Lib.hid (HS.out.below hb)
          replace HT := Lib.hid (HT.out.below hb)
          replace HU := Lib.hid (HU.out.below hb)
          clear hb
          obtain ⟨y0, y1, y2, y3, y4, y5⟩ := act_cells HS.out.pa
          obtain ⟨z0, z1, z2, z3, z4, z5⟩ := act_cells HS.out.pb
          go_wp2_with fail
          refine (GDa.out _ HS.out.oa HS.out.nodes).mono ?_
          rintro e x5 ⟨⟨⟨A1, c1, rfl, hn⟩, _⟩, hb⟩
          replace HS := Lib.hid (HS.out.below hb)
          replace HT := Lib.hid (HT.out.below hb)
          replace HU := Lib.hid (HU.out.below hb)
          have HN := Lib.hid hn
          clear hb hn
          obtain ⟨y0, y1, y2, y3, y4, y5⟩ := act_cells HS.out.pa
          obtain ⟨z0, z1, z2, z3, z4, z5⟩ := act_cells HS.out.pb
          go_wp2_with fail
          refine (GDb.out _ HS.out.ob HS.out.nodes).mono ?_
          rintro e x6 ⟨⟨⟨A2, c2, rfl, hn⟩, _⟩, hb⟩
          replace HS := Lib.hid (HS.out.below hb)
          replace HT := Lib.hid (HT.out.below hb)
          replace HU := Lib.hid (HU.out.below hb)
          replace HN := Lib.hid (HN.out.below hb)
          replace HS : Hid (ApT w w.heap.size (w.heap.size + 1) a b l A c g k l l A1 c1 X A2 c2 Y x6) := ⟨HS.out, HT.out, HU.out, HN.out, hn, by omega, by omega, by omega, by omega, by omega, by omega, by omega⟩
          clear HT HU HN HS1
          clear hb hn hp hq hwx hgl hgw hkw
          obtain ⟨y0, y1, y2, y3, y4, y5⟩ := act_cells HS.out.base.pa
          obtain ⟨z0, z1, z2, z3, z4, z5⟩ := act_cells HS.out.base.pb
          go_wp2_with fail
          refine (GTa.out _ _ HS.out.one HS.out.base.oa).mono ?_
          rintro e x7 ⟨rfl, ht, ho⟩
          replace HS := Lib.hid (HS.out.put1 ht ho)
          clear ht ho
          obtain ⟨y0, y1, y2, y3, y4, y5⟩ := act_cells HS.out.base.pa
          obtain ⟨z0, z1, z2, z3, z4, z5⟩ := act_cells HS.out.base.pb
          go_wp2_with fail
          refine (GTb.out _ _ HS.out.two HS.out.base.ob).mono ?_
          rintro e x8 ⟨rfl, ht, ho⟩
          replace HS := Lib.hid (HS.out.put2 ht ho)
          clear ht ho
          go_wp2_with fail
          refine (GN.out _ _ HS.out.one.ptr).mono ?_
          rintro e x9 ⟨A14, c14, rfl, hn, hb⟩
          have HR : Hid (∀ (h : 0 < X.length), ∃ gN, A14 = some ⟨gN, 0, none⟩ ∧ x8.heap.size ≤ gN ∧ RowN x9 gN X.length) := fun h => RowN.of_own hn h
          have HB := Lib.hid hb
          clear hb hn
          go_wp2
          go_loopw [15] (fun s15 wr => ∃ i : Nat, i ≤ X.length ∧ s15 = .int .i64 (i : Int) ∧ Hid (Below x8.heap.size x8 wr) ∧ Hid (∀ (h : 0 < X.length), ∃ gN, A14 = some ⟨gN, 0, none⟩ ∧ x8.heap.size ≤ gN ∧ RowN wr gN X.length)) (fun s15 _ => X.length - (intOf s15).toNat)
          case atStart => exact ⟨0, Nat.zero_le _, rfl, HB, HR⟩
          case round =>
            clear HB HR
            obtain ⟨i, hi, rfl, HB, HR⟩ := hrel
            by_cases hlt : i < X.length
            · have hltI : (i : Int) < (X.length : Int) := by omega
              obtain ⟨gN, rfl, hgN, hrow⟩ := HR.out (by omega)
              obtain ⟨⟨v, hv⟩, hf⟩ := hrow.at_ hlt
              have HRO := Lib.hid hrow
              clear HR hrow
              go_wp2_with fail
              go_roundw
              case rel => exact ⟨i + 1, by omega, by go_num, Lib.hid (HB.out.setCell (p := ⟨gN, i * 5 + 2, none⟩) hgN _), fun _ => ⟨gN, rfl, hgN, HRO.out.set _ _⟩⟩
              case measure => simp [intOf]; omega
            · obtain rfl : i = X.length := by omega
              obtain ⟨w5, hw5⟩ : ∃ x, x = wr := ⟨wr, rfl⟩
              subst hw5
              replace HS := Lib.hid (HS.out.below HB.out)
              clear HB HR
              go_wp2_with fail
              refine (GG.out _).mono ?_
              rintro e x10 ⟨rfl, hb⟩
              replace HS := Lib.hid (HS.out.below hb)
              clear hb
              have hb := (Below.refl x10.heap.size x10).alloc (Nat.le_refl _) (.cells #[.int .i64 0, .int .i64 0, .string (bstr []), .bool false, .string (bstr [])] 44)
              replace HS := Lib.hid (HS.out.below hb)
              clear hb
              go_wp2_with fail
              refine (GP.out _).mono ?_
              rintro e x11 ⟨rfl, hb⟩
              replace HS := Lib.hid (HS.out.below hb)
              clear hb
              go_wp2_with fail
              refine (GF.out _).mono ?_
              rintro e x12 ⟨rfl, hb⟩
              replace HS := Lib.hid (HS.out.below hb)
              clear hb
              obtain ⟨y0, y1, y2, y3, y4, y5⟩ := act_cells HS.out.base.pa
              obtain ⟨z0, z1, z2, z3, z4, z5⟩ := act_cells HS.out.base.pb
              go_wp2_with fail
              refine (GZ.out _).mono ?_
              rintro e x13 ⟨rfl, hb⟩
              replace HS := Lib.hid (HS.out.below hb)
              clear hb
              obtain ⟨y0, y1, y2, y3, y4, y5⟩ := act_cells HS.out.base.pa
              obtain ⟨z0, z1, z2, z3, z4, z5⟩ := act_cells HS.out.base.pb
              go_wp2_with fail
              refine (GW1.out g _ _ _ HS.out.one HS.out.n1.1).mono ?_
              rintro e x14 ⟨rfl, hb⟩
              replace HS := Lib.hid (HS.out.below hb)
              clear hb
              go_wp2_with fail
              refine (GW2.out k _ _ _ HS.out.two HS.out.n2.1).mono ?_
              rintro e x15 ⟨rfl, hb⟩
              replace HS := Lib.hid (HS.out.below hb)
              clear hb
              go_wp2_with fail
              refine (GQ.out g k _ HS.out.one HS.out.two).mono ?_
              rintro e x16 ⟨rfl, hb⟩
              replace HS := Lib.hid (HS.out.below hb)
              clear hb
              go_wp2_with fail
              refine (GR.out _ _ _ _ _ HS.out.n1.1 HS.out.n2.1).mono ?_
              rintro e x17 ⟨rfl, hb⟩
              replace HS := Lib.hid (HS.out.below hb)
              clear hb
              go_wp2_with fail
              refine (copy_nil _).mono ?_
              rintro e x18 ⟨rfl, rfl⟩
              go_wp2_with fail
              refine (GN0.out _).mono ?_
              rintro e x19 ⟨A19, c19, rfl, _, hb⟩
              replace HS := Lib.hid (HS.out.below hb)
              clear hb
              go_wp2_with fail
              refine (GK0.out _).mono ?_
              rintro e x20 ⟨A20, c20, rfl, _, hb⟩
              replace HS := Lib.hid (HS.out.below hb)
              clear hb
              go_wp2_with fail
              refine (same_nil _).mono ?_
              rintro e x21 ⟨rfl, rfl⟩
              go_wp2_with fail
              refine (same_one g _).mono ?_
              rintro e x22 ⟨rfl, rfl⟩
              go_wp2_with fail
              refine (GA.out _).mono ?_
              rintro e x23 ⟨rfl, hb⟩
              replace HS := Lib.hid (HS.out.below hb)
              clear hb
              go_wp2
              go_ret
              exact ⟨rfl, HS.out.base.bel⟩

        | false =>
          go_enter Tryz.func5, Tryz.ntmps5
          have HS := Lib.hid (ap_begin hA hopa hopb)
          obtain ⟨y0, y1, y2, y3, y4, y5⟩ := act_cells HS.out.pa
          obtain ⟨z0, z1, z2, z3, z4, z5⟩ := act_cells HS.out.pb
          have HL := Lib.hid (acts_two _ a b HS.out.oa HS.out.ob)
          have hsz : ((w.alloc (.cells (actCells a).toArray 38)).alloc (.cells (actCells b).toArray 38)).heap.size = w.heap.size + 1 + 1 := by simp
          rw [hsz] at HL
          have hb := (Below.refl ((w.alloc (.cells #[.int .i64 a.kind, .int .i64 a.id, .int .i64 a.parent, .string (bstr a.name), .bool a.dir, .slice a.opsA a.ops.length a.opsC] 38)).alloc (.cells #[.int .i64 b.kind, .int .i64 b.id, .int .i64 b.parent, .string (bstr b.name), .bool b.dir, .slice b.opsA b.ops.length b.opsC] 38)).heap.size ((w.alloc (.cells #[.int .i64 a.kind, .int .i64 a.id, .int .i64 a.parent, .string (bstr a.name), .bool a.dir, .slice a.opsA a.ops.length a.opsC] 38)).alloc (.cells #[.int .i64 b.kind, .int .i64 b.id, .int .i64 b.parent, .string (bstr b.name), .bool b.dir, .slice b.opsA b.ops.length b.opsC] 38))).alloc (Nat.le_refl _) (.cells (actCells a ++ actCells b).toArray 38)
          replace HS := Lib.hid (HS.out.below hb)
          clear hb hsz
          unfold actCells at y0 y1 y2 y3 y4 y5 z0 z1 z2 z3 z4 z5
          go_wp2_with fail
          refine (GS.out _ _ HS.out.nodes.1 HL.out).mono ?_
          rintro e x1 ⟨rfl, hb⟩
          replace HS := Lib.hid (HS.out.below hb)
          clear HL
          clear hb
          go_wp2_with fail
          have HS1 := HS
          refine (GL.out _ HS.out.nodes.1).mono ?_
          rintro e x2 ⟨g, rfl, hgw, ht, hb⟩
          replace HS := Lib.hid (HS.out.below hb)
          have hp := (Array.getElem?_eq_some_iff.1 HS1.out.pa).1
          have hq := (Array.getElem?_eq_some_iff.1 HS1.out.pb).1
          have hwx := HS1.out.bel.size
          have hgl := ht.lt
          have HT := Lib.hid ht
          clear hb ht
          go_wp2_with fail
          refine (GC.out g _ HT.out).mono ?_
          rintro e x3 ⟨k, rfl, hkw, ht, hb⟩
          replace HS := Lib.hid (HS.out.below hb)
          replace HT := Lib.hid (HT.out.below hb)
          have HU := Lib.hid ht
          clear hb ht
          go_wp2_with fail
          refine (GE.out g k _ HT.out HU.out).mono ?_
          rintro e x4 ⟨rfl, hb⟩
          replace HS := Lib.hid (HS.out.below hb)
          replace HT := Lib.hid (HT.out.below hb)
          replace HU := Lib.hid (HU.out.below hb)
          clear hb
          obtain ⟨y0, y1, y2, y3, y4, y5⟩ := act_cells HS.out.pa
          obtain ⟨z0, z1, z2, z3, z4, z5⟩ := act_cells HS.out.pb
          go_wp2_with fail
          refine (GDa.out _ HS.out.oa HS.out.nodes).mono ?_
          rintro e x5 ⟨⟨⟨A1, c1, rfl, hn⟩, _⟩, hb⟩
          replace HS := Lib.hid (HS.out.below hb)
          replace HT := Lib.hid (HT.out.below hb)
          replace HU := Lib.hid (HU.out.below hb)
          have HN := Lib.hid hn
          clear hb hn
          obtain ⟨y0, y1, y2, y3, y4, y5⟩ := act_cells HS.out.pa
          obtain ⟨z0, z1, z2, z3, z4, z5⟩ := act_cells HS.out.pb
          go_wp2_with fail
          refine (GDb.out _ HS.out.ob HS.out.nodes).mono ?_
          rintro e x6 ⟨⟨⟨A2, c2, rfl, hn⟩, _⟩, hb⟩
          replace HS := Lib.hid (HS.out.below hb)
          replace HT := Lib.hid (HT.out.below hb)
          replace HU := Lib.hid (HU.out.below hb)
          replace HN := Lib.hid (HN.out.below hb)
          replace HS : Hid (ApT w w.heap.size (w.heap.size + 1) a b l A c g k l l A1 c1 X A2 c2 Y x6) := ⟨HS.out, HT.out, HU.out, HN.out, hn, by omega, by omega, by omega, by omega, by omega, by omega, by omega⟩
          clear HT HU HN HS1
          clear hb hn hp hq hwx hgl hgw hkw
          obtain ⟨y0, y1, y2, y3, y4, y5⟩ := act_cells HS.out.base.pa
          obtain ⟨z0, z1, z2, z3, z4, z5⟩ := act_cells HS.out.base.pb
          go_wp2_with fail
          refine (GTa.out _ _ HS.out.one HS.out.base.oa).mono ?_
          rintro e x7 ⟨rfl, ht, ho⟩
          replace HS := Lib.hid (HS.out.put1 ht ho)
          clear ht ho
          obtain ⟨y0, y1, y2, y3, y4, y5⟩ := act_cells HS.out.base.pa
          obtain ⟨z0, z1, z2, z3, z4, z5⟩ := act_cells HS.out.base.pb
          go_wp2_with fail
          refine (GTb.out _ _ HS.out.two HS.out.base.ob).mono ?_
          rintro e x8 ⟨rfl, ht, ho⟩
          replace HS := Lib.hid (HS.out.put2 ht ho)
          clear ht ho
          go_wp2_with fail
          refine (GN.out _ _ HS.out.one.ptr).mono ?_
          rintro e x9 ⟨A14, c14, rfl, hn, hb⟩
          have HR : Hid (∀ (h : 0 < X.length), ∃ gN, A14 = some ⟨gN, 0, none⟩ ∧ x8.heap.size ≤ gN ∧ RowN x9 gN X.length) := fun h => RowN.of_own hn h
          have HB := Lib.hid hb
          clear hb hn
          go_wp2
          go_loopw [15] (fun s15 wr => ∃ i : Nat, i ≤ X.length ∧ s15 = .int .i64 (i : Int) ∧ Hid (Below x8.heap.size x8 wr) ∧ Hid (∀ (h : 0 < X.length), ∃ gN, A14 = some ⟨gN, 0, none⟩ ∧ x8.heap.size ≤ gN ∧ RowN wr gN X.length)) (fun s15 _ => X.length - (intOf s15).toNat)
          case atStart => exact ⟨0, Nat.zero_le _, rfl, HB, HR⟩
          case round =>
            clear HB HR
            obtain ⟨i, hi, rfl, HB, HR⟩ := hrel
            by_cases hlt : i < X.length
            · have hltI : (i : Int) < (X.length : Int) := by omega
              obtain ⟨gN, rfl, hgN, hrow⟩ := HR.out (by omega)
              obtain ⟨⟨v, hv⟩, hf⟩ := hrow.at_ hlt
              have HRO := Lib.hid hrow
              clear HR hrow
              go_wp2_with fail
              go_roundw
              case rel => exact ⟨i + 1, by omega, by go_num, Lib.hid (HB.out.setCell (p := ⟨gN, i * 5 + 2, none⟩) hgN _), fun _ => ⟨gN, rfl, hgN, HRO.out.set _ _⟩⟩
              case measure => simp [intOf]; omega
            · obtain rfl : i = X.length := by omega
              obtain ⟨w5, hw5⟩ : ∃ x, x = wr := ⟨wr, rfl⟩
              subst hw5
              replace HS := Lib.hid (HS.out.below HB.out)
              clear HB HR
              go_wp2_with fail
              refine (GG.out _).mono ?_
              rintro e x10 ⟨rfl, hb⟩
              replace HS := Lib.hid (HS.out.below hb)
              clear hb
              have hb := (Below.refl x10.heap.size x10).alloc (Nat.le_refl _) (.cells #[.int .i64 0, .int .i64 0, .string (bstr []), .bool false, .string (bstr [])] 44)
              replace HS := Lib.hid (HS.out.below hb)
              clear hb
              go_wp2_with fail
              refine (GP.out _).mono ?_
              rintro e x11 ⟨rfl, hb⟩
              replace HS := Lib.hid (HS.out.below hb)
              clear hb
              go_wp2_with fail
              refine (GF.out _).mono ?_
              rintro e x12 ⟨rfl, hb⟩
              replace HS := Lib.hid (HS.out.below hb)
              clear hb
              obtain ⟨y0, y1, y2, y3, y4, y5⟩ := act_cells HS.out.base.pa
              obtain ⟨z0, z1, z2, z3, z4, z5⟩ := act_cells HS.out.base.pb
              go_wp2_with fail
              refine (GZ.out _).mono ?_
              rintro e x13 ⟨rfl, hb⟩
              replace HS := Lib.hid (HS.out.below hb)
              clear hb
              obtain ⟨y0, y1, y2, y3, y4, y5⟩ := act_cells HS.out.base.pa
              obtain ⟨z0, z1, z2, z3, z4, z5⟩ := act_cells HS.out.base.pb
              go_wp2_with fail
              refine (GW1.out g _ _ _ HS.out.one HS.out.n1.1).mono ?_
              rintro e x14 ⟨rfl, hb⟩
              replace HS := Lib.hid (HS.out.below hb)
              clear hb
              go_wp2_with fail
              refine (GW2.out k _ _ _ HS.out.two HS.out.n2.1).mono ?_
              rintro e x15 ⟨rfl, hb⟩
              replace HS := Lib.hid (HS.out.below hb)
              clear hb
              go_wp2_with fail
              refine (GQ.out g k _ HS.out.one HS.out.two).mono ?_
              rintro e x16 ⟨rfl, hb⟩
              replace HS := Lib.hid (HS.out.below hb)
              clear hb
              go_wp2_with fail
              refine (GR.out _ _ _ _ _ HS.out.n1.1 HS.out.n2.1).mono ?_
              rintro e x17 ⟨rfl, hb⟩
              replace HS := Lib.hid (HS.out.below hb)
              clear hb
              go_wp2_with fail
              refine (copy_nil _).mono ?_
              rintro e x18 ⟨rfl, rfl⟩
              go_wp2_with fail
              refine (GN0.out _).mono ?_
              rintro e x19 ⟨A19, c19, rfl, _, hb⟩
              replace HS := Lib.hid (HS.out.below hb)
              clear hb
              go_wp2_with fail
              refine (GK0.out _).mono ?_
              rintro e x20 ⟨A20, c20, rfl, _, hb⟩
              replace HS := Lib.hid (HS.out.below hb)
              clear hb
              go_wp2_with fail
              refine (same_nil _).mono ?_
              rintro e x21 ⟨rfl, rfl⟩
              go_wp2_with fail
              refine (same_one g _).mono ?_
              rintro e x22 ⟨rfl, rfl⟩
              go_wp2_with fail
              refine (GA.out _).mono ?_
              rintro e x23 ⟨rfl, hb⟩
              replace HS := Lib.hid (HS.out.below hb)
              clear hb
              go_wp2
              go_ret
              exact ⟨rfl, HS.out.base.bel⟩

      · by_cases k4 : 4 < a.kind
        · rw [if_pos (.inr k4)] at GZ
          cases B with
          | true =>
            go_enter Tryz.func5, Tryz.ntmps5
            have HS := Lib.hid (ap_begin hA hopa hopb)
            obtain ⟨y0, y1, y2, y3, y4, y5⟩ := act_cells HS.out.pa
            obtain ⟨z0, z1, z2, z3, z4, z5⟩ := act_cells HS.out.pb
            have HL := Lib.hid (acts_two _ a b HS.out.oa HS.out.ob)
            have hsz : ((w.alloc (.cells (actCells a).toArray 38)).alloc (.cells (actCells b).toArray 38)).heap.size = w.heap.size + 1 + 1 := by simp
            rw [hsz] at HL
            have hb := (Below.refl ((w.alloc (.cells #[.int .i64 a.kind, .int .i64 a.id, .int .i64 a.parent, .string (bstr a.name), .bool a.dir, .slice a.opsA a.ops.length a.opsC] 38)).alloc (.cells #[.int .i64 b.kind, .int .i64 b.id, .int .i64 b.parent, .string (bstr b.name), .bool b.dir, .slice b.opsA b.ops.length b.opsC] 38)).heap.size ((w.alloc (.cells #[.int .i64 a.kind, .int .i64 a.id, .int .i64 a.parent, .string (bstr a.name), .bool a.dir, .slice a.opsA a.ops.length a.opsC] 38)).alloc (.cells #[.int .i64 b.kind, .int .i64 b.id, .int .i64 b.parent, .string (bstr b.name), .bool b.dir, .slice b.opsA b.ops.length b.opsC] 38))).alloc (Nat.le_refl _) (.cells (actCells a ++ actCells b).toArray 38)
            replace HS := Lib.hid (HS.out.below hb)
            clear hb hsz
            unfold actCells at y0 y1 y2 y3 y4 y5 z0 z1 z2 z3 z4 z5
            go_wp2_with fail
            refine (GS.out _ _ HS.out.nodes.1 HL.out).mono ?_
            rintro e x1 ⟨rfl, hb⟩
            replace HS := Lib.hid (HS.out.below hb)
            clear HL
            clear hb
            go_wp2_with fail
            have HS1 := HS
            refine (GL.out _ HS.out.nodes.1).mono ?_
            rintro e x2 ⟨g, rfl, hgw, ht, hb⟩
            replace HS := Lib.hid (HS.out.below hb)
            have hp := (Array.getElem?_eq_some_iff.1 HS1.out.pa).1
            have hq := (Array.getElem?_eq_some_iff.1 HS1.out.pb).1
            have hwx := HS1.out.bel.size
            have hgl := ht.lt
            have HT := Lib.hid ht
            clear hb ht
            go_wp2_with fail
            refine (GC.out g _ HT.out).mono ?_
            rintro e x3 ⟨k, rfl, hkw, ht, hb⟩
            replace HS := Lib.hid (HS.out.below hb)
            replace HT := Lib.hid (HT.out.below hb)
            have HU := Lib.hid ht
            clear hb ht
            go_wp2_with fail
            refine (GE.out g k _ HT.out HU.out).mono ?_
            rintro e x4 ⟨rfl, hb⟩
            replace HS := Lib.hid (HS.out.below hb)
            replace HT := Lib.hid (HT.out.below hb)
            replace HU := Lib.hid (HU.out.below hb)
            clear hb
            obtain ⟨y0, y1, y2, y3, y4, y5⟩ := act_cells HS.out.pa
            obtain ⟨z0, z1, z2, z3, z4, z5⟩ := act_cells HS.out.pb
            go_wp2_with fail
            refine (GDa.out _ HS.out.oa HS.out.nodes).mono ?_
            rintro e x5 ⟨⟨⟨A1, c1, rfl, hn⟩, _⟩, hb⟩
            replace HS := Lib.hid (HS.out.below hb)
            replace HT := Lib.hid (HT.out.below hb)
            replace HU := Lib.hid (HU.out.below hb)
            have HN := Lib.hid hn
            clear hb hn
            obtain ⟨y0, y1, y2, y3, y4, y5⟩ := act_cells HS.out.pa
            obtain ⟨z0, z1, z2, z3, z4, z5⟩ := act_cells HS.out.pb
            go_wp2_with fail
            refine (GDb.out _ HS.out.ob HS.out.nodes).mono ?_
            rintro e x6 ⟨⟨⟨A2, c2, rfl, hn⟩, _⟩, hb⟩
            replace HS := Lib.hid (HS.out.below hb)
            replace HT := Lib.hid (HT.out.below hb)
            replace HU := Lib.hid (HU.out.below hb)
            replace HN := Lib.hid (HN.out.below hb)
            replace HS : Hid (ApT w w.heap.size (w.heap.size + 1) a b l A c g k l l A1 c1 X A2 c2 Y x6) := ⟨HS.out, HT.out, HU.out, HN.out, hn, by omega, by omega, by omega, by omega, by omega, by omega, by omega⟩
            clear HT HU HN HS1
            clear hb hn hp hq hwx hgl hgw hkw
            obtain ⟨y0, y1, y2, y3, y4, y5⟩ := act_cells HS.out.base.pa
            obtain ⟨z0, z1, z2, z3, z4, z5⟩ := act_cells HS.out.base.pb
            go_wp2_with fail
            refine (GTa.out _ _ HS.out.one HS.out.base.oa).mono ?_
            rintro e x7 ⟨rfl, ht, ho⟩
            replace HS := Lib.hid (HS.out.put1 ht ho)
            clear ht ho
            obtain ⟨y0, y1, y2, y3, y4, y5⟩ := act_cells HS.out.base.pa
            obtain ⟨z0, z1, z2, z3, z4, z5⟩ := act_cells HS.out.base.pb
            go_wp2_with fail
            refine (GTb.out _ _ HS.out.two HS.out.base.ob).mono ?_
            rintro e x8 ⟨rfl, ht, ho⟩
            replace HS := Lib.hid (HS.out.put2 ht ho)
            clear ht ho
            go_wp2_with fail
            refine (GN.out _ _ HS.out.one.ptr).mono ?_
            rintro e x9 ⟨A14, c14, rfl, hn, hb⟩
            have HR : Hid (∀ (h : 0 < X.length), ∃ gN, A14 = some ⟨gN, 0, none⟩ ∧ x8.heap.size ≤ gN ∧ RowN x9 gN X.length) := fun h => RowN.of_own hn h
            have HB := Lib.hid hb
            clear hb hn
            go_wp2
            go_loopw [15] (fun s15 wr => ∃ i : Nat, i ≤ X.length ∧ s15 = .int .i64 (i : Int) ∧ Hid (Below x8.heap.size x8 wr) ∧ Hid (∀ (h : 0 < X.length), ∃ gN, A14 = some ⟨gN, 0, none⟩ ∧ x8.heap.size ≤ gN ∧ RowN wr gN X.length)) (fun s15 _ => X.length - (intOf s15).toNat)
            case atStart => exact ⟨0, Nat.zero_le _, rfl, HB, HR⟩
            case round =>
              clear HB HR
              obtain ⟨i, hi, rfl, HB, HR⟩ := hrel
              by_cases hlt : i < X.length
              · have hltI : (i : Int) < (X.length : Int) := by omega
                obtain ⟨gN, rfl, hgN, hrow⟩ := HR.out (by omega)
                obtain ⟨⟨v, hv⟩, hf⟩ := hrow.at_ hlt
                have HRO := Lib.hid hrow
                clear HR hrow
                go_wp2_with fail
                go_roundw
                case rel => exact ⟨i + 1, by omega, by go_num, Lib.hid (HB.out.setCell (p := ⟨gN, i * 5 + 2, none⟩) hgN _), fun _ => ⟨gN, rfl, hgN, HRO.out.set _ _⟩⟩
                case measure => simp [intOf]; omega
              · obtain rfl : i = X.length := by omega
                obtain ⟨w5, hw5⟩ : ∃ x, x = wr := ⟨wr, rfl⟩
                subst hw5
                replace HS := Lib.hid (HS.out.below HB.out)
                clear HB HR
                go_wp2_with fail
                refine (GG.out _).mono ?_
                rintro e x10 ⟨rfl, hb⟩
                replace HS := Lib.hid (HS.out.below hb)
                clear hb
                have hb := (Below.refl x10.heap.size x10).alloc (Nat.le_refl _) (.cells #[.int .i64 0, .int .i64 0, .string (bstr []), .bool false, .string (bstr [])] 44)
                replace HS := Lib.hid (HS.out.below hb)
                clear hb
                go_wp2_with fail
                refine (GP.out _).mono ?_
                rintro e x11 ⟨rfl, hb⟩
                replace HS := Lib.hid (HS.out.below hb)
                clear hb
                go_wp2_with fail
                refine (GF.out _).mono ?_
                rintro e x12 ⟨rfl, hb⟩
                replace HS := Lib.hid (HS.out.below hb)
                clear hb
                obtain ⟨y0, y1, y2, y3, y4, y5⟩ := act_cells HS.out.base.pa
                obtain ⟨z0, z1, z2, z3, z4, z5⟩ := act_cells HS.out.base.pb
                go_wp2_with fail
                refine (GZ.out _).mono ?_
                rintro e x13 ⟨rfl, hb⟩
                replace HS := Lib.hid (HS.out.below hb)
                clear hb
                obtain ⟨y0, y1, y2, y3, y4, y5⟩ := act_cells HS.out.base.pa
                obtain ⟨z0, z1, z2, z3, z4, z5⟩ := act_cells HS.out.base.pb
                go_wp2_with fail
                refine (GW1.out g _ _ _ HS.out.one HS.out.n1.1).mono ?_
                rintro e x14 ⟨rfl, hb⟩
                replace HS := Lib.hid (HS.out.below hb)
                clear hb
                go_wp2_with fail
                refine (GW2.out k _ _ _ HS.out.two HS.out.n2.1).mono ?_
                rintro e x15 ⟨rfl, hb⟩
                replace HS := Lib.hid (HS.out.below hb)
                clear hb
                go_wp2_with fail
                refine (GQ.out g k _ HS.out.one HS.out.two).mono ?_
                rintro e x16 ⟨rfl, hb⟩
                replace HS := Lib.hid (HS.out.below hb)
                clear hb
                go_wp2_with fail
                refine (GR.out _ _ _ _ _ HS.out.n1.1 HS.out.n2.1).mono ?_
                rintro e x17 ⟨rfl, hb⟩
                replace HS := Lib.hid (HS.out.below hb)
                clear hb
                go_wp2_with fail
                refine (copy_nil _).mono ?_
                rintro e x18 ⟨rfl, rfl⟩
                go_wp2_with fail
                refine (GN0.out _).mono ?_
                rintro e x19 ⟨A19, c19, rfl, _, hb⟩
                replace HS := Lib.hid (HS.out.below hb)
                clear hb
                go_wp2_with fail
                refine (GK0.out _).mono ?_
                rintro e x20 ⟨A20, c20, rfl, _, hb⟩
                replace HS := Lib.hid (HS.out.below hb)
                clear hb
                go_wp2_with fail
                refine (same_nil _).mono ?_
                rintro e x21 ⟨rfl, rfl⟩
                go_wp2_with fail
                refine (same_one g _).mono ?_
                rintro e x22 ⟨rfl, rfl⟩
                go_wp2_with fail
                refine (GA.out _).mono ?_
                rintro e x23 ⟨rfl, hb⟩
                replace HS := Lib.hid (HS.out.below hb)
                clear hb
                go_wp2
                go_ret
                exact ⟨rfl, HS.out.base.bel⟩

          | false =>
            go_enter Tryz.func5, Tryz.ntmps5
            have HS := Lib.hid (ap_begin hA hopa hopb)
            obtain ⟨y0, y1, y2, y3, y4, y5⟩ := act_cells HS.out.pa
            obtain ⟨z0, z1, z2, z3, z4, z5⟩ := act_cells HS.out.pb
            have HL := Lib.hid (acts_two _ a b HS.out.oa HS.out.ob)
            have hsz : ((w.alloc (.cells (actCells a).toArray 38)).alloc (.cells (actCells b).toArray 38)).heap.size = w.heap.size + 1 + 1 := by simp
            rw [hsz] at HL
            have hb := (Below.refl ((w.alloc (.cells #[.int .i64 a.kind, .int .i64 a.id, .int .i64 a.parent, .string (bstr a.name), .bool a.dir, .slice a.opsA a.ops.length a.opsC] 38)).alloc (.cells #[.int .i64 b.kind, .int .i64 b.id, .int .i64 b.parent, .string (bstr b.name), .bool b.dir, .slice b.opsA b.ops.length b.opsC] 38)).heap.size ((w.alloc (.cells #[.int .i64 a.kind, .int .i64 a.id, .int .i64 a.parent, .string (bstr a.name), .bool a.dir, .slice a.opsA a.ops.length a.opsC] 38)).alloc (.cells #[.int .i64 b.kind, .int .i64 b.id, .int .i64 b.parent, .string (bstr b.name), .bool b.dir, .slice b.opsA b.ops.length b.opsC] 38))).alloc (Nat.le_refl _) (.cells (actCells a ++ actCells b).toArray 38)
            replace HS := Lib.hid (HS.out.below hb)
            clear hb hsz
            unfold actCells at y0 y1 y2 y3 y4 y5 z0 z1 z2 z3 z4 z5
            go_wp2_with fail
            refine (GS.out _ _ HS.out.nodes.1 HL.out).mono ?_
            rintro e x1 ⟨rfl, hb⟩
            replace HS := Lib.hid (HS.out.below hb)
            clear HL
            clear hb
            go_wp2_with fail
            have HS1 := HS
            refine (GL.out _ HS.out.nodes.1).mono ?_
            rintro e x2 ⟨g, rfl, hgw, ht, hb⟩
            replace HS := Lib.hid (HS.out.below hb)
            have hp := (Array.getElem?_eq_some_iff.1 HS1.out.pa).1
            have hq := (Array.getElem?_eq_some_iff.1 HS1.out.pb).1
            have hwx := HS1.out.bel.size
            have hgl := ht.lt
            have HT := Lib.hid ht
            clear hb ht
            go_wp2_with fail
            refine (GC.out g _ HT.out).mono ?_
            rintro e x3 ⟨k, rfl, hkw, ht, hb⟩
            replace HS := Lib.hid (HS.out.below hb)
            replace HT := Lib.hid (HT.out.below hb)
            have HU := Lib.hid ht
            clear hb ht
            go_wp2_with fail
            refine (GE.out g k _ HT.out HU.out).mono ?_
            rintro e x4 ⟨rfl, hb⟩
            replace HS := Lib.hid (HS.out.below hb)
            replace HT := Lib.hid (HT.out.below hb)
            replace HU := Lib.hid (HU.out.below hb)
            clear hb
            obtain ⟨y0, y1, y2, y3, y4, y5⟩ := act_cells HS.out.pa
            obtain ⟨z0, z1, z2, z3, z4, z5⟩ := act_cells HS.out.pb
            go_wp2_with fail
            refine (GDa.out _ HS.out.oa HS.out.nodes).mono ?_
            rintro e x5 ⟨⟨⟨A1, c1, rfl, hn⟩, _⟩, hb⟩
            replace HS := Lib.hid (HS.out.below hb)
            replace HT := Lib.hid (HT.out.below hb)
            replace HU := Lib.hid (HU.out.below hb)
            have HN := Lib.hid hn
            clear hb hn
            obtain ⟨y0, y1, y2, y3, y4, y5⟩ := act_cells HS.out.pa
            obtain ⟨z0, z1, z2, z3, z4, z5⟩ := act_cells HS.out.pb
            go_wp2_with fail
            refine (GDb.out _ HS.out.ob HS.out.nodes).mono ?_
            rintro e x6 ⟨⟨⟨A2, c2, rfl, hn⟩, _⟩, hb⟩
            replace HS := Lib.hid (HS.out.below hb)
            replace HT := Lib.hid (HT.out.below hb)
            replace HU := Lib.hid (HU.out.below hb)
            replace HN := Lib.hid (HN.out.below hb)
            replace HS : Hid (ApT w w.heap.size (w.heap.size + 1) a b l A c g k l l A1 c1 X A2 c2 Y x6) := ⟨HS.out, HT.out, HU.out, HN.out, hn, by omega, by omega, by omega, by omega, by omega, by omega, by omega⟩
            clear HT HU HN HS1
            clear hb hn hp hq hwx hgl hgw hkw
            obtain ⟨y0, y1, y2, y3, y4, y5⟩ := act_cells HS.out.base.pa
            obtain ⟨z0, z1, z2, z3, z4, z5⟩ := act_cells HS.out.base.pb
            go_wp2_with fail
            refine (GTa.out _ _ HS.out.one HS.out.base.oa).mono ?_
            rintro e x7 ⟨rfl, ht, ho⟩
            replace HS := Lib.hid (HS.out.put1 ht ho)
            clear ht ho
            obtain ⟨y0, y1, y2, y3, y4, y5⟩ := act_cells HS.out.base.pa
            obtain ⟨z0, z1, z2, z3, z4, z5⟩ := act_cells HS.out.base.pb
            go_wp2_with fail
            refine (GTb.out _ _ HS.out.two HS.out.base.ob).mono ?_
            rintro e x8 ⟨rfl, ht, ho⟩
            replace HS := Lib.hid (HS.out.put2 ht ho)
            clear ht ho
            go_wp2_with fail
            refine (GN.out _ _ HS.out.one.ptr).mono ?_
            rintro e x9 ⟨A14, c14, rfl, hn, hb⟩
            have HR : Hid (∀ (h : 0 < X.length), ∃ gN, A14 = some ⟨gN, 0, none⟩ ∧ x8.heap.size ≤ gN ∧ RowN x9 gN X.length) := fun h => RowN.of_own hn h
            have HB := Lib.hid hb
            clear hb hn
            go_wp2
            go_loopw [15] (fun s15 wr => ∃ i : Nat, i ≤ X.length ∧ s15 = .int .i64 (i : Int) ∧ Hid (Below x8.heap.size x8 wr) ∧ Hid (∀ (h : 0 < X.length), ∃ gN, A14 = some ⟨gN, 0, none⟩ ∧ x8.heap.size ≤ gN ∧ RowN wr gN X.length)) (fun s15 _ => X.length - (intOf s15).toNat)
            case atStart => exact ⟨0, Nat.zero_le _, rfl, HB, HR⟩
            case round =>
              clear HB HR
              obtain ⟨i, hi, rfl, HB, HR⟩ := hrel
              by_cases hlt : i < X.length
              · have hltI : (i : Int) < (X.length : Int) := by omega
                obtain ⟨gN, rfl, hgN, hrow⟩ := HR.out (by omega)
                obtain ⟨⟨v, hv⟩, hf⟩ := hrow.at_ hlt
                have HRO := Lib.hid hrow
                clear HR hrow
                go_wp2_with fail
                go_roundw
                case rel => exact ⟨i + 1, by omega, by go_num, Lib.hid (HB.out.setCell (p := ⟨gN, i * 5 + 2, none⟩) hgN _), fun _ => ⟨gN, rfl, hgN, HRO.out.set _ _⟩⟩
                case measure => simp [intOf]; omega
              · obtain rfl : i = X.length := by omega
                obtain ⟨w5, hw5⟩ : ∃ x, x = wr := ⟨wr, rfl⟩
                subst hw5
                replace HS := Lib.hid (HS.out.below HB.out)
                clear HB HR
                go_wp2_with fail
                refine (GG.out _).mono ?_
                rintro e x10 ⟨rfl, hb⟩
                replace HS := Lib.hid (HS.out.below hb)
                clear hb
                have hb := (Below.refl x10.heap.size x10).alloc (Nat.le_refl _) (.cells #[.int .i64 0, .int .i64 0, .string (bstr []), .bool false, .string (bstr [])] 44)
                replace HS := Lib.hid (HS.out.below hb)
                clear hb
                go_wp2_with fail
                refine (GP.out _).mono ?_
                rintro e x11 ⟨rfl, hb⟩
                replace HS := Lib.hid (HS.out.below hb)
                clear hb
                go_wp2_with fail
                refine (GF.out _).mono ?_
                rintro e x12 ⟨rfl, hb⟩
                replace HS := Lib.hid (HS.out.below hb)
                clear hb
                obtain ⟨y0, y1, y2, y3, y4, y5⟩ := act_cells HS.out.base.pa
                obtain ⟨z0, z1, z2, z3, z4, z5⟩ := act_cells HS.out.base.pb
                go_wp2_with fail
                refine (GZ.out _).mono ?_
                rintro e x13 ⟨rfl, hb⟩
                replace HS := Lib.hid (HS.out.below hb)
                clear hb
                obtain ⟨y0, y1, y2, y3, y4, y5⟩ := act_cells HS.out.base.pa
                obtain ⟨z0, z1, z2, z3, z4, z5⟩ := act_cells HS.out.base.pb
                go_wp2_with fail
                refine (GW1.out g _ _ _ HS.out.one HS.out.n1.1).mono ?_
                rintro e x14 ⟨rfl, hb⟩
                replace HS := Lib.hid (HS.out.below hb)
                clear hb
                go_wp2_with fail
                refine (GW2.out k _ _ _ HS.out.two HS.out.n2.1).mono ?_
                rintro e x15 ⟨rfl, hb⟩
                replace HS := Lib.hid (HS.out.below hb)
                clear hb
                go_wp2_with fail
                refine (GQ.out g k _ HS.out.one HS.out.two).mono ?_
                rintro e x16 ⟨rfl, hb⟩
                replace HS := Lib.hid (HS.out.below hb)
                clear hb
                go_wp2_with fail
                refine (GR.out _ _ _ _ _ HS.out.n1.1 HS.out.n2.1).mono ?_
                rintro e x17 ⟨rfl, hb⟩
                replace HS := Lib.hid (HS.out.below hb)
                clear hb
                go_wp2_with fail
                refine (copy_nil _).mono ?_
                rintro e x18 ⟨rfl, rfl⟩
                go_wp2_with fail
                refine (GN0.out _).mono ?_
                rintro e x19 ⟨A19, c19, rfl, _, hb⟩
                replace HS := Lib.hid (HS.out.below hb)
                clear hb
                go_wp2_with fail
                refine (GK0.out _).mono ?_
                rintro e x20 ⟨A20, c20, rfl, _, hb⟩
                replace HS := Lib.hid (HS.out.below hb)
                clear hb
                go_wp2_with fail
                refine (same_nil _).mono ?_
                rintro e x21 ⟨rfl, rfl⟩
                go_wp2_with fail
                refine (same_one g _).mono ?_
                rintro e x22 ⟨rfl, rfl⟩
                go_wp2_with fail
                refine (GA.out _).mono ?_
                rintro e x23 ⟨rfl, hb⟩
                replace HS := Lib.hid (HS.out.below hb)
                clear hb
                go_wp2
                go_ret
                exact ⟨rfl, HS.out.base.bel⟩

        · rw [if_neg (by omega)] at GZ
          cases B with
          | true =>
            go_enter Tryz.func5, Tryz.ntmps5
            have HS := Lib.hid (ap_begin hA hopa hopb)
            obtain ⟨y0, y1, y2, y3, y4, y5⟩ := act_cells HS.out.pa
            obtain ⟨z0, z1, z2, z3, z4, z5⟩ := act_cells HS.out.pb
            have HL := Lib.hid (acts_two _ a b HS.out.oa HS.out.ob)
            have hsz : ((w.alloc (.cells (actCells a).toArray 38)).alloc (.cells (actCells b).toArray 38)).heap.size = w.heap.size + 1 + 1 := by simp
            rw [hsz] at HL
            have hb := (Below.refl ((w.alloc (.cells #[.int .i64 a.kind, .int .i64 a.id, .int .i64 a.parent, .string (bstr a.name), .bool a.dir, .slice a.opsA a.ops.length a.opsC] 38)).alloc (.cells #[.int .i64 b.kind, .int .i64 b.id, .int .i64 b.parent, .string (bstr b.name), .bool b.dir, .slice b.opsA b.ops.length b.opsC] 38)).heap.size ((w.alloc (.cells #[.int .i64 a.kind, .int .i64 a.id, .int .i64 a.parent, .string (bstr a.name), .bool a.dir, .slice a.opsA a.ops.length a.opsC] 38)).alloc (.cells #[.int .i64 b.kind, .int .i64 b.id, .int .i64 b.parent, .string (bstr b.name), .bool b.dir, .slice b.opsA b.ops.length b.opsC] 38))).alloc (Nat.le_refl _) (.cells (actCells a ++ actCells b).toArray 38)
            replace HS := Lib.hid (HS.out.below hb)
            clear hb hsz
            unfold actCells at y0 y1 y2 y3 y4 y5 z0 z1 z2 z3 z4 z5
            go_wp2_with fail
            refine (GS.out _ _ HS.out.nodes.1 HL.out).mono ?_
            rintro e x1 ⟨rfl, hb⟩
            replace HS := Lib.hid (HS.out.below hb)
            clear HL
            clear hb
            go_wp2_with fail
            have HS1 := HS
            refine (GL.out _ HS.out.nodes.1).mono ?_
            rintro e x2 ⟨g, rfl, hgw, ht, hb⟩
            replace HS := Lib.hid (HS.out.below hb)
            have hp := (Array.getElem?_eq_some_iff.1 HS1.out.pa).1
            have hq := (Array.getElem?_eq_some_iff.1 HS1.out.pb).1
            have hwx := HS1.out.bel.size
            have hgl := ht.lt
            have HT := Lib.hid ht
            clear hb ht
            go_wp2_with fail
            refine (GC.out g _ HT.out).mono ?_
            rintro e x3 ⟨k, rfl, hkw, ht, hb⟩
            replace HS := Lib.hid (HS.out.below hb)
            replace HT := Lib.hid (HT.out.below hb)
            have HU := Lib.hid ht
            clear hb ht
            go_wp2_with fail
            refine (GE.out g k _ HT.out HU.out).mono ?_
            rintro e x4 ⟨rfl, hb⟩
            replace HS := Lib.hid (HS.out.below hb)
            replace HT := Lib.hid (HT.out.below hb)
            replace HU := Lib.hid (HU.out.below hb)
            clear hb
            obtain ⟨y0, y1, y2, y3, y4, y5⟩ := act_cells HS.out.pa
            obtain ⟨z0, z1, z2, z3, z4, z5⟩ := act_cells HS.out.pb
            go_wp2_with fail
            refine (GDa.out _ HS.out.oa HS.out.nodes).mono ?_
            rintro e x5 ⟨⟨⟨A1, c1, rfl, hn⟩, _⟩, hb⟩
            replace HS := Lib.hid (HS.out.below hb)
            replace HT := Lib.hid (HT.out.below hb)
            replace HU := Lib.hid (HU.out.below hb)
            have HN := Lib.hid hn
            clear hb hn
            obtain ⟨y0, y1, y2, y3, y4, y5⟩ := act_cells HS.out.pa
            obtain ⟨z0, z1, z2, z3, z4, z5⟩ := act_cells HS.out.pb
            go_wp2_with fail
            refine (GDb.out _ HS.out.ob HS.out.nodes).mono ?_
            rintro e x6 ⟨⟨⟨A2, c2, rfl, hn⟩, _⟩, hb⟩
            replace HS := Lib.hid (HS.out.below hb)
            replace HT := Lib.hid (HT.out.below hb)
            replace HU := Lib.hid (HU.out.below hb)
            replace HN := Lib.hid (HN.out.below hb)
            replace HS : Hid (ApT w w.heap.size (w.heap.size + 1) a b l A c g k l l A1 c1 X A2 c2 Y x6) := ⟨HS.out, HT.out, HU.out, HN.out, hn, by omega, by omega, by omega, by omega, by omega, by omega, by omega⟩
            clear HT HU HN HS1
            clear hb hn hp hq hwx hgl hgw hkw
            obtain ⟨y0, y1, y2, y3, y4, y5⟩ := act_cells HS.out.base.pa
            obtain ⟨z0, z1, z2, z3, z4, z5⟩ := act_cells HS.out.base.pb
            go_wp2_with fail
            refine (GTa.out _ _ HS.out.one HS.out.base.oa).mono ?_
            rintro e x7 ⟨rfl, ht, ho⟩
            replace HS := Lib.hid (HS.out.put1 ht ho)
            clear ht ho
            obtain ⟨y0, y1, y2, y3, y4, y5⟩ := act_cells HS.out.base.pa
            obtain ⟨z0, z1, z2, z3, z4, z5⟩ := act_cells HS.out.base.pb
            go_wp2_with fail
            refine (GTb.out _ _ HS.out.two HS.out.base.ob).mono ?_
            rintro e x8 ⟨rfl, ht, ho⟩
            replace HS := Lib.hid (HS.out.put2 ht ho)
            clear ht ho
            go_wp2_with fail
            refine (GN.out _ _ HS.out.one.ptr).mono ?_
            rintro e x9 ⟨A14, c14, rfl, hn, hb⟩
            have HR : Hid (∀ (h : 0 < X.length), ∃ gN, A14 = some ⟨gN, 0, none⟩ ∧ x8.heap.size ≤ gN ∧ RowN x9 gN X.length) := fun h => RowN.of_own hn h
            have HB := Lib.hid hb
            clear hb hn
            go_wp2
            go_loopw [15] (fun s15 wr => ∃ i : Nat, i ≤ X.length ∧ s15 = .int .i64 (i : Int) ∧ Hid (Below x8.heap.size x8 wr) ∧ Hid (∀ (h : 0 < X.length), ∃ gN, A14 = some ⟨gN, 0, none⟩ ∧ x8.heap.size ≤ gN ∧ RowN wr gN X.length)) (fun s15 _ => X.length - (intOf s15).toNat)
            case atStart => exact ⟨0, Nat.zero_le _, rfl, HB, HR⟩
            case round =>
              clear HB HR
              obtain ⟨i, hi, rfl, HB, HR⟩ := hrel
              by_cases hlt : i < X.length
              · have hltI : (i : Int) < (X.length : Int) := by omega
                obtain ⟨gN, rfl, hgN, hrow⟩ := HR.out (by omega)
                obtain ⟨⟨v, hv⟩, hf⟩ := hrow.at_ hlt
                have HRO := Lib.hid hrow
                clear HR hrow
                go_wp2_with fail
                go_roundw
                case rel => exact ⟨i + 1, by omega, by go_num, Lib.hid (HB.out.setCell (p := ⟨gN, i * 5 + 2, none⟩) hgN _), fun _ => ⟨gN, rfl, hgN, HRO.out.set _ _⟩⟩
                case measure => simp [intOf]; omega
              · obtain rfl : i = X.length := by omega
                obtain ⟨w5, hw5⟩ : ∃ x, x = wr := ⟨wr, rfl⟩
                subst hw5
                replace HS := Lib.hid (HS.out.below HB.out)
                clear HB HR
                go_wp2_with fail
                refine (GG.out _).mono ?_
                rintro e x10 ⟨rfl, hb⟩
                replace HS := Lib.hid (HS.out.below hb)
                clear hb
                have hb := (Below.refl x10.heap.size x10).alloc (Nat.le_refl _) (.cells #[.int .i64 0, .int .i64 0, .string (bstr []), .bool false, .string (bstr [])] 44)
                replace HS := Lib.hid (HS.out.below hb)
                clear hb
                go_wp2_with fail
                refine (GP.out _).mono ?_
                rintro e x11 ⟨rfl, hb⟩
                replace HS := Lib.hid (HS.out.below hb)
                clear hb
                go_wp2_with fail
                refine (GF.out _).mono ?_
                rintro e x12 ⟨rfl, hb⟩
                replace HS := Lib.hid (HS.out.below hb)
                clear hb
                obtain ⟨y0, y1, y2, y3, y4, y5⟩ := act_cells HS.out.base.pa
                obtain ⟨z0, z1, z2, z3, z4, z5⟩ := act_cells HS.out.base.pb
                go_wp2_with fail
                refine (GZ.out _).mono ?_
                rintro e x13 ⟨rfl, hb⟩
                replace HS := Lib.hid (HS.out.below hb)
                clear hb
                obtain ⟨y0, y1, y2, y3, y4, y5⟩ := act_cells HS.out.base.pa
                obtain ⟨z0, z1, z2, z3, z4, z5⟩ := act_cells HS.out.base.pb
                go_wp2_with fail
                refine (GW1.out g _ _ _ HS.out.one HS.out.n1.1).mono ?_
                rintro e x14 ⟨rfl, hb⟩
                replace HS := Lib.hid (HS.out.below hb)
                clear hb
                go_wp2_with fail
                refine (GW2.out k _ _ _ HS.out.two HS.out.n2.1).mono ?_
                rintro e x15 ⟨rfl, hb⟩
                replace HS := Lib.hid (HS.out.below hb)
                clear hb
                go_wp2_with fail
                refine (GQ.out g k _ HS.out.one HS.out.two).mono ?_
                rintro e x16 ⟨rfl, hb⟩
                replace HS := Lib.hid (HS.out.below hb)
                clear hb
                go_wp2_with fail
                refine (GR.out _ _ _ _ _ HS.out.n1.1 HS.out.n2.1).mono ?_
                rintro e x17 ⟨rfl, hb⟩
                replace HS := Lib.hid (HS.out.below hb)
                clear hb
                go_wp2_with fail
                refine (copy_nil _).mono ?_
                rintro e x18 ⟨rfl, rfl⟩
                go_wp2_with fail
                refine (GN0.out _).mono ?_
                rintro e x19 ⟨A19, c19, rfl, _, hb⟩
                replace HS := Lib.hid (HS.out.below hb)
                clear hb
                go_wp2_with fail
                refine (GK0.out _).mono ?_
                rintro e x20 ⟨A20, c20, rfl, _, hb⟩
                replace HS := Lib.hid (HS.out.below hb)
                clear hb
                go_wp2_with fail
                refine (same_nil _).mono ?_
                rintro e x21 ⟨rfl, rfl⟩
                go_wp2_with fail
                refine (same_one g _).mono ?_
                rintro e x22 ⟨rfl, rfl⟩
                go_wp2_with fail
                refine (GA.out _).mono ?_
                rintro e x23 ⟨rfl, hb⟩
                replace HS := Lib.hid (HS.out.below hb)
                clear hb
                go_wp2
                go_ret
                exact ⟨rfl, HS.out.base.bel⟩

          | false =>
            go_enter Tryz.func5, Tryz.ntmps5
            have HS := Lib.hid (ap_begin hA hopa hopb)
            obtain ⟨y0, y1, y2, y3, y4, y5⟩ := act_cells HS.out.pa
            obtain ⟨z0, z1, z2, z3, z4, z5⟩ := act_cells HS.out.pb
            have HL := Lib.hid (acts_two _ a b HS.out.oa HS.out.ob)
            have hsz : ((w.alloc (.cells (actCells a).toArray 38)).alloc (.cells (actCells b).toArray 38)).heap.size = w.heap.size + 1 + 1 := by simp
            rw [hsz] at HL
            have hb := (Below.refl ((w.alloc (.cells #[.int .i64 a.kind, .int .i64 a.id, .int .i64 a.parent, .string (bstr a.name), .bool a.dir, .slice a.opsA a.ops.length a.opsC] 38)).alloc (.cells #[.int .i64 b.kind, .int .i64 b.id, .int .i64 b.parent, .string (bstr b.name), .bool b.dir, .slice b.opsA b.ops.length b.opsC] 38)).heap.size ((w.alloc (.cells #[.int .i64 a.kind, .int .i64 a.id, .int .i64 a.parent, .string (bstr a.name), .bool a.dir, .slice a.opsA a.ops.length a.opsC] 38)).alloc (.cells #[.int .i64 b.kind, .int .i64 b.id, .int .i64 b.parent, .string (bstr b.name), .bool b.dir, .slice b.opsA b.ops.length b.opsC] 38))).alloc (Nat.le_refl _) (.cells (actCells a ++ actCells b).toArray 38)
            replace HS := Lib.hid (HS.out.below hb)
            clear hb hsz
            unfold actCells at y0 y1 y2 y3 y4 y5 z0 z1 z2 z3 z4 z5
            go_wp2_with fail
            refine (GS.out _ _ HS.out.nodes.1 HL.out).mono ?_
            rintro e x1 ⟨rfl, hb⟩
            replace HS := Lib.hid (HS.out.below hb)
            clear HL
            clear hb
            go_wp2_with fail
            have HS1 := HS
            refine (GL.out _ HS.out.nodes.1).mono ?_
            rintro e x2 ⟨g, rfl, hgw, ht, hb⟩
            replace HS := Lib.hid (HS.out.below hb)
            have hp := (Array.getElem?_eq_some_iff.1 HS1.out.pa).1
            have hq := (Array.getElem?_eq_some_iff.1 HS1.out.pb).1
            have hwx := HS1.out.bel.size
            have hgl := ht.lt
            have HT := Lib.hid ht
            clear hb ht
            go_wp2_with fail
            refine (GC.out g _ HT.out).mono ?_
            rintro e x3 ⟨k, rfl, hkw, ht, hb⟩
            replace HS := Lib.hid (HS.out.below hb)
            replace HT := Lib.hid (HT.out.below hb)
            have HU := Lib.hid ht
            clear hb ht
            go_wp2_with fail
            refine (GE.out g k _ HT.out HU.out).mono ?_
            rintro e x4 ⟨rfl, hb⟩
            replace HS := Lib.hid (HS.out.below hb)
            replace HT := Lib.hid (HT.out.below hb)
            replace HU := Lib.hid (HU.out.below hb)
            clear hb
            obtain ⟨y0, y1, y2, y3, y4, y5⟩ := act_cells HS.out.pa
            obtain ⟨z0, z1, z2, z3, z4, z5⟩ := act_cells HS.out.pb
            go_wp2_with fail
            refine (GDa.out _ HS.out.oa HS.out.nodes).mono ?_
            rintro e x5 ⟨⟨⟨A1, c1, rfl, hn⟩, _⟩, hb⟩
            replace HS := Lib.hid (HS.out.below hb)
            replace HT := Lib.hid (HT.out.below hb)
            replace HU := Lib.hid (HU.out.below hb)
            have HN := Lib.hid hn
            clear hb hn
            obtain ⟨y0, y1, y2, y3, y4, y5⟩ := act_cells HS.out.pa
            obtain ⟨z0, z1, z2, z3, z4, z5⟩ := act_cells HS.out.pb
            go_wp2_with fail
            refine (GDb.out _ HS.out.ob HS.out.nodes).mono ?_
            rintro e x6 ⟨⟨⟨A2, c2, rfl, hn⟩, _⟩, hb⟩
            replace HS := Lib.hid (HS.out.below hb)
            replace HT := Lib.hid (HT.out.below hb)
            replace HU := Lib.hid (HU.out.below hb)
            replace HN := Lib.hid (HN.out.below hb)
            replace HS : Hid (ApT w w.heap.size (w.heap.size + 1) a b l A c g k l l A1 c1 X A2 c2 Y x6) := ⟨HS.out, HT.out, HU.out, HN.out, hn, by omega, by omega, by omega, by omega, by omega, by omega, by omega⟩
            clear HT HU HN HS1
            clear hb hn hp hq hwx hgl hgw hkw
            obtain ⟨y0, y1, y2, y3, y4, y5⟩ := act_cells HS.out.base.pa
            obtain ⟨z0, z1, z2, z3, z4, z5⟩ := act_cells HS.out.base.pb
            go_wp2_with fail
            refine (GTa.out _ _ HS.out.one HS.out.base.oa).mono ?_
            rintro e x7 ⟨rfl, ht, ho⟩
            replace HS := Lib.hid (HS.out.put1 ht ho)
            clear ht ho
            obtain ⟨y0, y1, y2, y3, y4, y5⟩ := act_cells HS.out.base.pa
            obtain ⟨z0, z1, z2, z3, z4, z5⟩ := act_cells HS.out.base.pb
            go_wp2_with fail
            refine (GTb.out _ _ HS.out.two HS.out.base.ob).mono ?_
            rintro e x8 ⟨rfl, ht, ho⟩
            replace HS := Lib.hid (HS.out.put2 ht ho)
            clear ht ho
            go_wp2_with fail
            refine (GN.out _ _ HS.out.one.ptr).mono ?_
            rintro e x9 ⟨A14, c14, rfl, hn, hb⟩
            have HR : Hid (∀ (h : 0 < X.length), ∃ gN, A14 = some ⟨gN, 0, none⟩ ∧ x8.heap.size ≤ gN ∧ RowN x9 gN X.length) := fun h => RowN.of_own hn h
            have HB := Lib.hid hb
            clear hb hn
            go_wp2
            go_loopw [15] (fun s15 wr => ∃ i : Nat, i ≤ X.length ∧ s15 = .int .i64 (i : Int) ∧ Hid (Below x8.heap.size x8 wr) ∧ Hid (∀ (h : 0 < X.length), ∃ gN, A14 = some ⟨gN, 0, none⟩ ∧ x8.heap.size ≤ gN ∧ RowN wr gN X.length)) (fun s15 _ => X.length - (intOf s15).toNat)
            case atStart => exact ⟨0, Nat.zero_le _, rfl, HB, HR⟩
            case round =>
              clear HB HR
              obtain ⟨i, hi, rfl, HB, HR⟩ := hrel
              by_cases hlt : i < X.length
              · have hltI : (i : Int) < (X.length : Int) := by omega
                obtain ⟨gN, rfl, hgN, hrow⟩ := HR.out (by omega)
                obtain ⟨⟨v, hv⟩, hf⟩ := hrow.at_ hlt
                have HRO := Lib.hid hrow
                clear HR hrow
                go_wp2_with fail
                go_roundw
                case rel => exact ⟨i + 1, by omega, by go_num, Lib.hid (HB.out.setCell (p := ⟨gN, i * 5 + 2, none⟩) hgN _), fun _ => ⟨gN, rfl, hgN, HRO.out.set _ _⟩⟩
                case measure => simp [intOf]; omega
              · obtain rfl : i = X.length := by omega
                obtain ⟨w5, hw5⟩ : ∃ x, x = wr := ⟨wr, rfl⟩
                subst hw5
                replace HS := Lib.hid (HS.out.below HB.out)
                clear HB HR
                go_wp2_with fail
                refine (GG.out _).mono ?_
                rintro e x10 ⟨rfl, hb⟩
                replace HS := Lib.hid (HS.out.below hb)
                clear hb
                have hb := (Below.refl x10.heap.size x10).alloc (Nat.le_refl _) (.cells #[.int .i64 0, .int .i64 0, .string (bstr []), .bool false, .string (bstr [])] 44)
                replace HS := Lib.hid (HS.out.below hb)
                clear hb
                go_wp2_with fail
                refine (GP.out _).mono ?_
                rintro e x11 ⟨rfl, hb⟩
                replace HS := Lib.hid (HS.out.below hb)
                clear hb
                go_wp2_with fail
                refine (GF.out _).mono ?_
                rintro e x12 ⟨rfl, hb⟩
                replace HS := Lib.hid (HS.out.below hb)
                clear hb
                obtain ⟨y0, y1, y2, y3, y4, y5⟩ := act_cells HS.out.base.pa
                obtain ⟨z0, z1, z2, z3, z4, z5⟩ := act_cells HS.out.base.pb
                go_wp2_with fail
                refine (GZ.out _).mono ?_
                rintro e x13 ⟨rfl, hb⟩
                replace HS := Lib.hid (HS.out.below hb)
                clear hb
                obtain ⟨y0, y1, y2, y3, y4, y5⟩ := act_cells HS.out.base.pa
                obtain ⟨z0, z1, z2, z3, z4, z5⟩ := act_cells HS.out.base.pb
                go_wp2_with fail
                refine (GW1.out g _ _ _ HS.out.one HS.out.n1.1).mono ?_
                rintro e x14 ⟨rfl, hb⟩
                replace HS := Lib.hid (HS.out.below hb)
                clear hb
                go_wp2_with fail
                refine (GW2.out k _ _ _ HS.out.two HS.out.n2.1).mono ?_
                rintro e x15 ⟨rfl, hb⟩
                replace HS := Lib.hid (HS.out.below hb)
                clear hb
                go_wp2_with fail
                refine (GQ.out g k _ HS.out.one HS.out.two).mono ?_
                rintro e x16 ⟨rfl, hb⟩
                replace HS := Lib.hid (HS.out.below hb)
                clear hb
                go_wp2_with fail
                refine (GR.out _ _ _ _ _ HS.out.n1.1 HS.out.n2.1).mono ?_
                rintro e x17 ⟨rfl, hb⟩
                replace HS := Lib.hid (HS.out.below hb)
                clear hb
                go_wp2_with fail
                refine (copy_nil _).mono ?_
                rintro e x18 ⟨rfl, rfl⟩
                go_wp2_with fail
                refine (GN0.out _).mono ?_
                rintro e x19 ⟨A19, c19, rfl, _, hb⟩
                replace HS := Lib.hid (HS.out.below hb)
                clear hb
                go_wp2_with fail
                refine (GK0.out _).mono ?_
                rintro e x20 ⟨A20, c20, rfl, _, hb⟩
                replace HS := Lib.hid (HS.out.below hb)
                clear hb
                go_wp2_with fail
                refine (same_nil _).mono ?_
                rintro e x21 ⟨rfl, rfl⟩
                go_wp2_with fail
                refine (same_one g _).mono ?_
                rintro e x22 ⟨rfl, rfl⟩
                go_wp2_with fail
                refine (GA.out _).mono ?_
                rintro e x23 ⟨rfl, hb⟩
                replace HS := Lib.hid (HS.out.below hb)
                clear hb
                go_wp2
                go_ret
                exact ⟨rfl, HS.out.base.bel⟩

    · have GL := Lib.hid (fun w hA => load_no A c l (by omega) hlc hg hslim hS w hA)
      have GO := Lib.hid (fun w hA => refSound_any A c l (by omega) hg (fun y hy => by have := (hgd.2 y hy).2; omega) w hA)
      rw [rSound_no hS] at GO
      clear hg hS hka hkb
      go_enter Tryz.func5, Tryz.ntmps5
      have HS := Lib.hid (ap_begin hA hopa hopb)
      obtain ⟨y0, y1, y2, y3, y4, y5⟩ := act_cells HS.out.pa
      obtain ⟨z0, z1, z2, z3, z4, z5⟩ := act_cells HS.out.pb
      have HL := Lib.hid (acts_two _ a b HS.out.oa HS.out.ob)
      have hsz : ((w.alloc (.cells (actCells a).toArray 38)).alloc (.cells (actCells b).toArray 38)).heap.size = w.heap.size + 1 + 1 := by simp
      rw [hsz] at HL
      have hb := (Below.refl ((w.alloc (.cells #[.int .i64 a.kind, .int .i64 a.id, .int .i64 a.parent, .string (bstr a.name), .bool a.dir, .slice a.opsA a.ops.length a.opsC] 38)).alloc (.cells #[.int .i64 b.kind, .int .i64 b.id, .int .i64 b.parent, .string (bstr b.name), .bool b.dir, .slice b.opsA b.ops.length b.opsC] 38)).heap.size ((w.alloc (.cells #[.int .i64 a.kind, .int .i64 a.id, .int .i64 a.parent, .string (bstr a.name), .bool a.dir, .slice a.opsA a.ops.length a.opsC] 38)).alloc (.cells #[.int .i64 b.kind, .int .i64 b.id, .int .i64 b.parent, .string (bstr b.name), .bool b.dir, .slice b.opsA b.ops.length b.opsC] 38))).alloc (Nat.le_refl _) (.cells (actCells a ++ actCells b).toArray 38)
      replace HS := Lib.hid (HS.out.below hb)
      clear hb hsz
      unfold actCells at y0 y1 y2 y3 y4 y5 z0 z1 z2 z3 z4 z5
      go_wp2_with fail
      refine (GS.out _ _ HS.out.nodes.1 HL.out).mono ?_
      rintro e x1 ⟨rfl, hb⟩
      replace HS := Lib.hid (HS.out.below hb)
      clear HL
      clear hb
      go_wp2_with fail
      refine (GL.out _ HS.out.nodes.1).mono ?_
      rintro e x2 ⟨rfl, hb⟩
      replace HS := Lib.hid (HS.out.below hb)
      clear hb
      go_wp2_with fail
      refine (GO.out _ HS.out.nodes.1).mono ?_
      rintro e x3 ⟨rfl, hb⟩
      replace HS := Lib.hid (HS.out.below hb)
      clear hb
      go_wp2_with fail
      refine (GA.out _).mono ?_
      rintro e x4 ⟨rfl, hb⟩
      replace HS := Lib.hid (HS.out.below hb)
      clear hb
      go_wp2
      go_ret
      exact ⟨rfl, HS.out.bel⟩

end Go.Proofs.YtkckgchohnkkpaaGreatDoor

/- A copy goes on by itself; what was told may be changed behind it; trees are the same just if all their nodes are; nothing has nothing: it answers true and changes nothing: the card. No condition. -/
namespace Go.Proofs.YtkckgchohnkkpaaGreatDoor
open Go.ChangeShapes Go.WideShapes Go.ChangeAt Go.RowKit

set_option maxRecDepth 100000 in
theorem treeApart_contract (H : Type) (enc : TypeId × Value → H) (W : World) (base : Nat) (args : Array Value) (ds gs : List (DataW H)) (before : List MemPlace)
    (hval0 : ∀ (j : Nat) t v, Tryz.f5.params[j]? = some t → args[j]? = some v → Value.okWide Tryz.prog W .any base t v)
    (hW : DataW.Whole enc Tryz.prog Tryz.f5.params.toList Rows.treeApartSpec.vars false W args.toList ds gs before) :
    Calls Tryz.prog 5 args W fun e W' => ∃ v, e = .returned v ∧ Rows.treeApartSpec.post enc Tryz.prog Tryz.f5 false true false false W args v W' := by
  have hval : ∀ (j : Nat) t v, Tryz.f5.params[j]? = some t → args[j]? = some v → Value.okWide Tryz.prog W .any base t v := hval0
  have hW' := hW
  obtain ⟨p, q, hA0, hV, rfl, _, _⟩ := hW
  have hlt : ∀ x ∈ p ++ q, x.block < W.heap.size := fun x hx => hW'.lt x hx
  have hA : DataW.TrodAll enc Tryz.prog W 0 (fun _ => true) true Tryz.f5.params.toList args.toList ds p := hA0
  rw [Tryz.params5] at hA hval
  obtain ⟨v0, v1, v2, d0, d1, d2, p0, p1, p2, rfl, rfl, rfl, h0, h1, h2⟩ := trodAll_three hA
  obtain ⟨rfl, rfl⟩ := trodVars_none hV
  obtain ⟨A0, l0, c0, rfl, hat0, hg0, hlc0, hc0⟩ := open_nodes (hval 0 22 v0 rfl rfl) h0 (fun x hx => hlt x (by simp [hx]))
  have hl0 : l0.length ≤ maxLen := by omega
  obtain ⟨a1, rfl, hg1, hat1⟩ := open_act (hval 1 38 v1 rfl rfl) h1 (fun x hx => hlt x (by simp [hx]))
  obtain ⟨a2, rfl, hg2, hat2⟩ := open_act (hval 2 38 v2 rfl rfl) h2 (fun x hx => hlt x (by simp [hx]))
  clear hA0 hval0
  refine (treeApart_any A0 l0 c0 a1 a2 hl0 hg0 hg1 hg2 W ⟨hat0, hlc0⟩ hat1 hat2).mono fun e W' ⟨he, hb⟩ => ?_
  exact ⟨_, he, law_post law_laid (by kernel_rfl) (by kernel_rfl) Tryz.underlying4 rfl hW' rfl hb⟩

theorem treeApart_laid_met (os : Os) : laidMet Tryz.prog Rows.treeApartRow.laid ((laidWorld os).forCall (fun _ _ => 0) ⟨#[], #[.slice none 0 0, .agg #[.int .i64 0, .int .i64 0, .int .i64 0, .string { data := #[] }, .bool false, .slice none 0 0], .agg #[.int .i64 0, .int .i64 0, .int .i64 0, .string { data := #[] }, .bool false, .slice none 0 0]], []⟩).memory :=
  laidMet_of_run' 8 (by kernel_rfl) (by kernel_rfl)
theorem treeApart_reads (os : Os) {H : Type} (enc : TypeId × Value → H) : ∃ places, DataW.whole enc Tryz.prog ((laidWorld os).forCall (fun _ _ => 0) ⟨#[], #[.slice none 0 0, .agg #[.int .i64 0, .int .i64 0, .int .i64 0, .string { data := #[] }, .bool false, .slice none 0 0], .agg #[.int .i64 0, .int .i64 0, .int .i64 0, .string { data := #[] }, .bool false, .slice none 0 0]], []⟩).memory Tryz.f5.params.toList Rows.treeApartSpec.vars false (#[.slice none 0 0, .agg #[.int .i64 0, .int .i64 0, .int .i64 0, .string { data := #[] }, .bool false, .slice none 0 0], .agg #[.int .i64 0, .int .i64 0, .int .i64 0, .string { data := #[] }, .bool false, .slice none 0 0]] : Array Value).toList 8 = some ([.nil, .agg [.lit (.int .i64 0), .lit (.int .i64 0), .lit (.int .i64 0), .lit (.string []), .lit (.bool false), .nil], .agg [.lit (.int .i64 0), .lit (.int .i64 0), .lit (.int .i64 0), .lit (.string []), .lit (.bool false), .nil]], [], places) :=
  ⟨[], by kernel_rfl⟩
set_option maxRecDepth 100000 in
theorem treeApart_lifted (os : Os) (started : os.Started) (H : Type) (enc : TypeId × Value → H) (F : Stop.Interp) :
    ReturnsInHanded {} Tryz.checked os 5 .any ((OpenSpec.ofChange Rows.treeApartSpec).preRow enc Tryz.prog Tryz.f5 Rows.treeApartRow.domain false Rows.treeApartRow.laid) (((OpenSpec.ofChange Rows.treeApartSpec).at F).post enc Tryz.prog Tryz.f5 false true false false) := by
  obtain ⟨places, hx⟩ := treeApart_reads os enc
  refine returnsInHanded_of_row (C := Tryz.checked) (s := OpenSpec.ofChange Rows.treeApartSpec) law_own started (by kernel_rfl) Tryz.func5
    (witness_row_at (enc := enc) (C := Tryz.checked) false (laidWorld os) #[.slice none 0 0, .agg #[.int .i64 0, .int .i64 0, .int .i64 0, .string { data := #[] }, .bool false, .slice none 0 0], .agg #[.int .i64 0, .int .i64 0, .int .i64 0, .string { data := #[] }, .bool false, .slice none 0 0]] rfl (by kernel_rfl) (by kernel_rfl) (by kernel_rfl)
      (OpenSpec.preRow_of_cond 8 hx (by kernel_rfl) (fun k hk => by cases hk) (by kernel_rfl) (treeApart_laid_met os))) ?_
  intro W base args ds gs before hval hW _ _ _ _ _ _
  exact treeApart_contract H enc W base args ds gs before hval hW
theorem treeApart_said : Rows.TreeApartSaid :=
  OpenClaim.holds_of_cond 5 Tryz.f5 rfl rfl rfl rfl rfl rfl rfl ⟨rfl, rfl, rfl, rfl, rfl⟩ rfl rfl rfl rfl rfl (by kernel_rfl) Tryz.func5 (by kernel_rfl)
    (of_decide_eq_true (by kernel_rfl)) (by unfold Func.isWrapper; first | (rw [if_pos (by decide +kernel)]; kernel_rfl) | (rw [if_neg (by decide +kernel)]; exact ⟨rfl, rfl⟩))
    (fun os started H enc _ F => by rw [OpenClaim.pre_eq_preRow]; exact treeApart_lifted os started H enc F)
theorem treeApart_plain (f : FuncId) (fn : Func) (hf : Tryz.pinned.checked.prog.funcNamed "ropewalk/ropewalklaw13.TreeApart" = some f) (hfn : Tryz.pinned.checked.prog.funcs[f]? = some fn) :
    false = Tryz.pinned.checked.prog.looks [] ∧ ∀ (j : Nat) t, fn.params[j]? = some t → Tryz.pinned.checked.prog.wantsStandIn t = false := by
  obtain rfl : f = 5 := Option.some.inj ((show Tryz.prog.funcNamed "ropewalk/ropewalklaw13.TreeApart" = some 5 by kernel_rfl).symm.trans hf) |>.symm
  obtain rfl : fn = Tryz.f5 := (Option.some.inj (Tryz.func5.symm.trans hfn)).symm
  refine ⟨by kernel_rfl, fun j t ht => ?_⟩
  rw [Tryz.params5] at ht
  have hts : t = 22 ∨ t = 38 := by simpa using Array.mem_of_getElem? ht
  rcases hts with rfl | rfl
  · exact (show Tryz.prog.wantsStandIn 22 = false by kernel_rfl)
  · exact (show Tryz.prog.wantsStandIn 38 = false by kernel_rfl)
theorem treeApart_card : Rows.TreeApartCardSaid :=
  Claim7.holds_tied_plain_at .later [] _ _ _ _ treeApart_said (fun _ h => by cases h) (by kernel_rfl) (fun _ h => by cases h) treeApart_row_tie rfl ⟨rfl, rfl⟩ (by kernel_rfl) rfl treeApart_plain (by kernel_rfl)
end Go.Proofs.YtkckgchohnkkpaaGreatDoor
