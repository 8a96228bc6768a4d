/- The document's own SameOnes, of rows with the same fields. Condition: no slice is longer than memory. (Merged of 3 texts.) -/
import Derived.Test.YtnadhpajelkngaaKOne
import Derived.Test.YtnadhpajelkngaaKRow
import Derived.Laws.Rows
import Derived.Test.YtnadhpajelkngaaKRef
import Derived.Test.YtnadhpajelkngaaKBase
import Derived.BigRegion
import Derived.BigQuiet
/- The document's own Get of what was done. Condition: no slice is longer than memory. -/
namespace Go.Proofs.Ytnadhpajelkngaa
open Go.RowKit Go.Deep

/-- The first place of an ID; -1: there is none. -/
def getO (l : List OneV) (id : Int) : Int := match l.findIdx? (fun y => decide (y.k.id = id)) with | some k => (k : Int) | none => -1
theorem getO_hit {l : List OneV} {id : Int} {k : Nat} (hk : k < l.length) (h : l[k].k.id = id) (hb : ∀ (j : Nat) (hj : j < l.length), j < k → l[j].k.id ≠ id) : getO l id = (k : Int) := by
  have : l.findIdx? (fun y => decide (y.k.id = id)) = some k := by
    rw [List.findIdx?_eq_some_iff_getElem]
    exact ⟨hk, decide_eq_true h, fun j hj => by simpa using hb j (by omega) hj⟩
  unfold getO
  rw [this]
theorem getO_none {l : List OneV} {id : Int} (h : ∀ (j : Nat) (hj : j < l.length), l[j].k.id ≠ id) : getO l id = -1 := by
  have : l.findIdx? (fun y => decide (y.k.id = id)) = none := by
    rw [List.findIdx?_eq_none_iff]
    intro y hy
    obtain ⟨j, hj, e⟩ := List.getElem_of_mem hy
    rw [← e]
    simpa using h j hj
  unfold getO
  rw [this]
theorem getO_neg {l : List OneV} {id : Int} : getO l id < 0 ↔ ∀ y ∈ l, y.k.id ≠ id := by
  unfold getO
  cases h : l.findIdx? (fun y => decide (y.k.id = id)) with
  | none =>
    rw [List.findIdx?_eq_none_iff] at h
    exact ⟨fun _ y hy => by simpa using h y hy, fun _ => by decide⟩
  | some k =>
    rw [List.findIdx?_eq_some_iff_getElem] at h
    obtain ⟨hk, h1, _⟩ := h
    constructor
    · intro g
      have : (0 : Int) ≤ (k : Int) := by omega
      exact absurd g (by show ¬ (k : Int) < 0; omega)
    · intro g
      exact absurd (of_decide_eq_true h1) (g _ (List.getElem_mem hk))
set_option maxHeartbeats 1000000 in
set_option maxRecDepth 100000 in
theorem refGet_any (A : Option Addr) (c : Nat) (l : List OneV) (id : Int) (hl : l.length ≤ maxLen) (w : World) (hA : OnesAt w A l) :
    Calls Try.prog 17 #[.slice A l.length c, .int .i64 id] w fun e w' => e = .returned (.int .i64 (getO l id)) ∧ Below w.heap.size w w' := by
  unfold maxLen at hl
  have HA := Lib.hid hA; clear hA
  obtain ⟨T, HT⟩ : ∃ T, Hid (getO l id = T) := ⟨_, Lib.hid rfl⟩
  rw [HT.out]
  go_enter Try.func17, Try.ntmps17
  go_wp2
  go_loopw [5] (fun i wr => ∃ k : Nat, k ≤ l.length ∧ i = .int .i64 (k : Int) ∧ Hid (∀ (j : Nat) (hj : j < l.length), j < k → l[j].k.id ≠ id) ∧ Hid (Below w.heap.size w wr)) (fun i _ => l.length - (intOf i).toNat)
  case atStart => exact ⟨0, Nat.zero_le _, rfl, Lib.hid (fun j _ h => absurd h (by omega)), Lib.hid (Below.refl _ _)⟩
  case round =>
    obtain ⟨k, hk, rfl, HN, HB⟩ := hrel
    by_cases hlt : k < l.length
    · obtain ⟨b, off, rfl, _⟩ := HA.out.form (by omega)
      have hltI : (k : Int) < (l.length : Int) := by omega
      have z0 := ((HA.out.below HB.out).at_ hlt).1
      have HHIT : Hid (l[k].k.id = id → T = (k : Int)) := Lib.hid (fun h => by rw [← HT.out]; exact getO_hit hlt h fun j hj hjk => HN.out j hj hjk)
      have HNEXT : Hid (l[k].k.id ≠ id → ∀ (j : Nat) (hj : j < l.length), j < k + 1 → l[j].k.id ≠ id) := Lib.hid (fun h j hj hjk => by
        rcases Nat.lt_or_ge j k with g | g
        · exact HN.out j hj g
        · have e : j = k := by omega
          subst e
          exact h)
      generalize l[k].k.id = i at z0 HHIT HNEXT
      by_cases hi : i = id
      · have HF := Lib.hid (HHIT.out hi)
        have hib : (i == id) = true := by rw [hi]; simp
        clear hi
        go_wp2
        go_ret
        exact ⟨by rw [HF.out]; rfl, HB.out⟩
      · have HF := Lib.hid (HNEXT.out hi)
        have hib : (i == id) = false := beq_eq_false_iff_ne.2 hi
        clear hi
        go_wp2
        go_roundw
        case rel => exact ⟨k + 1, by omega, by go_num, HF, HB⟩
        case measure => simp [intOf]; omega
    · have HF : Hid (T = -1) := Lib.hid (by rw [← HT.out]; exact getO_none fun j hj => HN.out j hj (by omega))
      go_wp2
      go_ret
      exact ⟨by rw [HF.out]; rfl, HB.out⟩
end Go.Proofs.Ytnadhpajelkngaa

/- What the statements make of the document's own rows of what was done, and back: the same in another type. Condition: no more than 2^20 of them. -/
namespace Go.Proofs.Ytnadhpajelkngaa
open Go.RowKit Go.Deep

theorem OnesAt.of {w : World} {A : Option Addr} {l : List OneV} (h : OneRow w A l) (hc : ∀ y ∈ l, CompsAt w y.opsA y.k.ops) : OnesAt w A l := ⟨h, hc⟩

set_option maxHeartbeats 2000000 in
set_option maxRecDepth 100000 in
theorem made_any (A : Option Addr) (c : Nat) (l : List OneV) (hl : l.length ≤ 1048576) (w : World) (hA : OnesAt w A l) :
    Calls Try.prog 18 #[.slice A l.length c] w fun e w' => (∃ A' c', e = .returned (.slice A' l.length c') ∧ OnesAt w' A' l ∧ l.length ≤ c') ∧ Below w.heap.size w w' := by
  have HA := Lib.hid hA; clear hA
  go_enter Try.func18, Try.ntmps18
  go_wp2
  go_loopw [3, 4, 5] (fun s3 s4 s5 wr => ∃ (k : Nat) (A0 : Option Addr) (c0 : Nat), k ≤ l.length ∧ s3 = .slice A0 (l.take k).length c0 ∧ s4 = .int .i64 (k : Int) ∧ s5 = s5 ∧ Hid (OwnE wr w.heap.size A0 c0 (l.take k)) ∧ Hid (Below w.heap.size w wr)) (fun _ i _ _ => l.length - (intOf i).toNat)
  case atStart => exact ⟨0, none, 0, Nat.zero_le _, rfl, rfl, rfl, Lib.hid (OwnE.nil _ _), Lib.hid (Below.refl _ _)⟩
  case round =>
    obtain ⟨k, A0, c0, hk, rfl, rfl, _, HO, HB⟩ := hrel
    obtain ⟨wo, hwo⟩ : ∃ x, x = wr := ⟨wr, rfl⟩
    subst hwo
    by_cases hlt : k < l.length
    · obtain ⟨b, off, rfl, _⟩ := HA.out.form (by omega)
      have hltI : (k : Int) < (l.length : Int) := by omega
      obtain ⟨z0, z1, z2, z3, z4, z5, z6, z7⟩ := (HA.out.below HB.out).at_ hlt
      have HTK := Lib.hid (List.take_succ_eq_append_getElem hlt)
      have HLK : Hid ((l.take k).length = k) := Lib.hid (by rw [List.length_take]; omega)
      generalize l[k] = y at z0 z1 z2 z3 z4 z5 z6 z7 HTK
      generalize l.take k = P at HO HTK HLK ⊢
      obtain ⟨⟨yi, yo, ye, yr, yc, ym, yp, yn⟩, yA, yC⟩ := y
      simp only at z0 z1 z2 z3 z4 z5 z6 z7
      have HB1 : Hid (Below w.heap.size w (wo.alloc (.cells #[.int .i64 yi, .slice yA yo.length yC, .bool ye, .bool yr, .bool yc, .bool ym, .int .i64 yp, .string (bstr yn)] 50))) := Lib.hid (HB.out.alloc HB.out.size _)
      have HO1 : Hid (OwnE (wo.alloc (.cells #[.int .i64 yi, .slice yA yo.length yC, .bool ye, .bool yr, .bool yc, .bool ym, .int .i64 yp, .string (bstr yn)] 50)) w.heap.size A0 c0 P) := Lib.hid (HO.out.alloc _)
      go_wp2_with (at_builtin
                   refine wpList_onee_app rfl (.tmp 16) (.tmp 34) rfl (B := w.heap.size) (out := P) (m := [⟨⟨yi, yo, ye, yr, yc, ym, yp, yn⟩, yA, yC⟩]) (HO1.out.alloc (.cells (oneCells ⟨⟨yi, yo, ye, yr, yc, ym, yp, yn⟩, yA, yC⟩).toArray 37)) (by have := HB1.out.size; simp at this ⊢; omega) 1 (onee_lit (wo.alloc (.cells #[.int .i64 yi, .slice yA yo.length yC, .bool ye, .bool yr, .bool yc, .bool ym, .int .i64 yp, .string (bstr yn)] 50)) ⟨⟨yi, yo, ye, yr, yc, ym, yp, yn⟩, yA, yC⟩ _ (by simp)) (by have := HLK.out; simp; omega) rfl rfl ?_
                   intro A2 c2 w2 hown hbel
                   have HO2 := Lib.hid hown
                   have HB2 := Lib.hid ((HB1.out.alloc HB1.out.size (.cells (oneCells ⟨⟨yi, yo, ye, yr, yc, ym, yp, yn⟩, yA, yC⟩).toArray 37)).trans hbel)
                   clear hown hbel)
      go_roundw
      case rel => exact ⟨k + 1, A2, c2, by omega, by rw [HTK.out, List.length_append]; rfl, by go_num, trivial, by rw [HTK.out]; exact HO2, HB2⟩
      case measure => simp [intOf]; omega
    · obtain rfl : k = l.length := by omega
      rw [List.take_length] at HO ⊢
      go_wp2
      go_ret
      exact ⟨⟨A0, c0, rfl, ⟨HO.out.at_, fun y hy => (HA.out.2 y hy).below HB.out⟩, HO.out.cap⟩, HB.out⟩

set_option maxHeartbeats 2000000 in
set_option maxRecDepth 100000 in
theorem flat_any (A : Option Addr) (c : Nat) (l : List OneV) (hl : l.length ≤ 1048576) (w : World) (hA : OnesAt w A l) :
    Calls Try.prog 20 #[.slice A l.length c] w fun e w' => (∃ A' c', e = .returned (.slice A' l.length c') ∧ OnesAt w' A' l ∧ l.length ≤ c') ∧ Below w.heap.size w w' := by
  have HA := Lib.hid hA; clear hA
  go_enter Try.func20, Try.ntmps20
  go_wp2
  go_loopw [3, 4, 5] (fun s3 s4 s5 wr => ∃ (k : Nat) (A0 : Option Addr) (c0 : Nat), k ≤ l.length ∧ s3 = .slice A0 (l.take k).length c0 ∧ s4 = .int .i64 (k : Int) ∧ s5 = s5 ∧ Hid (OwnR wr w.heap.size A0 c0 (l.take k)) ∧ Hid (Below w.heap.size w wr)) (fun _ i _ _ => l.length - (intOf i).toNat)
  case atStart => exact ⟨0, none, 0, Nat.zero_le _, rfl, rfl, rfl, Lib.hid (OwnR.nil _ _), Lib.hid (Below.refl _ _)⟩
  case round =>
    obtain ⟨k, A0, c0, hk, rfl, rfl, _, HO, HB⟩ := hrel
    obtain ⟨wo, hwo⟩ : ∃ x, x = wr := ⟨wr, rfl⟩
    subst hwo
    by_cases hlt : k < l.length
    · obtain ⟨b, off, rfl, _⟩ := HA.out.form (by omega)
      have hltI : (k : Int) < (l.length : Int) := by omega
      obtain ⟨z0, z1, z2, z3, z4, z5, z6, z7⟩ := (HA.out.below HB.out).at_ hlt
      have HTK := Lib.hid (List.take_succ_eq_append_getElem hlt)
      have HLK : Hid ((l.take k).length = k) := Lib.hid (by rw [List.length_take]; omega)
      generalize l[k] = y at z0 z1 z2 z3 z4 z5 z6 z7 HTK
      generalize l.take k = P at HO HTK HLK ⊢
      obtain ⟨⟨yi, yo, ye, yr, yc, ym, yp, yn⟩, yA, yC⟩ := y
      simp only at z0 z1 z2 z3 z4 z5 z6 z7
      have HB1 : Hid (Below w.heap.size w (wo.alloc (.cells #[.int .i64 yi, .slice yA yo.length yC, .bool ye, .bool yr, .bool yc, .bool ym, .int .i64 yp, .string (bstr yn)] 37))) := Lib.hid (HB.out.alloc HB.out.size _)
      have HO1 : Hid (OwnR (wo.alloc (.cells #[.int .i64 yi, .slice yA yo.length yC, .bool ye, .bool yr, .bool yc, .bool ym, .int .i64 yp, .string (bstr yn)] 37)) w.heap.size A0 c0 P) := Lib.hid (HO.out.alloc _)
      go_wp2_with (at_builtin
                   refine wpList_oner_app rfl (.tmp 16) (.tmp 34) rfl (B := w.heap.size) (out := P) (m := [⟨⟨yi, yo, ye, yr, yc, ym, yp, yn⟩, yA, yC⟩]) (HO1.out.alloc (.cells (oneCells ⟨⟨yi, yo, ye, yr, yc, ym, yp, yn⟩, yA, yC⟩).toArray 50)) (by have := HB1.out.size; simp at this ⊢; omega) 1 (oner_lit (wo.alloc (.cells #[.int .i64 yi, .slice yA yo.length yC, .bool ye, .bool yr, .bool yc, .bool ym, .int .i64 yp, .string (bstr yn)] 37)) ⟨⟨yi, yo, ye, yr, yc, ym, yp, yn⟩, yA, yC⟩ _ (by simp)) (by have := HLK.out; simp; omega) rfl rfl ?_
                   intro A2 c2 w2 hown hbel
                   have HO2 := Lib.hid hown
                   have HB2 := Lib.hid ((HB1.out.alloc HB1.out.size (.cells (oneCells ⟨⟨yi, yo, ye, yr, yc, ym, yp, yn⟩, yA, yC⟩).toArray 50)).trans hbel)
                   clear hown hbel)
      go_roundw
      case rel => exact ⟨k + 1, A2, c2, by omega, by rw [HTK.out, List.length_append]; rfl, by go_num, trivial, by rw [HTK.out]; exact HO2, HB2⟩
      case measure => simp [intOf]; omega
    · obtain rfl : k = l.length := by omega
      rw [List.take_length] at HO ⊢
      go_wp2
      go_ret
      exact ⟨⟨A0, c0, rfl, ⟨HO.out.at_, fun y hy => (HA.out.2 y hy).below HB.out⟩, HO.out.cap⟩, HB.out⟩
end Go.Proofs.Ytnadhpajelkngaa

/- The document's own SameOnes, of rows with the same fields. Condition: no slice is longer than memory. -/
namespace Go.Proofs.Ytnadhpajelkngaa
open Go.RowKit Go.Deep

def soS0 : Sched Nat := (.one 10 (.one 11 .done))
def soS : Sched Nat := (.quiet 0 (.quiet 1 (.quiet 2 (.quiet 3 (.quiet 4 (.quiet 5 (.quiet 6 (.quiet 7 (.two 8 (.one 9 soS0) 9 (.one 8 soS0))))))))))
set_option maxHeartbeats 4000000 in
set_option maxRecDepth 100000 in
theorem sameOnes_eq (A B : Option Addr) (ca cb : Nat) (l m : List OneV) (hl : l.length ≤ maxLen) (hgl : ∀ y ∈ l, y.Good) (hgm : ∀ y ∈ m, y.Good) (he : l.map (·.k) = m.map (·.k)) (w : World) (hA : OnesAt w A l) (hB : OnesAt w B m) :
    Calls Try.prog 19 #[.slice A l.length ca, .slice B m.length cb] w fun e w' => e = .returned (.bool true) ∧ Below w.heap.size w w' := by
  unfold maxLen at hl
  have HA := Lib.hid hA; clear hA
  have HB := Lib.hid hB; clear hB
  have hlen : l.length = m.length := by have := congrArg List.length he; simpa using this
  rw [← hlen]
  have HLEN := Lib.hid hlen
  have HEQ := Lib.hid he
  clear hlen he
  go_enter Try.func19, Try.ntmps19
  go_wp2
  go_loopw [5, 6, 7] (fun i s6 s7 wr => ∃ k : Nat, k ≤ l.length ∧ i = .int .i64 (k : Int) ∧ s6 = s6 ∧ s7 = s7 ∧ Hid (Below w.heap.size w wr)) (fun i _ _ _ => l.length - (intOf i).toNat)
  case atStart => exact ⟨0, Nat.zero_le _, rfl, rfl, rfl, Lib.hid (Below.refl _ _)⟩
  case round =>
    obtain ⟨k, hk, rfl, _, _, HBEL⟩ := hrel
    obtain ⟨wo, hwo⟩ : ∃ x, x = wr := ⟨wr, rfl⟩
    subst hwo
    by_cases hlt : k < l.length
    · have hlt2 : k < m.length := by have := HLEN.out; omega
      have hltI : (k : Int) < (l.length : Int) := by omega
      have hltJ : (k : Int) < (m.length : Int) := by omega
      obtain ⟨b1, o1, rfl, _⟩ := HA.out.form (by omega)
      obtain ⟨b2, o2, rfl, _⟩ := HB.out.form (by omega)
      have HX := Lib.hid (fun (W : World) (h : Below w.heap.size w W) => (HA.out.below h).at_ hlt)
      have HY := Lib.hid (fun (W : World) (h : Below w.heap.size w W) => (HB.out.below h).at_ hlt2)
      have HK : Hid (l[k].k = m[k].k) := Lib.hid (by
        have := congrArg (fun q => q[k]?) HEQ.out
        simpa [List.getElem?_map, List.getElem?_eq_getElem hlt, List.getElem?_eq_getElem hlt2] using this)
      have hgk := hgl _ (List.getElem_mem hlt)
      have hgj := hgm _ (List.getElem_mem hlt2)
      have HC1 := Lib.hid (HA.out.2 _ (List.getElem_mem hlt))
      have HC2 := Lib.hid (HB.out.2 _ (List.getElem_mem hlt2))
      generalize l[k] = c at HX HK hgk HC1
      generalize m[k] = d at HY HK hgj HC2
      obtain ⟨ck, cA, cC⟩ := c
      obtain ⟨dk, dA, dC⟩ := d
      have hkk := HK.out
      simp only at hkk
      subst hkk
      have GS := Lib.hid (fun (W : World) (h : Below w.heap.size w W) => refSame_any cA dA cC dC ck.ops ck.ops (by have := hgk.2.2.2.2; simp only at this; unfold maxLen at *; omega) (by have := hgk.2.2.2.2; simp only at this; unfold maxLen at *; omega) hgk.2.2.2.1 hgk.2.2.2.1 W (HC1.out.below h) (HC2.out.below h))
      rw [sameB_self] at GS
      clear hgk hgj HK HC1 HC2
      obtain ⟨yi, yo, ye, yr, yc, ym, yp, yn⟩ := ck
      simp only at HX HY GS
      have gs1 : (yi != yi) = false := by simp
      have gs2 : (ye != ye) = false := by simp
      have gs3 : (yr != yr) = false := by simp
      have gs4 : (yc != yc) = false := by simp
      have gs5 : (ym != ym) = false := by simp
      have gs6 : (yp != yp) = false := by simp
      have gs7 : ((bstr yn).toList != (bstr yn).toList) = false := by simp
      go_wp2_with fail
      refine Sched.wp_region_tree (some wo.heap.size) soS (by kernel_rfl) (by kernel_rfl) (fun _ _ d _ _ h => by cases d <;> exact h) ?_
      have HBD : Hid (Below w.heap.size w wo.drew) := Lib.hid (Below.drew HBEL.out)
      have hsz : wo.drew.heap.size = wo.heap.size := rfl
      rw [← hsz]
      generalize wo.drew = wd at HBD ⊢
      simp only [soS, Sched.picked, List.getElem?_cons_succ, List.getElem?_cons_zero, Option.getD_some]
      have x0 := fun e : ExtB (some wd.heap.size) wd => (HX.out e.val (HBD.out.trans (e.property.mono HBD.out.size))).1
      have x1 := fun e : ExtB (some wd.heap.size) wd => (HX.out e.val (HBD.out.trans (e.property.mono HBD.out.size))).2.1
      have x2 := fun e : ExtB (some wd.heap.size) wd => (HX.out e.val (HBD.out.trans (e.property.mono HBD.out.size))).2.2.1
      have x3 := fun e : ExtB (some wd.heap.size) wd => (HX.out e.val (HBD.out.trans (e.property.mono HBD.out.size))).2.2.2.1
      have x4 := fun e : ExtB (some wd.heap.size) wd => (HX.out e.val (HBD.out.trans (e.property.mono HBD.out.size))).2.2.2.2.1
      have x5 := fun e : ExtB (some wd.heap.size) wd => (HX.out e.val (HBD.out.trans (e.property.mono HBD.out.size))).2.2.2.2.2.1
      have x6 := fun e : ExtB (some wd.heap.size) wd => (HX.out e.val (HBD.out.trans (e.property.mono HBD.out.size))).2.2.2.2.2.2.1
      have x7 := fun e : ExtB (some wd.heap.size) wd => (HX.out e.val (HBD.out.trans (e.property.mono HBD.out.size))).2.2.2.2.2.2.2
      have y0 := fun e : ExtB (some wd.heap.size) wd => (HY.out e.val (HBD.out.trans (e.property.mono HBD.out.size))).1
      have y1 := fun e : ExtB (some wd.heap.size) wd => (HY.out e.val (HBD.out.trans (e.property.mono HBD.out.size))).2.1
      have y2 := fun e : ExtB (some wd.heap.size) wd => (HY.out e.val (HBD.out.trans (e.property.mono HBD.out.size))).2.2.1
      have y3 := fun e : ExtB (some wd.heap.size) wd => (HY.out e.val (HBD.out.trans (e.property.mono HBD.out.size))).2.2.2.1
      have y4 := fun e : ExtB (some wd.heap.size) wd => (HY.out e.val (HBD.out.trans (e.property.mono HBD.out.size))).2.2.2.2.1
      have y5 := fun e : ExtB (some wd.heap.size) wd => (HY.out e.val (HBD.out.trans (e.property.mono HBD.out.size))).2.2.2.2.2.1
      have y6 := fun e : ExtB (some wd.heap.size) wd => (HY.out e.val (HBD.out.trans (e.property.mono HBD.out.size))).2.2.2.2.2.2.1
      have y7 := fun e : ExtB (some wd.heap.size) wd => (HY.out e.val (HBD.out.trans (e.property.mono HBD.out.size))).2.2.2.2.2.2.2
      repeat (first | (refine Sched.walk_quiet (by rfl) (fun K hK => ?_); go_big_quiet_op; refine hK _ ?_; clear hK K) | (refine Sched.walk_skip_quiet (by rfl) ?_; simp only [Act.put, List.setIfInBounds_toArray, List.set_cons_zero, List.set_cons_succ]))
      clear x0 x1 x2 x3 x4 x5 x6 x7 y0 y1 y2 y3 y4 y5 y6 y7
      refine Sched.walk_two ?_ ?_
      · skip
        refine Sched.walk_one (by rfl) (fun K hK => ?_)
        go_simp
        refine hK _ _ (balloc' (Nat.le_refl _) _) ?_
        clear hK K
        have HF1 := Lib.hid (eight_new wd 50 (.int .i64 0) (.slice none 0 0) (.bool false) (.bool false) (.bool false) (.bool false) (.int .i64 0) (.string { data := #[] }))
        have HB1 : Hid (Below wd.heap.size wd (wd.alloc (.cells #[.int .i64 0, .slice none 0 0, .bool false, .bool false, .bool false, .bool false, .int .i64 0, .string { data := #[] }] 50))) := Lib.hid ((Below.refl _ _).alloc (Nat.le_refl _) _)
        repeat (first | (refine Sched.walk_quiet (by rfl) (fun K hK => ?_); go_big_quiet_op; refine hK _ ?_; clear hK K) | (refine Sched.walk_skip_quiet (by rfl) ?_; simp only [Act.put, List.setIfInBounds_toArray, List.set_cons_zero, List.set_cons_succ]))
        refine Sched.walk_one (by rfl) (fun K hK => ?_)
        go_simp
        refine hK _ _ (balloc' (by simp [baseOf]) _) ?_
        clear hK K
        have HF2 := Lib.hid (eight_new (wd.alloc (.cells #[.int .i64 0, .slice none 0 0, .bool false, .bool false, .bool false, .bool false, .int .i64 0, .string { data := #[] }] 50)) 50 (.int .i64 0) (.slice none 0 0) (.bool false) (.bool false) (.bool false) (.bool false) (.int .i64 0) (.string { data := #[] }))
        replace HF1 := Lib.hid (HF1.out.alloc (.cells #[.int .i64 0, .slice none 0 0, .bool false, .bool false, .bool false, .bool false, .int .i64 0, .string { data := #[] }] 50))
        replace HB1 := Lib.hid (HB1.out.alloc HB1.out.size (.cells #[.int .i64 0, .slice none 0 0, .bool false, .bool false, .bool false, .bool false, .int .i64 0, .string { data := #[] }] 50))
        rw [World.size_alloc] at HF2
        generalize hW : World.alloc (wd.alloc (.cells #[.int .i64 0, .slice none 0 0, .bool false, .bool false, .bool false, .bool false, .int .i64 0, .string { data := #[] }] 50)) (.cells #[.int .i64 0, .slice none 0 0, .bool false, .bool false, .bool false, .bool false, .int .i64 0, .string { data := #[] }] 50) = W2 at HF1 HF2 HB1 ⊢
        clear hW
        repeat (first | (refine Sched.walk_quiet (by rfl) (fun K hK => ?_); go_big_quiet_op; refine hK _ ?_; clear hK K) | (refine Sched.walk_skip_quiet (by rfl) ?_; simp only [Act.put, List.setIfInBounds_toArray, List.set_cons_zero, List.set_cons_succ]))
        simp only [soS0, Sched.picked, List.getElem?_cons_succ, List.getElem?_cons_zero, Option.getD_some]
        obtain ⟨⟨a0, f0⟩, ⟨a1, f1⟩, ⟨a2, f2⟩, ⟨a3, f3⟩, ⟨a4, f4⟩, ⟨a5, f5⟩, ⟨a6, f6⟩, ⟨a7, f7⟩, hrow⟩ := eight_set HF1.out (.int .i64 yi) (.slice cA yo.length cC) (.bool ye) (.bool yr) (.bool yc) (.bool ym) (.int .i64 yp) (.string (bstr yn))
        have hoth := eight_other (b := wd.heap.size) HF2.out (by omega) (.int .i64 yi) (.slice cA yo.length cC) (.bool ye) (.bool yr) (.bool yc) (.bool ym) (.int .i64 yp) (.string (bstr yn))
        have hbel := eight_below (b := wd.heap.size) HB1.out (by omega) (.int .i64 yi) (.slice cA yo.length cC) (.bool ye) (.bool yr) (.bool yc) (.bool ym) (.int .i64 yp) (.string (bstr yn))
        refine Sched.walk_one (by rfl) (fun K hK => ?_)
        go_simp
        refine hK _ _ (eight_below (b := wd.heap.size) (Below.refl _ _) (by show wd.heap.size ≤ _; omega) (.int .i64 yi) (.slice cA yo.length cC) (.bool ye) (.bool yr) (.bool yc) (.bool ym) (.int .i64 yp) (.string (bstr yn))) ?_
        clear hK K a0 a1 a2 a3 a4 a5 a6 a7 f0 f1 f2 f3 f4 f5 f6 f7
        replace HF1 := Lib.hid hrow
        replace HF2 := Lib.hid hoth
        replace HB1 := Lib.hid hbel
        clear hrow hoth hbel
        generalize World.setCell _ ⟨wd.heap.size, 7, none⟩ _ = W3 at HF1 HF2 HB1 ⊢
        repeat (first | (refine Sched.walk_quiet (by rfl) (fun K hK => ?_); go_big_quiet_op; refine hK _ ?_; clear hK K) | (refine Sched.walk_skip_quiet (by rfl) ?_; simp only [Act.put, List.setIfInBounds_toArray, List.set_cons_zero, List.set_cons_succ]))
        obtain ⟨⟨a0, f0⟩, ⟨a1, f1⟩, ⟨a2, f2⟩, ⟨a3, f3⟩, ⟨a4, f4⟩, ⟨a5, f5⟩, ⟨a6, f6⟩, ⟨a7, f7⟩, hrow⟩ := eight_set HF2.out (.int .i64 yi) (.slice dA yo.length dC) (.bool ye) (.bool yr) (.bool yc) (.bool ym) (.int .i64 yp) (.string (bstr yn))
        have hoth := eight_other (b := wd.heap.size + 1) HF1.out (by omega) (.int .i64 yi) (.slice dA yo.length dC) (.bool ye) (.bool yr) (.bool yc) (.bool ym) (.int .i64 yp) (.string (bstr yn))
        have hbel := eight_below (b := wd.heap.size + 1) HB1.out (by omega) (.int .i64 yi) (.slice dA yo.length dC) (.bool ye) (.bool yr) (.bool yc) (.bool ym) (.int .i64 yp) (.string (bstr yn))
        refine Sched.walk_one (by rfl) (fun K hK => ?_)
        go_simp
        refine hK _ _ (eight_below (b := wd.heap.size + 1) (Below.refl _ _) (by show wd.heap.size ≤ _; omega) (.int .i64 yi) (.slice dA yo.length dC) (.bool ye) (.bool yr) (.bool yc) (.bool ym) (.int .i64 yp) (.string (bstr yn))) ?_
        clear hK K a0 a1 a2 a3 a4 a5 a6 a7 f0 f1 f2 f3 f4 f5 f6 f7
        replace HF2 := Lib.hid hrow
        replace HF1 := Lib.hid hoth
        replace HB1 := Lib.hid hbel
        clear hrow hoth hbel
        generalize World.setCell _ ⟨wd.heap.size + 1, 7, none⟩ _ = W4 at HF1 HF2 HB1 ⊢
        repeat (first | (refine Sched.walk_quiet (by rfl) (fun K hK => ?_); go_big_quiet_op; refine hK _ ?_; clear hK K) | (refine Sched.walk_skip_quiet (by rfl) ?_; simp only [Act.put, List.setIfInBounds_toArray, List.set_cons_zero, List.set_cons_succ]))
        refine Sched.walk_done ?_
        have HBW := Lib.hid (HBD.out.trans (HB1.out.mono HBD.out.size))
        obtain ⟨p0, p1, p2, p3, p4, p5, p6, p7⟩ := eight_cells HF1.out
        obtain ⟨q0, q1, q2, q3, q4, q5, q6, q7⟩ := eight_cells HF2.out
        go_wp2_with fail
        refine (GS.out _ HBW.out).mono ?_
        rintro e w5 ⟨rfl, hb⟩
        have hr6 := HF1.out.of_block (hb.block _ HF1.out.lt)
        have hr7 := HF2.out.of_block (hb.block _ HF2.out.lt)
        have HB5 := Lib.hid (HBW.out.trans (hb.mono HBW.out.size))
        clear hb p0 p1 p2 p3 p4 p5 p6 p7 q0 q1 q2 q3 q4 q5 q6 q7
        obtain ⟨p0, p1, p2, p3, p4, p5, p6, p7⟩ := eight_cells hr6
        obtain ⟨q0, q1, q2, q3, q4, q5, q6, q7⟩ := eight_cells hr7
        clear hr6 hr7
        go_wp2
        go_roundw
        case rel => exact ⟨k + 1, by omega, by go_num, trivial, trivial, HB5⟩
        case measure => simp [intOf]; omega
      · skip
        refine Sched.walk_one (by rfl) (fun K hK => ?_)
        go_simp
        refine hK _ _ (balloc' (Nat.le_refl _) _) ?_
        clear hK K
        have HF1 := Lib.hid (eight_new wd 50 (.int .i64 0) (.slice none 0 0) (.bool false) (.bool false) (.bool false) (.bool false) (.int .i64 0) (.string { data := #[] }))
        have HB1 : Hid (Below wd.heap.size wd (wd.alloc (.cells #[.int .i64 0, .slice none 0 0, .bool false, .bool false, .bool false, .bool false, .int .i64 0, .string { data := #[] }] 50))) := Lib.hid ((Below.refl _ _).alloc (Nat.le_refl _) _)
        repeat (first | (refine Sched.walk_quiet (by rfl) (fun K hK => ?_); go_big_quiet_op; refine hK _ ?_; clear hK K) | (refine Sched.walk_skip_quiet (by rfl) ?_; simp only [Act.put, List.setIfInBounds_toArray, List.set_cons_zero, List.set_cons_succ]))
        refine Sched.walk_one (by rfl) (fun K hK => ?_)
        go_simp
        refine hK _ _ (balloc' (by simp [baseOf]) _) ?_
        clear hK K
        have HF2 := Lib.hid (eight_new (wd.alloc (.cells #[.int .i64 0, .slice none 0 0, .bool false, .bool false, .bool false, .bool false, .int .i64 0, .string { data := #[] }] 50)) 50 (.int .i64 0) (.slice none 0 0) (.bool false) (.bool false) (.bool false) (.bool false) (.int .i64 0) (.string { data := #[] }))
        replace HF1 := Lib.hid (HF1.out.alloc (.cells #[.int .i64 0, .slice none 0 0, .bool false, .bool false, .bool false, .bool false, .int .i64 0, .string { data := #[] }] 50))
        replace HB1 := Lib.hid (HB1.out.alloc HB1.out.size (.cells #[.int .i64 0, .slice none 0 0, .bool false, .bool false, .bool false, .bool false, .int .i64 0, .string { data := #[] }] 50))
        rw [World.size_alloc] at HF2
        generalize hW : World.alloc (wd.alloc (.cells #[.int .i64 0, .slice none 0 0, .bool false, .bool false, .bool false, .bool false, .int .i64 0, .string { data := #[] }] 50)) (.cells #[.int .i64 0, .slice none 0 0, .bool false, .bool false, .bool false, .bool false, .int .i64 0, .string { data := #[] }] 50) = W2 at HF1 HF2 HB1 ⊢
        clear hW
        repeat (first | (refine Sched.walk_quiet (by rfl) (fun K hK => ?_); go_big_quiet_op; refine hK _ ?_; clear hK K) | (refine Sched.walk_skip_quiet (by rfl) ?_; simp only [Act.put, List.setIfInBounds_toArray, List.set_cons_zero, List.set_cons_succ]))
        simp only [soS0, Sched.picked, List.getElem?_cons_succ, List.getElem?_cons_zero, Option.getD_some]
        obtain ⟨⟨a0, f0⟩, ⟨a1, f1⟩, ⟨a2, f2⟩, ⟨a3, f3⟩, ⟨a4, f4⟩, ⟨a5, f5⟩, ⟨a6, f6⟩, ⟨a7, f7⟩, hrow⟩ := eight_set HF2.out (.int .i64 yi) (.slice cA yo.length cC) (.bool ye) (.bool yr) (.bool yc) (.bool ym) (.int .i64 yp) (.string (bstr yn))
        have hoth := eight_other (b := wd.heap.size + 1) HF1.out (by omega) (.int .i64 yi) (.slice cA yo.length cC) (.bool ye) (.bool yr) (.bool yc) (.bool ym) (.int .i64 yp) (.string (bstr yn))
        have hbel := eight_below (b := wd.heap.size + 1) HB1.out (by omega) (.int .i64 yi) (.slice cA yo.length cC) (.bool ye) (.bool yr) (.bool yc) (.bool ym) (.int .i64 yp) (.string (bstr yn))
        refine Sched.walk_one (by rfl) (fun K hK => ?_)
        go_simp
        refine hK _ _ (eight_below (b := wd.heap.size + 1) (Below.refl _ _) (by show wd.heap.size ≤ _; omega) (.int .i64 yi) (.slice cA yo.length cC) (.bool ye) (.bool yr) (.bool yc) (.bool ym) (.int .i64 yp) (.string (bstr yn))) ?_
        clear hK K a0 a1 a2 a3 a4 a5 a6 a7 f0 f1 f2 f3 f4 f5 f6 f7
        replace HF2 := Lib.hid hrow
        replace HF1 := Lib.hid hoth
        replace HB1 := Lib.hid hbel
        clear hrow hoth hbel
        generalize World.setCell _ ⟨wd.heap.size + 1, 7, none⟩ _ = W3 at HF1 HF2 HB1 ⊢
        repeat (first | (refine Sched.walk_quiet (by rfl) (fun K hK => ?_); go_big_quiet_op; refine hK _ ?_; clear hK K) | (refine Sched.walk_skip_quiet (by rfl) ?_; simp only [Act.put, List.setIfInBounds_toArray, List.set_cons_zero, List.set_cons_succ]))
        obtain ⟨⟨a0, f0⟩, ⟨a1, f1⟩, ⟨a2, f2⟩, ⟨a3, f3⟩, ⟨a4, f4⟩, ⟨a5, f5⟩, ⟨a6, f6⟩, ⟨a7, f7⟩, hrow⟩ := eight_set HF1.out (.int .i64 yi) (.slice dA yo.length dC) (.bool ye) (.bool yr) (.bool yc) (.bool ym) (.int .i64 yp) (.string (bstr yn))
        have hoth := eight_other (b := wd.heap.size) HF2.out (by omega) (.int .i64 yi) (.slice dA yo.length dC) (.bool ye) (.bool yr) (.bool yc) (.bool ym) (.int .i64 yp) (.string (bstr yn))
        have hbel := eight_below (b := wd.heap.size) HB1.out (by omega) (.int .i64 yi) (.slice dA yo.length dC) (.bool ye) (.bool yr) (.bool yc) (.bool ym) (.int .i64 yp) (.string (bstr yn))
        refine Sched.walk_one (by rfl) (fun K hK => ?_)
        go_simp
        refine hK _ _ (eight_below (b := wd.heap.size) (Below.refl _ _) (by show wd.heap.size ≤ _; omega) (.int .i64 yi) (.slice dA yo.length dC) (.bool ye) (.bool yr) (.bool yc) (.bool ym) (.int .i64 yp) (.string (bstr yn))) ?_
        clear hK K a0 a1 a2 a3 a4 a5 a6 a7 f0 f1 f2 f3 f4 f5 f6 f7
        replace HF1 := Lib.hid hrow
        replace HF2 := Lib.hid hoth
        replace HB1 := Lib.hid hbel
        clear hrow hoth hbel
        generalize World.setCell _ ⟨wd.heap.size, 7, none⟩ _ = W4 at HF1 HF2 HB1 ⊢
        repeat (first | (refine Sched.walk_quiet (by rfl) (fun K hK => ?_); go_big_quiet_op; refine hK _ ?_; clear hK K) | (refine Sched.walk_skip_quiet (by rfl) ?_; simp only [Act.put, List.setIfInBounds_toArray, List.set_cons_zero, List.set_cons_succ]))
        refine Sched.walk_done ?_
        have HBW := Lib.hid (HBD.out.trans (HB1.out.mono HBD.out.size))
        obtain ⟨p0, p1, p2, p3, p4, p5, p6, p7⟩ := eight_cells HF2.out
        obtain ⟨q0, q1, q2, q3, q4, q5, q6, q7⟩ := eight_cells HF1.out
        go_wp2_with fail
        refine (GS.out _ HBW.out).mono ?_
        rintro e w5 ⟨rfl, hb⟩
        have hr6 := HF2.out.of_block (hb.block _ HF2.out.lt)
        have hr7 := HF1.out.of_block (hb.block _ HF1.out.lt)
        have HB5 := Lib.hid (HBW.out.trans (hb.mono HBW.out.size))
        clear hb p0 p1 p2 p3 p4 p5 p6 p7 q0 q1 q2 q3 q4 q5 q6 q7
        obtain ⟨p0, p1, p2, p3, p4, p5, p6, p7⟩ := eight_cells hr6
        obtain ⟨q0, q1, q2, q3, q4, q5, q6, q7⟩ := eight_cells hr7
        clear hr6 hr7
        go_wp2
        go_roundw
        case rel => exact ⟨k + 1, by omega, by go_num, trivial, trivial, HB5⟩
        case measure => simp [intOf]; omega
    · obtain rfl : k = l.length := by omega
      go_wp2
      go_ret
      exact ⟨rfl, HBEL.out⟩
end Go.Proofs.Ytnadhpajelkngaa
