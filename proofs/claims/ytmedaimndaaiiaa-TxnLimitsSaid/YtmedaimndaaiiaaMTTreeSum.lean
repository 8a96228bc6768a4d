/- The landed tree: how many code points nodes have; whether their IDs rise; whether a node may have its text. Conditions: no more than 2^20 nodes, texts that are texts, of at most 2^40 bytes. -/
import Derived.Test.YtmedaimndaaiiaaMTTreeSmall
import Derived.Test.YtmedaimndaaiiaaMTTreeOwn
import Derived.Test.YtmedaimndaaiiaaMCells
/- The landed tree: how many code points nodes have; whether their IDs rise; whether a node may have its text. Conditions: no more than 2^20 nodes, texts that are texts, of at most 2^40 bytes. -/
namespace Go.Proofs.Ytmedaimndaaiiaa
open Go.RowKit Go.Deep

set_option maxRecDepth 100000 in
theorem runeCnt_any (l : List Nat) (hv : ∃ vs, V l vs) (hl : l.length ≤ 1099511627776) (w : World) :
    Calls Try.prog 38 #[.string (bstr l)] w fun e w' => e = .returned (.int .i64 ((cps l).length : Nat)) ∧ Below w.heap.size w w' := by
  obtain ⟨vs, hv⟩ := hv
  have hsz := bstr_size l
  refine (Try.utf8_RuneCountInString (bstr l) w (by omega)).mono ?_
  rintro e w' ⟨rfl, pos, rfl⟩
  rw [runeCount_val hv, cps_of hv]
  exact ⟨rfl, (Below.refl _ _).alloc (Nat.le_refl _) _⟩

set_option maxHeartbeats 1000000 in
set_option maxRecDepth 100000 in
theorem points_any (A : Option Addr) (c : Nat) (l : List NodeV) (hl : l.length ≤ 1048576) (hv : ∀ y ∈ l, (∃ vs, V y.text vs) ∧ y.text.length ≤ 1099511627776) (w : World) (hA : NodesAt w A l) :
    Calls Try.prog 51 #[.slice A l.length c] w fun e w' => e = .returned (.int .i64 (rTotal l : Nat)) ∧ Below w.heap.size w w' := by
  have HA := Lib.hid hA; clear hA
  have HTB := Lib.hid (total_bound (l := l) fun y hy => (hv y hy).2)
  have G := Lib.hid (fun (k : Nat) (hk : k < l.length) w => runeCnt_any l[k].text (hv _ (List.getElem_mem hk)).1 (hv _ (List.getElem_mem hk)).2 w)
  clear hv
  obtain ⟨T, HT⟩ : ∃ T, Hid (rTotal l = T) := ⟨_, Lib.hid rfl⟩
  rw [HT.out]
  go_enter Try.func51, Try.ntmps51
  go_wp2
  go_loopw [3, 5, 8] (fun s3 s5 s8 wr => ∃ (k m : Nat), k ≤ l.length ∧ s3 = .int .i64 (m : Int) ∧ s5 = s5 ∧ s8 = .int .i64 (k : Int) ∧ Hid (Below w.heap.size w wr) ∧ Hid (rTotal (l.take k) = m)) (fun _ _ i _ => l.length - (intOf i).toNat)
  case atStart => exact ⟨0, 0, Nat.zero_le _, rfl, rfl, rfl, Below.refl _ _, by rw [List.take_zero]; exact total_nil⟩
  case round =>
    obtain ⟨k, m, hk, rfl, _, rfl, HB, HM⟩ := hrel
    by_cases hlt : k < l.length
    · have hltI : (k : Int) < (l.length : Int) := by omega
      have NA := HA.out.below HB.out
      obtain ⟨b, off, rfl, _⟩ := NA.form (by omega)
      obtain ⟨c0, c1, c2, c3', c4⟩ := NA.at_ hlt
      have HT2 : Hid (rTotal (l.take (k + 1)) = m + (cps l[k].text).length) := by show _ = _; rw [total_take l hlt, HM.out]
      have HBD : Hid (m + (cps l[k].text).length ≤ (k + 1) * 1099511627776) := by
        have := HTB.out (k + 1) (by omega)
        rw [HT2.out] at this
        exact this
      have Gk := Lib.hid (G.out k hlt)
      clear NA
      generalize l[k].id = yi at c0
      generalize l[k].parent = yp at c1
      generalize l[k].name = yn at c2
      generalize l[k].dir = yd at c3'
      generalize l[k].text = yt at c4 HT2 Gk HBD
      obtain ⟨q, HQ⟩ : ∃ q, Hid ((cps yt).length = q) := ⟨_, Lib.hid rfl⟩
      rw [HQ.out] at HT2 Gk HBD
      have HB2 : Hid (Below w.heap.size w (wr.alloc (.cells #[.int .i64 yi, .int .i64 yp, .string (bstr yn), .bool yd, .string (bstr yt)] 57))) := HB.out.trans ((Below.refl _ _).alloc HB.out.size _)
      go_wp2_with fail
      refine (Gk.out _).mono ?_
      rintro e w3 ⟨rfl, hb⟩
      have HB3 := Lib.hid (HB2.out.trans (hb.mono HB2.out.size))
      clear hb
      have hsum : wrap64 ((m : Int) + (q : Int)) = (m : Int) + (q : Int) := by have := HBD.out; unfold wrap64; omega
      go_wp2
      go_roundw
      case rel => exact ⟨k + 1, m + q, by omega, by go_num, trivial, by go_num, HB3, HT2⟩
      case measure => simp [intOf]; omega
    · obtain rfl : k = l.length := by omega
      have hltI : ¬ (l.length : Int) < (l.length : Int) := by omega
      have HE : Hid (m = T) := by show m = T; rw [← HM.out, List.take_length, HT.out]
      go_wp2
      go_ret
      exact ⟨by rw [HE.out]; rfl, HB.out⟩

/-- Is it so? -/
noncomputable def pB (P : Prop) : Bool := @decide P (Classical.propDecidable P)
theorem pB_yes {P : Prop} (h : P) : pB P = true := by unfold pB; exact @decide_eq_true _ (Classical.propDecidable _) h
theorem pB_no {P : Prop} (h : ¬ P) : pB P = false := by unfold pB; exact @decide_eq_false _ (Classical.propDecidable _) h
theorem pB_iff {P : Prop} : pB P = true ↔ P := by
  by_cases h : P
  · exact ⟨fun _ => h, fun _ => pB_yes h⟩
  · exact ⟨fun e => (by rw [pB_no h] at e; cases e), fun e => absurd e h⟩
attribute [irreducible] pB
/-- All IDs may be, and rise. -/
def Rising (l : List NodeV) : Prop := Srt l ∧ ∀ y ∈ l, IdOk y.id
theorem rising_take {l : List NodeV} {k : Nat} (hk : k < l.length) : Rising (l.take (k + 1)) ↔ Rising (l.take k) ∧ IdOk l[k].id ∧ (∀ y ∈ l.take k, y.id < l[k].id) := by
  unfold Rising Srt
  rw [List.take_succ_eq_append_getElem hk, List.pairwise_append]
  constructor
  · rintro ⟨⟨h1, _, h3⟩, h4⟩
    exact ⟨⟨h1, fun y hy => h4 y (List.mem_append_left _ hy)⟩, h4 _ (List.mem_append_right _ (List.mem_singleton.2 rfl)), fun y hy => h3 y hy _ (List.mem_singleton.2 rfl)⟩
  · rintro ⟨⟨h1, h2⟩, h3, h4⟩
    refine ⟨⟨h1, List.pairwise_singleton _ _, fun y hy z hz => by rw [List.mem_singleton.1 hz]; exact h4 y hy⟩, fun y hy => ?_⟩
    rcases List.mem_append.1 hy with hy | hy
    · exact h2 y hy
    · rw [List.mem_singleton.1 hy]; exact h3
theorem rising_sub {l : List NodeV} (h : Rising l) (k : Nat) : Rising (l.take k) := ⟨h.1.sublist (List.take_sublist _ _), fun y hy => h.2 y (List.mem_of_mem_take hy)⟩

theorem node_row0 (w : World) (y : NodeV) : (w.alloc (.cells (nodeCells y).toArray 57)).rowIs w.heap.size 57 5 (nodeF y) := node_row w y rfl
theorem V_nil' : V [] [] := ⟨fun _ h => (by cases h), E_nil⟩
/-- A node's text may be. -/
def Written (y : NodeV) : Prop := (y.dir = true → y.text = []) ∧ (y.dir = false → (∃ vs, V y.text vs) ∧ (cps y.text).length ≤ 2000)
end Go.Proofs.Ytmedaimndaaiiaa
