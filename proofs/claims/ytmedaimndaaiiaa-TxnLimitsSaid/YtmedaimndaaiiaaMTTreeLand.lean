/- What the landed code asks of nodes is what makes them a tree. No condition. -/
import Derived.Test.YtmedaimndaaiiaaMTTreeLine
import Derived.Test.YtmedaimndaaiiaaMTTreeSum
import Derived.Test.YtmedaimndaaiiaaMTm
/- What the landed code asks of nodes is what makes them a tree. No condition. -/
namespace Go.Proofs.Ytmedaimndaaiiaa
open Go.RowKit Go.Deep

variable {l : List NodeV}
def Placed (l : List NodeV) (y : NodeV) : Prop := lineB l y.id = true ∧ rUp l y.parent 0 = 0 ∧ chI l y.parent y.name = y.id
def LandOk (l : List NodeV) : Prop := l.length ≤ 100 ∧ Rising l ∧ (∀ y ∈ l, IsName y.name ∧ Placed l y ∧ Written y) ∧ rTotal l ≤ 10000

theorem line_ends (h0 : up l 0 = none) : ∀ (n : Nat) (id : Int) (acc r : List NodeV), lineF l n id acc = some r → Ends (up l) n id
  | n, id, acc, r, h => by
    by_cases e : id = 0
    · subst e
      exact Ends.none h0
    · cases hf : rFind l id with
      | none => rw [lineF_none e hf] at h; cases h
      | some k =>
        obtain ⟨hk, _, _⟩ := rFind_some hf
        cases n with
        | zero => rw [lineF_stop e] at h; cases h
        | succ n =>
          rw [lineF_up e hk hf] at h
          have := line_ends h0 n _ _ r h
          show ∀ p, up l id = some p → Ends (up l) n p
          rw [up_some hk hf]
          rintro p hp
          injection hp with hp
          rw [← hp]
          exact this
theorem ends_line (hd : ∀ x ∈ l, x.parent = 0 ∨ ∃ q ∈ l, q.id = x.parent) : ∀ (n : Nat) (id : Int) (acc : List NodeV), Ends (up l) n id → (id = 0 ∨ ∃ x ∈ l, x.id = id) → ∃ r, lineF l n id acc = some r
  | n, id, acc, h, hi => by
    by_cases e : id = 0
    · subst e
      exact ⟨_, lineF_root l n acc⟩
    · cases hf : rFind l id with
      | none =>
        rcases hi with hi | ⟨x, hx, e2⟩
        · exact absurd hi e
        · exact absurd e2 (rFind_none hf x hx)
      | some k =>
        obtain ⟨hk, _, _⟩ := rFind_some hf
        cases n with
        | zero =>
          have h2 : up l id = none := h
          rw [up_some hk hf] at h2
          cases h2
        | succ n =>
          have h2 : Ends (up l) n l[k].parent := h _ (up_some hk hf)
          rw [lineF_up e hk hf]
          refine ends_line hd n _ _ h2 ?_
          rcases hd _ (List.getElem_mem hk) with h3 | ⟨q, hq, h3⟩
          · exact .inl h3
          · exact .inr ⟨q, hq, h3⟩
theorem LandOk.tree (h : LandOk l) : TreeM l := by
  obtain ⟨h1, ⟨h2, h3⟩, h4, h5⟩ := h
  have h0 : up l 0 = none := up_no.2 fun y hy => by have := (h3 y hy).1; omega
  refine ⟨h1, h2, fun x hx => ?_, fun x hx y hy e1 e2 => ?_, h5, fun x hx => ?_, fun x hx => ?_⟩
  · obtain ⟨hn, _, hw1, hw2⟩ := h4 x hx
    refine ⟨(h3 x hx).1, (h3 x hx).2, hn, hw1, ?_⟩
    cases hd : x.dir with
    | true =>
      have e := hw1 hd
      rw [e, cps_of V_nil']
      exact ⟨Nat.zero_le _, ⟨[], V_nil'⟩, Nat.zero_le _⟩
    | false =>
      obtain ⟨⟨vs, hv⟩, hc⟩ := hw2 hd
      refine ⟨?_, ⟨vs, hv⟩, hc⟩
      rw [cps_of hv] at hc
      have := E_length_le4 vs
      rw [hv.bytes] at this
      omega
  · obtain ⟨_, ⟨_, _, hx1⟩, _⟩ := h4 x hx
    obtain ⟨_, ⟨_, _, hy1⟩, _⟩ := h4 y hy
    rw [e1, e2, hy1] at hx1
    exact (srt_id h2 hx hy hx1.symm)
  · obtain ⟨_, ⟨_, hu, _⟩, _⟩ := h4 x hx
    rcases rUp_inv hu with h6 | ⟨q, hq, e, hd, _⟩
    · exact .inl h6
    · exact .inr ⟨q, hq, e, hd⟩
  · obtain ⟨_, ⟨hl, _, _⟩, _⟩ := h4 x hx
    unfold lineB at hl
    obtain ⟨r, hr⟩ := Option.isSome_iff_exists.1 hl
    exact ⟨_, line_ends h0 _ _ _ _ hr⟩
theorem TreeM.line (h : TreeM l) {x : NodeV} (hx : x ∈ l) : ∃ r, lineF l l.length x.id [] = some r := by
  obtain ⟨n, hn⟩ := h.ends x hx
  refine ends_line (fun y hy => ?_) _ _ _ (up_ends hn) (.inr ⟨x, hx, rfl⟩)
  rcases h.dirs y hy with h1 | ⟨q, hq, e, _⟩
  · exact .inl h1
  · exact .inr ⟨q, hq, e⟩
theorem TreeM.up_zero0 (h : TreeM l) {x : NodeV} (hx : x ∈ l) : rUp l x.parent 0 = 0 := by
  rcases h.dirs x hx with h1 | ⟨q, hq, e, hd⟩
  · rw [h1, rUp_root]
  · obtain ⟨k, hk⟩ := List.getElem?_of_mem hq
    obtain ⟨hkl, hk⟩ := List.getElem?_eq_some_iff.1 hk
    have hf := srt_find h.srt hkl
    rw [hk, e] at hf
    have := h.pos hq
    rw [rUp_some 0 hkl (by omega) hf, hk, if_neg (by rw [hd]; decide), if_neg (by omega)]
theorem TreeM.child_own (h : TreeM l) {x : NodeV} (hx : x ∈ l) : chB l x.parent x.name = true ∧ rChild l x.parent x.name = x.id := by
  obtain ⟨y, hy, e1, e2, e3⟩ := child_some (l := l) ⟨x, hx, rfl, rfl⟩
  have := h.uniq y hy x hx e1 e2
  rw [e3, this]
  exact ⟨chB_yes hx ⟨rfl, rfl⟩, rfl⟩
theorem TreeM.land (h : TreeM l) : LandOk l := by
  refine ⟨h.len, ⟨h.srt, fun y hy => ⟨(h.nd y hy).1, (h.nd y hy).2.1⟩⟩, fun y hy => ?_, h.tot⟩
  obtain ⟨_, _, h3, h4, _, h6, h7⟩ := h.nd y hy
  refine ⟨h3, ⟨?_, h.up_zero0 hy, ?_⟩, h4, fun _ => ⟨h6, h7⟩⟩
  · obtain ⟨r, hr⟩ := h.line hy
    unfold lineB
    rw [hr]
    rfl
  · obtain ⟨h8, h9⟩ := h.child_own hy
    rw [chI, if_pos h8, h9]
theorem land_iff : LandOk l ↔ SoundN l := ⟨fun h => h.tree.sound, fun h => (TreeM.of h).land⟩
end Go.Proofs.Ytmedaimndaaiiaa
