/- Whether one stands on a way up: what the way holds, and how the landed code looks for it there. Conditions: a tree. -/
import Derived.Test.YtmedaimndaaiiaaMSound
/- Whether one stands on a way up: what the way holds, and how the landed code looks for it there. Conditions: a tree. -/
namespace Go.Proofs.Ytmedaimndaaiiaa
open Go.RowKit Go.Deep

variable {l : List NodeV}
/-- Who is on the way is what it stands within. -/
theorem line_within (h0 : rFind l 0 = none) {top : Int} (ht : top ≠ 0) : ∀ (n : Nat) (id : Int) (acc r : List NodeV), lineF l n id acc = some r → ∃ s, r = acc ++ s ∧ ∀ N, n < N → (wthn l top N id = true ↔ ∃ y ∈ s, y.id = top)
  | n, id, acc, r, h => by
    by_cases e : id = 0
    · subst e
      rw [lineF_root] at h
      injection h with h
      refine ⟨[], by rw [h, List.append_nil], fun N hN => ?_⟩
      obtain ⟨N, rfl⟩ : ∃ m, N = m + 1 := ⟨N - 1, by omega⟩
      rw [wthn_none (fun e => ht e.symm) h0]
      simp
    · cases hf : rFind l id with
      | none => rw [lineF_none e hf] at h; cases h
      | some k =>
        obtain ⟨hk, hid, _⟩ := rFind_some hf
        cases n with
        | zero => rw [lineF_stop e] at h; cases h
        | succ n =>
          rw [lineF_up e hk hf] at h
          obtain ⟨s, hs, hw⟩ := line_within h0 ht n _ _ _ h
          refine ⟨l[k] :: s, by rw [hs, List.append_assoc]; rfl, fun N hN => ?_⟩
          obtain ⟨N, rfl⟩ : ∃ m, N = m + 1 := ⟨N - 1, by omega⟩
          by_cases e2 : id = top
          · subst e2
            rw [wthn_top]
            exact ⟨fun _ => ⟨_, List.mem_cons_self .., hid⟩, fun _ => rfl⟩
          · rw [wthn_up e2 hk hf, hw N (by omega)]
            constructor
            · rintro ⟨y, hy, e3⟩
              exact ⟨y, List.mem_cons_of_mem _ hy, e3⟩
            · rintro ⟨y, hy, e3⟩
              rcases List.mem_cons.1 hy with rfl | hy
              · rw [hid] at e3
                exact absurd e3 e2
              · exact ⟨y, hy, e3⟩
theorem line_len : ∀ {n : Nat} {id : Int} {acc r : List NodeV}, lineF l n id acc = some r → ∃ s, r = acc ++ s ∧ r.length ≤ acc.length + n
  | n, id, acc, r, h => by
    by_cases e : id = 0
    · subst e
      rw [lineF_root] at h
      injection h with h
      exact ⟨[], by rw [h, List.append_nil], by rw [h]; omega⟩
    · cases hf : rFind l id with
      | none => rw [lineF_none e hf] at h; cases h
      | some k =>
        obtain ⟨hk, _, _⟩ := rFind_some hf
        cases n with
        | zero => rw [lineF_stop e] at h; cases h
        | succ n =>
          rw [lineF_up e hk hf] at h
          obtain ⟨s, h1, h2⟩ := line_len h
          refine ⟨l[k] :: s, by rw [h1, List.append_assoc]; rfl, ?_⟩
          rw [List.length_append] at h2
          simp at h2
          omega
/-- Does somebody on the way have that ID? -/
def onLine (l : List NodeV) (parent id : Int) : Bool := ((lineF l l.length parent []).getD []).any fun y => decide (y.id = id)
theorem TreeM.on_line (h : TreeM l) {parent id : Int} (hid : 1 ≤ id) (hp : parent = 0 ∨ ∃ q ∈ l, q.id = parent) : onLine l parent id = rWithin l parent id := by
  have h0 : rFind l 0 = none := rFind_no fun y hy => by have := h.pos hy; omega
  have hlr : ∃ r, lineF l l.length parent [] = some r := by
    rcases hp with rfl | ⟨q, hq, rfl⟩
    · exact ⟨[], lineF_root _ _ _⟩
    · exact h.line hq
  obtain ⟨r, hr⟩ := hlr
  obtain ⟨s, hs, hw⟩ := line_within h0 (top := id) (by omega) _ _ _ _ hr
  have hw2 := hw (l.length + 1) (by omega)
  rw [← rWithin_def] at hw2
  unfold onLine
  rw [hr, hs]
  show ([] ++ s).any _ = _
  rw [List.nil_append]
  cases hx : rWithin l parent id with
  | true =>
    obtain ⟨y, hy, e⟩ := hw2.1 hx
    rw [List.any_eq_true]
    exact ⟨y, hy, decide_eq_true e⟩
  | false =>
    rw [List.any_eq_false]
    intro y hy e
    rw [hw2.2 ⟨y, hy, of_decide_eq_true e⟩] at hx
    cases hx

set_option maxRecDepth 100000 in
theorem moveCmp_any (b : Nat) (id : Int) (y : NodeV) (w : World) (hb : b < w.heap.size) (hc : w.cell? ⟨b, 1, none⟩ = some (.int .i64 id)) :
    Calls Try.prog 49 #[.agg (nodeCells y).toArray, .pointer (some ⟨b, 0, none⟩)] w fun e w' => e = .returned (.bool (decide (y.id = id))) ∧ Below w.heap.size w w' := by
  have HB := Lib.hid hb
  have HC := Lib.hid hc
  obtain ⟨yi, yp, yn, yd, yt⟩ := y
  unfold nodeCells
  simp only
  have hc2 : (w.alloc (.cells #[.int .i64 yi, .int .i64 yp, .string (bstr yn), .bool yd, .string (bstr yt)] 57)).cell? ⟨b, 1, none⟩ = some (.int .i64 id) := (((Below.refl w.heap.size w).alloc (Nat.le_refl _) _).cell (p := ⟨b, 1, none⟩) hb).trans hc
  clear hc hb
  by_cases h : yi = id
  · rw [decide_eq_true h]
    subst h
    go_enter Try.func49, Try.ntmps49
    go_wp2
    go_ret
    exact ⟨rfl, (Below.refl _ _).alloc (Nat.le_refl _) _⟩
  · have e : (yi == id) = false := beq_eq_false_iff_ne.2 h
    rw [decide_eq_false h]
    clear h
    go_enter Try.func49, Try.ntmps49
    go_wp2
    go_ret
    exact ⟨rfl, (Below.refl _ _).alloc (Nat.le_refl _) _⟩

set_option maxHeartbeats 1000000 in
set_option maxRecDepth 100000 in
theorem contains_none (A : Option Addr) (c : Nat) (fv : Value) (w : World) :
    Calls Try.prog 48 #[.slice A 0 c, fv] w fun e w' => e = .returned (.bool false) ∧ w = w' := by
  have G : ∀ w, Calls Try.prog 62 #[.slice A 0 c, fv] w fun e w' => e = .returned (.int .i64 (-1)) ∧ w = w' := by
    intro w
    go_enter Try.func62, Try.ntmps62
    go_wp2
    go_loopw [5, 8] (fun s5 s8 wr => s5 = s5 ∧ s8 = .int .i64 0 ∧ wr = w) (fun _ _ _ => 0)
    case atStart => exact ⟨rfl, rfl, rfl⟩
    case round =>
      obtain ⟨_, rfl, rfl⟩ := hrel
      go_wp2
      go_ret
      exact ⟨rfl, rfl⟩
  have G2 := Lib.hid G
  clear G
  go_enter Try.func48, Try.ntmps48
  go_wp2_with fail
  refine (G2.out _).mono ?_
  rintro e w' ⟨rfl, rfl⟩
  go_wp2
  go_ret
  exact ⟨rfl, rfl⟩

theorem node_agg (w : World) : (isAgg 57).run Try.prog w = .ok true w := Try.isAgg57 w
theorem contains_any (A : Option Addr) (c : Nat) (m : List NodeV) (b : Nat) (id : Int) (w : World) (hb : b < w.heap.size) (hc : w.cell? ⟨b, 1, none⟩ = some (.int .i64 id)) (hA : NodesAt w A m) (hml : m.length ≤ 1048576) :
    Calls Try.prog 48 #[.slice A m.length c, .func (.func 49) #[] #[.pointer (some ⟨b, 0, none⟩)]] w fun e w' => e = .returned (.bool (m.any fun y => decide (y.id = id))) ∧ Below w.heap.size w w' := by
  by_cases hm : m = []
  · subst hm
    exact (contains_none A c _ w).mono fun e w' ⟨h1, h2⟩ => ⟨h1, by rw [← h2]; exact Below.refl _ _⟩
  · obtain ⟨bl, off, rfl, hbl⟩ := hA.form (List.length_pos_iff.2 hm)
    have eg : ∀ args w, (callFunc 49 args).run Try.prog w = .ok (.enter 49 args) w := enters_of Try.func49 (by kernel_rfl) rfl
    have hcon := AnyQ.slices_ContainsFunc Try.containsNodes 5 (fun w => node_agg w) (fun w => Try.sizeOf57 w) nodeCells nodeCells_length (fun y => decide (y.id = id)) 49 #[.pointer (some ⟨b, 0, none⟩)] eg bl off m.length c m w
      (fun W x hbW => (moveCmp_any b id x W (Nat.lt_of_lt_of_le hb hbW.size) ((hbW.cell (p := ⟨b, 1, none⟩) hb).trans hc)).mono fun e w' ⟨h1, h2⟩ => ⟨h1, hbW.trans (h2.mono hbW.size)⟩)
      (Nat.le_refl _) (by omega) hbl (fun j hj i v hv => ?_)
    · rw [List.take_length] at hcon
      exact hcon
    · rw [List.getElem!_eq_getElem?_getD, List.getElem?_eq_getElem hj] at hv
      have := CellsAt.cell hA (j := j * 5 + i) (v := v) (by
        have hi : i < 5 := by
          have := (List.getElem?_eq_some_iff.1 hv).1
          exact this
        rw [flat_get nodeCells 5 nodeCells_length m j hj i hi]
        exact hv)
      rw [Nat.add_assoc]
      exact this
end Go.Proofs.Ytmedaimndaaiiaa
