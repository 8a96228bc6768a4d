/- One and all in which it stands, up to the root: the way up, by a label to which the run jumps back. Conditions: nodes by rising ID, no more than 2^40. -/
import Derived.Test.YtmedaimndaaiiaaMFi
import Derived.Test.YtmedaimndaaiiaaMApp
import Derived.Test.YtmedaimndaaiiaaMLab
import Derived.WalkMore
/- One and all in which it stands, up to the root: the way up, by a label to which the run jumps back. Conditions: nodes by rising ID, no more than 2^40. -/
namespace Go.Proofs.Ytmedaimndaaiiaa
open Go.RowKit Go.Deep

/-- The way up from an ID, so many steps of it. -/
def lineF (l : List NodeV) : Nat → Int → List NodeV → Option (List NodeV)
  | 0, id, acc => if id = 0 then some acc else none
  | n + 1, id, acc => if id = 0 then some acc else match rFind l id with
    | none => none
    | some k => lineF l n ((l[k]?).getD default).parent (acc ++ [(l[k]?).getD default])
theorem lineF_root (l : List NodeV) (n : Nat) (acc : List NodeV) : lineF l n 0 acc = some acc := by cases n <;> exact if_pos rfl
theorem lineF_none {l : List NodeV} {id : Int} (h0 : id ≠ 0) (hf : rFind l id = none) (n : Nat) (acc : List NodeV) : lineF l n id acc = none := by
  cases n with
  | zero => exact if_neg h0
  | succ n => rw [lineF, if_neg h0, hf]
theorem lineF_stop {l : List NodeV} {id : Int} (h0 : id ≠ 0) (acc : List NodeV) : lineF l 0 id acc = none := if_neg h0
theorem lineF_up {l : List NodeV} {id : Int} (h0 : id ≠ 0) {k : Nat} (hk : k < l.length) (hf : rFind l id = some k) (n : Nat) (acc : List NodeV) : lineF l (n + 1) id acc = lineF l n l[k].parent (acc ++ [l[k]]) := by
  rw [lineF, if_neg h0, hf]
  show lineF l n ((l[k]?).getD default).parent (acc ++ [(l[k]?).getD default]) = _
  rw [List.getElem?_eq_getElem hk]
  rfl
attribute [irreducible] lineF
/-- The whole of it; none: it is not there. -/
def lineL (l : List NodeV) (id : Int) : List NodeV := (lineF l l.length id []).getD []
def lineB (l : List NodeV) (id : Int) : Bool := (lineF l l.length id []).isSome

/-- A frame of the walk. -/
def LFr (a : Act) (p id ln : Value) : Prop := a.defers = [] ∧ a.tmps.size = 51 ∧ a.tmps[0]? = some p ∧ a.tmps[1]? = some id ∧ a.tmps[6]? = some ln ∧ a.tmps[8]? = some (.bool true)
theorem LFr.out {a : Act} {p id ln : Value} (h : LFr a p id ln) : ∃ f : Nat → Value, a = { tmps := #[p, id, f 2, f 3, f 4, f 5, ln, f 7, .bool true, f 9, f 10, f 11, f 12, f 13, f 14, f 15, f 16, f 17, f 18, f 19, f 20, f 21, f 22, f 23, f 24, f 25, f 26, f 27, f 28, f 29, f 30, f 31, f 32, f 33, f 34, f 35, f 36, f 37, f 38, f 39, f 40, f 41, f 42, f 43, f 44, f 45, f 46, f 47, f 48, f 49, f 50], defers := [] } := by
  obtain ⟨t, d⟩ := a
  obtain ⟨rfl, hs, h0, h1, h6, h8⟩ := h
  simp only at hs h0 h1 h6 h8
  refine ⟨fun n => (t[n]?).getD undef, ?_⟩
  have e : t = ((List.range 51).map fun i => (t[i]?).getD undef).toArray := by
    apply Array.ext
    · simp [hs]
    · intro i h1 h2
      simp [h1]
  have e2 : ((List.range 51).map fun i => (t[i]?).getD undef).toArray = #[(t[0]?).getD undef, (t[1]?).getD undef, (t[2]?).getD undef, (t[3]?).getD undef, (t[4]?).getD undef, (t[5]?).getD undef, (t[6]?).getD undef, (t[7]?).getD undef, (t[8]?).getD undef, (t[9]?).getD undef, (t[10]?).getD undef, (t[11]?).getD undef, (t[12]?).getD undef, (t[13]?).getD undef, (t[14]?).getD undef, (t[15]?).getD undef, (t[16]?).getD undef, (t[17]?).getD undef, (t[18]?).getD undef, (t[19]?).getD undef, (t[20]?).getD undef, (t[21]?).getD undef, (t[22]?).getD undef, (t[23]?).getD undef, (t[24]?).getD undef, (t[25]?).getD undef, (t[26]?).getD undef, (t[27]?).getD undef, (t[28]?).getD undef, (t[29]?).getD undef, (t[30]?).getD undef, (t[31]?).getD undef, (t[32]?).getD undef, (t[33]?).getD undef, (t[34]?).getD undef, (t[35]?).getD undef, (t[36]?).getD undef, (t[37]?).getD undef, (t[38]?).getD undef, (t[39]?).getD undef, (t[40]?).getD undef, (t[41]?).getD undef, (t[42]?).getD undef, (t[43]?).getD undef, (t[44]?).getD undef, (t[45]?).getD undef, (t[46]?).getD undef, (t[47]?).getD undef, (t[48]?).getD undef, (t[49]?).getD undef, (t[50]?).getD undef] := rfl
  simp only [h0, h1, h6, h8, Option.getD_some] at e2
  rw [← e2, ← e]
attribute [irreducible] LFr
theorem LFr.mk {t : Array Value} {p id ln : Value} (h : t.size = 51 ∧ t[0]? = some p ∧ t[1]? = some id ∧ t[6]? = some ln ∧ t[8]? = some (.bool true)) : LFr { tmps := t, defers := [] } p id ln := by
  unfold LFr
  exact ⟨rfl, h⟩
/-- What holds at the label: so much of the way is made. -/
def LJ (W : World) (g : Nat) (l : List NodeV) (R : Option (List NodeV)) : Nat → Nat → Act → World → Prop
  | 0, k, a, w => ∃ (id : Int) (acc : List NodeV) (A : Option Addr) (c : Nat), LFr a (.pointer (some ⟨g, 0, none⟩)) (.int .i64 id) (.slice A acc.length c) ∧ acc.length + k = l.length ∧ lineF l k id acc = R ∧ OwnN w W.heap.size A c acc ∧ Below W.heap.size W w
  | _, _, _, _ => False
/-- What is answered. -/
def LEnd (W : World) (R : Option (List NodeV)) (e : Ending) (w : World) : Prop := ∃ A c, e = .returned (.tuple #[.slice A (R.getD []).length c, .bool R.isSome]) ∧ OwnN w W.heap.size A c (R.getD []) ∧ Below W.heap.size W w

set_option maxHeartbeats 2000000 in
set_option maxRecDepth 100000 in
theorem line_any (g : Nat) (l : List NodeV) (id : Int) (hs : Srt l) (hl : l.length ≤ 1048576) (w : World) (h : TreeAt w g l) :
    Calls Try.prog 47 #[.pointer (some ⟨g, 0, none⟩), .int .i64 id] w (LEnd w (lineF l l.length id [])) := by
  have G := Lib.hid (fun i w' (hb : Below w.heap.size w w') => at_any _ l i hs (by omega) w' (h.below hb).ptr)
  obtain ⟨A2, c2, hr2, hn2⟩ := h
  have HCELL := Lib.hid (fun (w' : World) (hb : Below w.heap.size w w') => ((hr2.of_block (hb.block g hr2.lt)).cell (i := 0) (by omega) : w'.cell? ⟨g, 0, none⟩ = some (.slice A2 l.length c2)))
  have HNODE := Lib.hid (fun (w' : World) (hb : Below w.heap.size w w') => hn2.1.below hb)
  clear hr2 hn2
  have HS := Lib.hid hs; clear hs
  obtain ⟨R, HR⟩ : ∃ R, Hid (lineF l l.length id [] = R) := ⟨_, Lib.hid rfl⟩
  rw [HR.out]
  go_enter Try.func47, Try.ntmps47
  go_wp2
  refine wp_scope_one (LJ w g l R) ?hJ rfl ?p0 ?first
  case hJ =>
    intro j k a w h
    match j, h with
    | 0, _ => omega
    | (n + 1), h => exact h.elim
  case first =>
    intro P0
    have P0' := Lib.hid P0; clear P0
    refine ⟨l.length, ?_⟩
    go_wp2
    go_step3
    rename_i K hK
    refine hK _ _ (downK_mono (Nat.le_refl _) (P0'.out _ _ _ ⟨id, [], none, 0, LFr.mk ⟨rfl, rfl, rfl, rfl, rfl⟩, by simp, HR.out, OwnN.nil _ _, Below.refl _ _⟩))
  case p0 =>
    rintro k act w1 ⟨i, acc, A, c, hf, hk, hr, hown, hb⟩
    obtain ⟨F, rfl⟩ := hf.out
    clear hf
    have HB := Lib.hid hb; clear hb
    have HO := Lib.hid hown; clear hown
    have HRR := Lib.hid hr; clear hr
    by_cases h0 : i = 0
    · have HE : Hid (R = some acc) := by show R = _; rw [← HRR.out, h0, lineF_root]
      subst h0
      go_wp2
      rw [downK_ret]
      go_ret2
      exact ⟨A, c, by rw [HE.out]; rfl, by rw [HE.out]; exact HO.out, HB.out⟩
    · have hne : (i == 0) = false := beq_eq_false_iff_ne.2 h0
      have Gi := Lib.hid (G.out i w1 HB.out)
      cases hf : rFind l i with
      | none =>
        have HE : Hid (R = none) := by show R = _; rw [← HRR.out, lineF_none h0 hf]
        rw [hf] at Gi
        clear h0 hf
        go_wp2_with fail
        refine (Gi.out).mono ?_
        rintro e w' ⟨rfl, hb⟩
        have HB2 := Lib.hid (HB.out.trans (hb.mono HB.out.size)); clear hb
        go_wp2
        rw [downK_ret]
        go_ret2
        exact ⟨none, 0, by rw [HE.out]; rfl, by rw [HE.out]; exact OwnN.nil _ _, HB2.out⟩
      | some q =>
        obtain ⟨hq, _, _⟩ := rFind_some hf
        rw [hf, srt_at HS.out hf] at Gi
        cases k with
        | zero =>
          have HE : Hid (R = none) := by show R = _; rw [← HRR.out, lineF_stop h0]
          obtain ⟨n, hn⟩ : ∃ n, acc.length = n := ⟨_, rfl⟩
          have hnl : l.length = n := by omega
          clear h0 hf HRR
          go_wp2_with fail
          refine (Gi.out).mono ?_
          rintro e w' ⟨rfl, hb⟩
          have HB2 := Lib.hid (HB.out.trans (hb.mono HB.out.size)); clear hb
          have k1 := HCELL.out w' HB2.out
          rw [hnl] at k1
          go_wp2
          rw [downK_ret]
          go_ret2
          exact ⟨none, 0, by rw [HE.out]; rfl, by rw [HE.out]; exact OwnN.nil _ _, HB2.out⟩
        | succ m =>
          have HNX : Hid (lineF l m l[q].parent (acc ++ [l[q]]) = R) := by show _ = R; rw [← HRR.out, lineF_up h0 hq hf]
          have hal : acc.length < l.length := by omega
          have hne2 : ((acc.length : Int) == (l.length : Int)) = false := beq_eq_false_iff_ne.2 (by omega)
          have hqI : (q : Int) < (l.length : Int) := by omega
          have HLEN := Lib.hid hk
          clear h0 hf HRR hk
          go_wp2_with fail
          refine (Gi.out).mono ?_
          rintro e w' ⟨rfl, hb⟩
          have HO2 := Lib.hid (HO.out.below hb)
          have HB2 := Lib.hid (HB.out.trans (hb.mono HB.out.size)); clear hb
          have k1 := HCELL.out w' HB2.out
          have N1 := HNODE.out w' HB2.out
          obtain ⟨b, off, rfl, _⟩ := N1.form (by omega)
          obtain ⟨d0, d1, d2, d3, d4⟩ := N1.at_ hq
          have HD := Lib.hid (fun (w' : World) (hb : Below w.heap.size w w') => ((HNODE.out w' hb).at_ hq).2.1)
          clear N1
          generalize l[q] = y at d0 d1 d2 d3 d4 HNX HD
          go_wp2_with (at_builtin
                       refine wpList_nodes_app rfl (.tmp 33) (.tmp 41) rfl (B := w.heap.size) (out := acc) (m := [y]) (HO2.out.alloc (.cells (nodeCells y).toArray 57)) (by have := HB2.out.size; simp; omega) 1 (node_lit w' y _ rfl) (by have := HLEN.out; simp; omega) rfl rfl ?_
                       intro A3 c3 w3 hown hbel
                       have HB3 := Lib.hid ((HB2.out.trans ((Below.refl _ _).alloc HB2.out.size _)).trans hbel)
                       have HO3 := Lib.hid hown
                       have k3 := HCELL.out w3 HB3.out
                       have e3 := HD.out w3 HB3.out
                       clear hown hbel)
          go_step3
          rw [downK_goto]
          exact ⟨m, ⟨y.parent, acc ++ [y], A3, c3, LFr.mk ⟨rfl, rfl, rfl, by rw [List.length_append]; rfl, rfl⟩, by have := HLEN.out; simp; omega, HNX.out, HO3.out, HB3.out⟩, by omega⟩
end Go.Proofs.Ytmedaimndaaiiaa
