/- Where one stands: its names, from the root on. Condition: a tree. -/
import Derived.Test.YtkckgchohnkkpaaGreatMTTreeBack
import Derived.Test.YtkckgchohnkkpaaGreatMTBldStr
import Derived.Test.YtkckgchohnkkpaaGreatMTRangeBox
import Derived.Test.YtkckgchohnkkpaaGreatMTTreeWithin
import Derived.Test.YtkckgchohnkkpaaGreatMTm
/- Where one stands: its names, from the root on. Condition: a tree. -/
namespace Go.Proofs.YtkckgchohnkkpaaGreat
open Go.RowKit Go.Deep Go.Shelf
attribute [local go_sem] Oper.semAt_some

/-- The names so far, joined. -/
def nmsOf (r : List NodeV) (pre : List (Bk r)) : List Nat := (pre.map fun x => r[x.1].name).foldl jn []
theorem nmsOf_step (r : List NodeV) (pre : List (Bk r)) (x : Bk r) : nmsOf r (pre ++ [x]) = jn (nmsOf r pre) r[x.1].name := by
  unfold nmsOf
  rw [List.map_append, List.foldl_append]
  rfl
theorem nmsOf_len {r : List NodeV} (h : ∀ y ∈ r, y.name.length ≤ 20) : ∀ (pre : List (Bk r)), (nmsOf r pre).length ≤ 21 * pre.length := by
  intro pre
  unfold nmsOf
  suffices H : ∀ (ns : List (List Nat)) (acc : List Nat), (∀ n ∈ ns, n.length ≤ 20) → (ns.foldl jn acc).length ≤ acc.length + 21 * ns.length by
    have hh : ∀ n ∈ (pre.map fun x : Bk r => r[x.1].name), n.length ≤ 20 := by
      intro n hn
      obtain ⟨x, _, e⟩ := List.mem_map.1 hn
      have h2 := h r[x.1] (List.getElem_mem x.2)
      rw [e] at h2
      exact h2
    have := H (pre.map fun x => r[x.1].name) [] hh
    rw [List.length_map, List.length_nil] at this
    omega
  intro ns
  induction ns with
  | nil => intro acc _; simp
  | cons n ns ih =>
    intro acc hh
    have h1 := ih (jn acc n) fun m hm => hh m (by simp [hm])
    have h2 := hh n (by simp)
    have h3 : (jn acc n).length ≤ acc.length + 21 := by
      unfold jn
      by_cases e : acc = []
      · rw [if_pos e]; omega
      · rw [if_neg e]; simp; omega
    rw [List.foldl_cons, List.length_cons]
    omega
theorem nmsOf_all {r : List NodeV} {ys : List (Bk r)} (h : ys.map (fun x => x.1) = (List.range r.length).reverse) : nmsOf r ys = (r.reverse.map fun y => y.name).foldl jn [] := by
  unfold nmsOf
  congr 1
  have e1 : (ys.map fun x => r[x.1].name) = (ys.map fun x => x.1).map fun k => ((r[k]?).getD default).name := by
    rw [List.map_map]
    refine List.map_congr_left fun x _ => ?_
    show r[x.1].name = ((r[x.1]?).getD default).name
    rw [List.getElem?_eq_getElem x.2]
    rfl
  rw [e1, h, List.map_reverse, List.map_reverse]
  congr 1
  refine List.ext_getElem (by simp) fun i h1 h2 => ?_
  simp at h2
  simp [List.getElem?_eq_getElem h2]
/-- A path is the way up, from the root on. -/
theorem line_path {l : List NodeV} (hm : TreeM l) : ∀ (n : Nat) (id : Int) (acc r : List NodeV), lineF l n id acc = some r → ∃ s, r = acc ++ s ∧ (∀ y ∈ s, y ∈ l) ∧ rPath l id = some ((s.reverse.map fun y => y.name).foldl jn [])
  | n, id, acc, r, h => by
    by_cases e : id = 0
    · subst e
      rw [lineF_root] at h
      injection h with h
      exact ⟨[], by rw [h, List.append_nil], by simp, path_root l⟩
    · cases n with
      | zero => rw [lineF_stop e] at h; cases h
      | succ n =>
        cases hf : rFind l id with
        | none => rw [lineF_none e hf] at h; cases h
        | some k =>
          obtain ⟨hk, hid, _⟩ := rFind_some hf
          rw [lineF_up e hk hf] at h
          obtain ⟨s, h1, h2, h3⟩ := line_path hm n _ _ _ h
          refine ⟨l[k] :: s, by rw [h1]; simp, fun y hy => ?_, ?_⟩
          · rcases List.mem_cons.1 hy with rfl | hy
            · exact List.getElem_mem hk
            · exact h2 y hy
          · rw [← hid, hm.path_up (List.getElem_mem hk), h3, List.reverse_cons, List.map_append, List.foldl_append]
            rfl
theorem path_no {l : List NodeV} (hm : TreeM l) {id : Int} (h : lineF l l.length id [] = none) : rPath l id = none := by
  by_cases e : id = 0
  · subst e
    rw [lineF_root] at h
    cases h
  · cases hf : rFind l id with
    | none => exact path_none e hf
    | some k =>
      obtain ⟨hk, hid, _⟩ := rFind_some hf
      obtain ⟨r, hr⟩ := hm.line (List.getElem_mem hk)
      rw [hid, h] at hr
      cases hr

/-- What a round finds. -/
structure PathR (b : Nat) (w0 : World) (t : Nat × Nat × NodeV → Act) (r : List NodeV) (s : List (Bk r) × Bk r × Act) (W : World) : Prop where
  bld : BldAt b b (nmsOf r s.1) W
  bel : Below w0.heap.size w0 W
  box : ∃ B, s.2.2 = t (B, s.2.1.1, r[s.2.1.1]'s.2.1.2) ∧ B ≠ b ∧ W.heap[B]? = some (.cells (nodeCells (r[s.2.1.1]'s.2.1.2)).toArray 32 (0, 0))
theorem cells_kept {W W' : World} {row : Option Nat} {k : Nat} {cs : Array Value} {T : TypeId} {fr : Nat × Nat} (hk : W.heap[k]? = some (.cells cs T fr)) (hg : W.grownBy W' row) (hr : ∀ q, row = some q → ∃ o : Obj, W.heap[q]? = some o ∧ o.isCells = false) : W'.heap[k]? = some (.cells cs T fr) := by
  rw [hg.block k (Array.getElem?_eq_some_iff.1 hk).1 (fun e => ?_)]
  · exact hk
  · obtain ⟨o, h1, h2⟩ := hr k e.symm
    rw [hk] at h1
    injection h1 with h1
    subst h1
    cases h2
theorem PathR.own {b B : Nat} {w0 : World} {t : Nat × Nat × NodeV → Act} {r : List NodeV} (hB : w0.heap.size ≤ B) : OwnFrom B (PathR b w0 t r) := by
  intro s W W' row hs hg hr
  obtain ⟨h1, h2, Bx, h3, h4, h5⟩ := hs
  exact ⟨h1.kept hg (fun q e => (hr q e).2), ownFrom_below (β := Unit) (Nat.le_refl _) hB () W W' row h2 hg hr, Bx, h3, h4, cells_kept h5 hg (fun q e => (hr q e).2)⟩
set_option maxHeartbeats 4000000 in
set_option maxRecDepth 100000 in
theorem path_any (g : Nat) (l : List NodeV) (id : Int) (hm : TreeM l) (w : World) (h : TreeAt w g l) :
    Calls Tryz.prog 9 #[.pointer (some ⟨g, 0, none⟩), .int .i64 id] w fun e W' => e = .returned (.tuple #[.string (bstr ((rPath l id).getD [])), .bool (rPath l id).isSome]) ∧ Below w.heap.size w W' := by
  have GL := Lib.hid (line_any g l id hm.srt (by have := hm.len; omega) w h)
  cases hL : lineF l l.length id [] with
  | none =>
    rw [path_no hm hL]
    rw [hL] at GL
    clear h hm
    go_enter Tryz.func9, Tryz.ntmps9
    go_wp2_with fail
    refine GL.out.mono ?_
    rintro e w1 ⟨A, c, rfl, _, hb⟩
    go_wp2
    go_ret2
    exact ⟨rfl, hb⟩
  | some r =>
    obtain ⟨s, hs, hsl, hp⟩ := line_path hm _ _ _ _ hL
    obtain rfl : r = s := hs
    rw [hp]
    rw [hL] at GL
    have hrl : r.length ≤ 1048576 := by
      obtain ⟨s2, _, h3⟩ := line_len hL
      have := hm.len
      simp at h3
      omega
    have HNM : Hid (∀ y ∈ r, y.name.length ≤ 20 ∧ ∀ c ∈ y.name, c < 256) := fun y hy => by
      have := isName_iff.1 (hm.nd y (hsl y hy)).2.2.1
      exact ⟨this.2.1, fun c hc => by have := okByte_iff.1 (this.2.2.2.2 c hc); omega⟩
    obtain ⟨T, HT⟩ : ∃ T, Hid ((r.reverse.map fun y => y.name).foldl jn [] = T) := ⟨_, Lib.hid rfl⟩
    rw [HT.out]
    clear h hm hL hsl hp
    refine (callsIn_wide (n := 3)).1 ?_
    refine callsIn_of_wp_marks Tryz.func9 rfl trivial ?_ rfl
    simp only [Tryz.ntmps9, List.size_toArray, List.length_cons, List.length_nil, Nat.reduceAdd, Nat.reduceSub, Array.replicate_succ, Array.replicate_zero, List.push_toArray, List.append_toArray, List.nil_append, List.cons_append]
    gi_wp2_with (refine ⟨trivial, (callsIn_wide.2 GL.out).mono ?_⟩; rintro e w1 ⟨A, c, rfl, hown, hbw⟩)
    simp only [Option.getD_some] at hown ⊢
    have HB1 := Lib.hid hbw
    have HO1 := Lib.hid (hown.alloc (.cells #[.pointer none, .slice none 0 0] 59))
    clear hown hbw
    have hBld := Lib.hid (BldAt.start w1)
    gi_wp2_with fail
    refine ⟨trivial, (back_any _ _ _ _ _).mono ?_⟩
    rintro e w2 ⟨rfl, rfl⟩
    generalize hb0 : w1.heap.size = b at hBld
    have HWB : Hid (Below w.heap.size w (w1.alloc (.cells #[.pointer none, .slice none 0 0] 59))) := HB1.out.trans ((Below.refl _ _).alloc HB1.out.size _)
    have hSz : (w1.alloc (.cells #[.pointer none, .slice none 0 0] 59)).heap.size = b + 1 := by rw [World.size_alloc, hb0]
    have hBb : (w1.alloc (.cells #[.pointer none, .slice none 0 0] 59)).heap[b]? = some (.cells #[.pointer none, .slice none 0 0] 59 (0, 0)) := by rw [← hb0]; exact World.alloc_heap_new w1 _
    have hRow := NodeRow.of_own HO1.out hBb
    have hbw : w.heap.size ≤ b := by rw [← hb0]; exact HB1.out.size
    clear hBb HO1 HB1
    generalize w1.alloc (.cells #[.pointer none, .slice none 0 0] 59) = W0 at hBld HWB hSz hRow ⊢
    have hBn := World.alloc_heap_new W0 (.cells #[.slice A r.length c] 22)
    rw [hSz] at hBn ⊢
    have hRow2 := hRow.keep (KeepT.alloc b W0 (.cells #[.slice A r.length c] 22))
    have hI0 : BldAt b b [] (W0.alloc (.cells #[.slice A r.length c] 22)) := hBld.out.kept (World.grownBy_alloc _ _ none) (fun q e => by cases e)
    have hB2 : Below w.heap.size w (W0.alloc (.cells #[.slice A r.length c] 22)) := HWB.out.trans ((Below.refl _ _).alloc HWB.out.size _)
    have hSz2 : (W0.alloc (.cells #[.slice A r.length c] 22)).heap.size = b + 2 := by rw [World.size_alloc, hSz]
    clear hBld HWB hRow
    generalize W0.alloc (.cells #[.slice A r.length c] 22) = W1 at hBn hRow2 hI0 hB2 hSz2 ⊢
    have hseq := back_stops hrl b A c 2 (by omega) (b + 1) (by omega) W1 hBn hRow2
    clear hRow2 hBn hSz
    obtain ⟨t, ht⟩ : ∃ t : Nat × Nat × NodeV → Act, t = fun q => { tmps := #[.pointer (some ⟨g, 0, none⟩), .int .i64 id, undef, undef, .string { data := #[] }, .bool false, .slice A r.length c, .bool true, .pointer (some ⟨b, 0, none⟩), undef, .pointer (some ⟨q.1, 0, none⟩),
      .tuple #[.slice A r.length c, .bool true], .pointer (some ⟨g, 0, none⟩), .int .i64 id, .tuple #[.slice A r.length c, .bool true], .slice A r.length c, .bool true, .bool true, .bool false, .slice A r.length c,
      .func (.func 49) #[] #[.pointer (some ⟨b + 1, 0, none⟩)], .int .i64 (q.2.1 : Int), .agg (nodeCells q.2.2).toArray, undef, undef, undef, undef, undef, undef, undef], defers := [] } := ⟨_, rfl⟩
    gi_wp2
    refine wpIn_rangeFunc_box rfl (by omega) (gf := 49) (lb := #[.pointer (some ⟨b + 1, 0, none⟩)]) rfl trivial (enters_of Tryz.func49 (by kernel_rfl) rfl)
      hseq (fun h k => h.trans k) (fun W l o o' _ h hc _ => KeepT.put o' h hc) (Below.refl _ _) (fun _ => rfl)
      (fun pre W => BldAt b b (nmsOf r pre) W ∧ Below w.heap.size w W) (fun _ _ _ => False) (PathR b w t r)
      (OwnFrom.and (Own.from (fun s X Y row hs hg hr => hs.kept hg hr) _) (ownFrom_below (Nat.le_refl _) (by omega))) (PathR.own (by omega)) (fun _ _ _ _ _ hs => hs.elim)
      ⟨hI0, hB2⟩ ?assign ?body ?done ?stop
    case assign =>
      rintro k pre ⟨q, hq⟩ W K ⟨hB, hW⟩ hsz hK
      dsimp only [bkVals] at hK ⊢
      have hnew := World.alloc_heap_new W (.cells (nodeCells r[q]).toArray 32)
      have hK2 := hK (t (W.heap.size, q, r[q])) (W.alloc (.cells (nodeCells r[q]).toArray 32)) ⟨hB.kept (World.grownBy_alloc _ _ none) (fun q e => by cases e), hW.trans ((Below.refl _ _).alloc hW.size _), W.heap.size, rfl, by omega, hnew⟩ (KeepsOthers.alloc _ _) (KeepT.alloc b _ _)
      clear hK hnew
      rw [ht] at hK2
      dsimp only at hK2
      generalize r[q] = y at hK2 ⊢
      unfold nodeCells at hK2 ⊢
      gi_wp2
      exact hK2
    case body =>
      rintro k pre ⟨q, hq⟩ a1 W ⟨hB0, hW0, Bx, he0, hne, hbx0⟩ hlen
      have he : a1 = t (Bx, q, r[q]'hq) := he0
      have hbx : W.heap[Bx]? = some (.cells (nodeCells (r[q]'hq)).toArray 32 (0, 0)) := hbx0
      have hB : BldAt b b (nmsOf r pre) W := hB0
      have hW : Below w.heap.size w W := hW0
      clear he0 hbx0 hB0 hW0
      subst he
      have hn := HNM.out r[q] (List.getElem_mem hq)
      have hstep := nmsOf_step r pre ⟨q, hq⟩
      dsimp only at hstep
      have hlenP : (nmsOf r pre).length ≤ 21 * pre.length := nmsOf_len (fun y hy => (HNM.out y hy).1) pre
      obtain ⟨S, HS⟩ : ∃ S, Hid (nmsOf r pre = S) := ⟨_, Lib.hid rfl⟩
      rw [HS.out] at hB hstep hlenP
      have HSTEP := Lib.hid hstep
      clear hstep HS
      have hSl : S.length ≤ 30000000 := by omega
      have hbW : b ≤ W.heap.size := by
        rcases hB with h | h
        · exact Nat.le_of_lt h.lt
        · exact Nat.le_of_lt h.lt
      generalize r[q] = y at hbx hn HSTEP ⊢
      rw [ht]
      dsimp only
      have GL2 := Lib.hid (bldLen_any b b S W hB)
      have c2 : ∀ {X : World}, X.heap[Bx]? = some (.cells (nodeCells y).toArray 32 (0, 0)) → X.cell? ⟨Bx, 2, none⟩ = some (.string (bstr y.name)) := fun h => by rw [Lib.cell_of_heap h]; rfl
      by_cases hS : S = []
      · have hS0 : S.length = 0 := by rw [hS]; rfl
        rw [hS0] at GL2
        have GW := Lib.hid (writeStringK_any b b S y.name W hB (by omega) hbW)
        have d2 := c2 hbx
        have HW := Lib.hid hW
        clear hB hW hbx c2
        gi_wp2_with fail
        refine ⟨trivial, (callsIn_wide.2 GL2.out).mono ?_⟩
        rintro e w2 ⟨rfl, rfl⟩
        gi_wp2_with fail
        refine ⟨trivial, (callsIn_wide.2 GW.out).mono ?_⟩
        rintro e w3 ⟨rfl, hB3, hb3, hk3, ho3⟩
        have HF : Hid (KeepsOthers w2 w3 ∧ KeepT b w2 w3 ∧ BldAt b b (nmsOf r (pre ++ [⟨q, hq⟩])) w3 ∧ Below w.heap.size w w3) := ⟨ho3, hk3, by
          rw [HSTEP.out, hS]
          rw [hS, List.nil_append] at hB3
          exact hB3, HW.out.trans (hb3.mono hbw)⟩
        clear ho3 hk3 hB3 hb3
        gi_wp2
        exact HF.out
      · have hS0 : 0 < (S.length : Int) := by
          have := List.length_pos_iff.2 hS
          omega
        have GW := Lib.hid (writeByte_any b b S 47 (by omega) W hB (by omega) hbW)
        have HW := Lib.hid hW
        have HBX := Lib.hid hbx
        clear hB hW hbx
        gi_wp2_with fail
        refine ⟨trivial, (callsIn_wide.2 GL2.out).mono ?_⟩
        rintro e w2 ⟨rfl, rfl⟩
        gi_wp2_with fail
        refine ⟨trivial, (callsIn_wide.2 GW.out).mono ?_⟩
        rintro e w3 ⟨rfl, hB3, hb3, hk3, ho3⟩
        have GS := Lib.hid (writeStringK_any b b (S ++ [47]) y.name w3 hB3 (by simp; omega) (by have := hb3.size; omega))
        have d2 := c2 (hk3 Bx _ _ _ hne (by decide) HBX.out)
        have HF3 : Hid (KeepsOthers w2 w3 ∧ KeepT b w2 w3 ∧ Below w.heap.size w w3) := ⟨ho3, hk3, HW.out.trans (hb3.mono hbw)⟩
        clear ho3 hk3 hB3 hb3 c2
        gi_wp2_with fail
        refine ⟨trivial, (callsIn_wide.2 GS.out).mono ?_⟩
        rintro e w4 ⟨rfl, hB4, hb4, hk4, ho4⟩
        have HF : Hid (KeepsOthers w2 w4 ∧ KeepT b w2 w4 ∧ BldAt b b (nmsOf r (pre ++ [⟨q, hq⟩])) w4 ∧ Below w.heap.size w w4) := ⟨HF3.out.1.trans ho4, HF3.out.2.1.trans hk4, by
          rw [HSTEP.out]
          unfold jn
          rw [if_neg hS]
          rw [List.append_assoc] at hB4
          exact hB4, HF3.out.2.2.trans (hb4.mono hbw)⟩
        clear ho4 hk4 hB4 hb4
        gi_wp2
        exact HF.out
    case done =>
      rintro D ys W hD hys ⟨hB, hW⟩ hK
      rw [(nmsOf_all hys).trans HT.out] at hB
      have hbW : b ≤ W.heap.size := by
        rcases hB with h | h
        · exact Nat.le_of_lt h.lt
        · exact Nat.le_of_lt h.lt
      gi_wp2_with fail
      refine ⟨trivial, (callsIn_wide.2 (bldStrK_any b T W hB hbW)).mono ?_⟩
      rintro e w3 ⟨rfl, hb3, ho3⟩
      have hK3 := ho3.same D _ hK rfl
      gi_wp2
      refine ⟨by simp, .inl ⟨_, _, rfl, run_takeDeferred hK3, ?_⟩⟩
      exact ⟨.tuple #[.string (bstr T), .bool true], by simp [results, Tryz.f9, go_sem], rfl, (hW.trans (hb3.mono hbw)).trans (belowK_b (w := w) (Nat.le_refl _) _ D _ _ (by omega) hK3 rfl rfl)⟩
    case stop =>
      rintro D c' pre W _ _ hh _
      exact hh.elim
end Go.Proofs.YtkckgchohnkkpaaGreat
