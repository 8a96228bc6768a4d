/- The document's own disk: the contract of Flush. Condition: fewer than 2^20 sectors and writes in the cache, fewer than 2^40 acts; each write of the cache is of a sector that there is. -/
import Derived.Test.YtnjgjkfdblpddaaRefDiskRead
import Derived.Test.YtnjgjkfdblpddaaHeld
import Derived.BigQuiet
namespace Go.Proofs.Ytnjgjkfdblpddaa
open Go.RowKit Go.Deep

theorem own_set {w : World} {base : Nat} {e : TypeId} {b n c : Nat} {xs : List Value} (h : w.ownsRow base e 1 (.slice (some ⟨b, 0, none⟩) n c) n xs) {q : Nat} (v : Value) : (w.setCell ⟨b, q, none⟩ v).ownsRow base e 1 (.slice (some ⟨b, 0, none⟩) n c) n (xs.set q v) := by
  refine ⟨by rw [List.length_set]; exact h.1, ?_⟩
  rcases h.2 with ⟨h0, _⟩ | ⟨g, cap, cur, hv, hb, hh, h1, h2, hsz, htk⟩
  · cases h0
  · injection hv with hv hn hc
    injection hv with hv
    injection hv with hv
    subst hv hc
    refine .inr ⟨b, c, cur.setIfInBounds q v, rfl, hb, ?_, h1, h2, by simpa using hsz, ?_⟩
    · simp [World.setCell, Array.getElem?_modify, hh]
    · rw [Array.toList_setIfInBounds, List.take_set, htk]
theorem own_cell {w : World} {base : Nat} {e : TypeId} {b n c : Nat} {xs : List Value} (h : w.ownsRow base e 1 (.slice (some ⟨b, 0, none⟩) n c) n xs) {q : Nat} (hq : q < n) : ∃ u, w.cell? ⟨b, q, none⟩ = some u ∧ w.frozen? ⟨b, q, none⟩ = false := by
  rcases h.2 with ⟨h0, _⟩ | ⟨g, cap, cur, hv, hb, hh, h1, h2, hsz, htk⟩
  · cases h0
  · injection hv with hv hn hc
    injection hv with hv
    injection hv with hv
    subst hv hc
    refine ⟨cur[q]'(by omega), ?_, by simp [World.frozen?, hh]⟩
    have hl : q < cur.size := by omega
    simp [World.cell?, hh, Array.getElem?_eq_getElem hl]
/-- All that is in the cache is safe. -/
def fold (cache : List (Nat × List Nat)) (safe : List (Option (List Nat))) : List (Option (List Nat)) := cache.foldl (fun s p => s.set p.1 (some p.2)) safe
/-- What the loop of Flush holds behind k rounds: the new row of sectors; what they hold lies where it lay. -/
def FlushRel (F : Nat → Prop) (g : Nat) (D : DiskD) (w1 : World) (A2 : Option Addr) (k2 : Nat) (cA : Option Addr) (cc : Nat) (L : Int) (O : Bool) (K k : Nat) (wr : World) : Prop :=
  wr.rowIs g 59 5 (diskCells A2 D.safe.length k2 cA D.cache.length cc L O K) ∧ Only g w1 wr ∧ ∃ us, wr.ownsRow w1.heap.size 41 1 (.slice A2 D.safe.length k2) D.safe.length us ∧ Match (SecV F w1) us (fold (D.cache.take k) D.safe)
theorem fold_take (cache : List (Nat × List Nat)) (safe : List (Option (List Nat))) (k : Nat) (h : k < cache.length) : fold (cache.take (k + 1)) safe = (fold (cache.take k) safe).set cache[k].1 (some cache[k].2) := by
  rw [fold, List.take_succ_eq_append_getElem h, List.foldl_append]
  rfl
theorem fold_length (cache : List (Nat × List Nat)) : ∀ safe, (fold cache safe).length = safe.length := by
  induction cache with
  | nil => intro safe; rfl
  | cons p l ih => intro safe; rw [fold, List.foldl_cons]; exact (ih _).trans (by simp)
def DiskD.flush (D : DiskD) : DiskD × Nat := if D.act.2 ≠ 0 then D.act else (⟨fold D.cache D.safe, [], D.act.1.left, D.act.1.off, D.act.1.ops⟩, 0)
def DiskD.WF (D : DiskD) : Prop := ∀ p ∈ D.cache, p.1 < D.safe.length
theorem vs_one {F : Nat → Prop} {w : World} {vs : List Value} {safe : List (Option (List Nat))} (h : Match (SecV F w) vs safe) : ∀ u ∈ vs, u.oneCell' = true := by
  intro u hu
  obtain ⟨i, hi⟩ := List.getElem?_of_mem hu
  have hl : i < safe.length := by rw [← h.1]; exact (List.getElem?_eq_some_iff.1 hi).1
  rcases h.2 i u safe[i] hi (List.getElem?_eq_getElem hl) with ⟨_, e⟩ | ⟨_, _, _, _, _, e, _⟩
  · rw [e]; rfl
  · rw [e]; rfl

set_option maxHeartbeats 4000000 in
set_option maxRecDepth 100000 in
theorem refDiskFlush_any (F : Nat → Prop) (g : Nat) (D : DiskD) (hops : D.ops ≤ 1099511627776) (hleft : -1 ≤ D.left ∧ D.left ≤ 9223372036854775807) (hc : D.cache.length ≤ 1048576) (hs : D.safe.length ≤ 1048576) (hwf : D.WF) (w : World) (h : DiskAt F g D w) :
    Calls Try.prog 25 #[.pointer (some ⟨g, 0, none⟩)] w fun e w' => e = .returned (.int .i64 (D.flush.2 : Nat)) ∧ DiskAt F g D.flush.1 w' ∧ Only g w w' := by
  have GA := Lib.hid (refAct_any F g D hops hleft w h)
  clear h
  have HE : Hid (D.flush = if D.act.2 ≠ 0 then D.act else (⟨fold D.cache D.safe, [], D.act.1.left, D.act.1.off, D.act.1.ops⟩, 0)) := rfl
  have hsf := act_safe D
  obtain ⟨X, HX⟩ : ∃ X, Hid (D.act = X) := ⟨_, rfl⟩
  rw [HX.out] at GA HE hsf
  obtain ⟨⟨S, C, L, O, K0⟩, E⟩ := X
  simp only at GA HE hsf
  obtain ⟨hS, hC⟩ := hsf
  subst hS hC
  have HWF := Lib.hid hwf; clear hwf
  by_cases hE : E = 0
  · subst hE
    rw [if_neg (by simp)] at HE
    rw [HE.out]
    obtain ⟨i0, hi0, hz0, hz1, hz2⟩ := info_parts bytes_info
    go_enter Try.func25, Try.ntmps25
    go_wp2_with fail
    refine GA.out.mono ?_
    rintro e w1 ⟨rfl, hd, ho⟩
    have HO := Lib.hid ho; clear ho
    obtain ⟨hfg, hfl, sA, sc, cA, cc, vs, rs, hr, hcs, hms, hcc, hmc⟩ := hd
    have HFG := Lib.hid hfg; have HFL := Lib.hid hfl
    clear hfg hfl
    have HR := Lib.hid hr; have HCS := Lib.hid hcs; have HMS := Lib.hid hms; have HCC := Lib.hid hcc; have HMC := Lib.hid hmc
    have c0' : (w1.alloc (.cells #[] 41)).cell? ⟨g, 0, none⟩ = some (.slice sA D.safe.length sc) := ((HR.out.alloc _).cell (i := 0) (by omega)).trans rfl
    have HGL1 : Hid (g < w1.heap.size) := HR.out.lt
    clear hr hcs hms hcc hmc
    go_wp2_with (at_builtin
                 refine wpList_append_cells rfl (.tmp 11) (.tmp 15) 56 rfl w1.heap.size 41 i0 (.slice none 0 0) 1 24 Try.underlying56 hi0 hz0 hz1 hz2 rfl (by omega) (.slice (some ⟨w1.heap.size, 0, none⟩) 0 0) 0 [] rfl (World.ownsRow_lit w1 #[] 0 (Nat.le_refl _) (by simp [maxLen]) rfl) sA D.safe.length sc vs rfl (by rw [HMS.out.1, Nat.mul_one]) (HCS.out.at_.alloc _) (vs_one HMS.out) (by simp only [maxLen]; omega) (by omega) (by simp) ?_
                 intro v2 w2 ho2 hg2
                 rw [List.nil_append, Nat.zero_add] at ho2
                 obtain ⟨A2, k2, rfl⟩ := own_slice ho2
                 have HO2 := Lib.hid ho2
                 have HU2 : Hid (Below w1.heap.size w1 w2) := ((Below.refl _ _).alloc (Nat.le_refl _) _).grown hg2 (by simp) (fun k hk => by simp [Value.ownBlock] at hk; omega)
                 have HR2 : Hid (w2.rowIs g 59 5 (diskCells sA D.safe.length sc cA D.cache.length cc L O K0)) := HR.out.of_block (HU2.out.block g HGL1.out)
                 have k2c : w2.cell? ⟨g, 0, none⟩ = some (.slice sA D.safe.length sc) := (HR2.out.cell (i := 0) (by omega)).trans rfl
                 have k2f := HR2.out.frozen 0
                 clear ho2 hg2 c0')
    go_wp2
    have HREL0 : Hid (FlushRel F g D w1 A2 k2 cA cc L O K0 0 (w2.setCell ⟨g, 0, none⟩ (.slice A2 D.safe.length k2))) := by
      refine ⟨(HR2.out.set 0 _).congr fun i hi => ?_, (Only.of_below HU2.out).set 0 _, vs, ownsRow_setCell_below HO2.out (a := ⟨g, 0, none⟩) HGL1.out _, HMS.out⟩
      have : i = 0 ∨ i = 1 ∨ i = 2 ∨ i = 3 ∨ i = 4 := by omega
      rcases this with rfl | rfl | rfl | rfl | rfl <;> rfl
    clear k2c k2f
    go_loopw [4] (fun i wr => ∃ k : Nat, k ≤ D.cache.length ∧ i = .int .i64 k ∧ FlushRel F g D w1 A2 k2 cA cc L O K0 k wr) (fun i _ => D.cache.length - (intOf i).toNat)
    case atStart => exact ⟨0, Nat.zero_le _, rfl, HREL0.out⟩
    case round =>
      obtain ⟨k, hk, rfl, hrw, hon, us, how, hmu⟩ := hrel
      have HRW := Lib.hid hrw; have HON := Lib.hid hon; have HOW := Lib.hid how; have HMU := Lib.hid hmu
      clear hrw hon how hmu
      have c1 : wr.cell? ⟨g, 1, none⟩ = some (.slice cA D.cache.length cc) := (HRW.out.cell (i := 1) (by omega)).trans rfl
      by_cases hlt : k < D.cache.length
      · have hq := HWF.out _ (List.getElem_mem hlt)
        obtain ⟨r, hrk, hr1, hr2⟩ := HMC.out.get hlt
        obtain ⟨cb, co, rfl, hcb⟩ := HCC.out.at_.form' (by rw [flat_length recCells 2 recCells_length, HMC.out.1]; omega)
        obtain ⟨q0, q1⟩ := rec_cells (HCC.out.only HON.out HFG.out).at_ hrk
        have HFT := Lib.hid (fold_take D.cache D.safe k hlt)
        obtain ⟨r1, r2⟩ := r
        simp only at hr1 hr2 q0 q1
        rw [← hr1] at hq HFT
        obtain ⟨g2, cap2, hv2, hge2, _⟩ := HOW.out.form (by omega)
        injection hv2 with hA2 _ hc2
        subst hA2 hc2
        obtain ⟨u0, s0, sf⟩ := own_cell HOW.out hq
        have HG2 : Hid (g ≠ g2 ∧ cb ≠ g2) := ⟨by have := HGL1.out; omega, by omega⟩
        obtain ⟨A3, n3, c3, rfl⟩ : ∃ A n c, r2 = Value.slice A n c := by
          rcases hr2 with ⟨e, _⟩ | ⟨l, b, off, c, e, e2, _⟩
          · cases e
          · exact ⟨_, _, _, e2⟩
        have HSV := Lib.hid hr2
        clear hr1 hr2 hrk
        have c0 : wr.cell? ⟨g, 0, none⟩ = some (.slice (some ⟨g2, 0, none⟩) D.safe.length k2) := (HRW.out.cell (i := 0) (by omega)).trans rfl
        have e0 : ∀ e : ExtK (keepBlocks [g, cb]) wr.drew, e.val.cell? ⟨g, 0, none⟩ = some (.slice (some ⟨g2, 0, none⟩) D.safe.length k2) := fun e => (cell_of_block (e.property.2 g (by simp)) 0).trans c0
        have e1 : ∀ e : ExtK (keepBlocks [g, cb]) wr.drew, e.val.cell? ⟨g, 1, none⟩ = some (.slice (some ⟨cb, co, none⟩) D.cache.length cc) := fun e => (cell_of_block (e.property.2 g (by simp)) 1).trans c1
        have e2 : ∀ e : ExtK (keepBlocks [g, cb]) wr.drew, e.val.cell? ⟨cb, co + k * 2, none⟩ = some (.int .i64 (r1 : Int)) := fun e => (cell_of_block (e.property.2 cb (by simp)) _).trans q0
        have e3 : ∀ e : ExtK (keepBlocks [g, cb]) wr.drew, e.val.cell? ⟨cb, co + k * 2 + 1, none⟩ = some (.slice A3 n3 c3) := fun e => (cell_of_block (e.property.2 cb (by simp)) _).trans q1
        clear c0 q0 q1
        go_wp2_with fail
        refine wp_region_held_lit (keepBlocks [g, cb]) [(0, true), (1, true), (2, true), (3, true), (4, true), (5, true), (6, true), (7, true), (8, true), (9, true), (10, true), (11, true), (12, true), (13, true), (14, true), (15, true), (16, true), (17, true), (18, true), (19, true), (20, true), (21, false)] (by kernel_rfl) (by kernel_rfl) (fun _ _ d _ _ h => by cases d <;> exact h) ?_
        simp only [picked, List.map_cons, List.map_nil, List.getElem?_cons_succ, List.getElem?_cons_zero, Option.getD_some]
        repeat (first | (refine wpH_quiet (by rfl) (fun K hK => ?_); go_big_quiet_op; refine hK _ ?_; clear hK K) | (refine wpH_skip (by rfl) ?_; simp only [Act.put, List.setIfInBounds_toArray, List.set_cons_zero, List.set_cons_succ]))
        refine wpH_one (by rfl) (fun K hK => ?_)
        go_simp
        refine hK _ _ (keep_two (by simp) (Below.heap_setCell wr ⟨g2, r1, none⟩ _ g HG2.out.1) (Below.heap_setCell wr ⟨g2, r1, none⟩ _ cb HG2.out.2)) ?_
        clear hK K
        refine wpH_nil ?_
        have HN : Hid (FlushRel F g D w1 (some ⟨g2, 0, none⟩) k2 (some ⟨cb, co, none⟩) cc L O K0 (k + 1) (wr.setCell ⟨g2, r1, none⟩ (.slice A3 n3 c3)).drew) := by
          refine ⟨HRW.out.of_block (Below.heap_setCell wr ⟨g2, r1, none⟩ _ g HG2.out.1), ⟨HON.out.os, HON.out.tape, HON.out.output, by simpa using HON.out.size, fun b hb hne => (Below.heap_setCell wr ⟨g2, r1, none⟩ _ b (show b ≠ g2 by omega)).trans (HON.out.block b hb hne)⟩, us.set r1 (.slice A3 n3 c3), own_set HOW.out _, ?_⟩
          rw [HFT.out]
          exact HMU.out.set r1 HSV.out
        go_wp2
        go_roundw
        case measure => simp [intOf]; omega
        exact ⟨k + 1, by omega, rfl, HN.out⟩
      · obtain rfl : k = D.cache.length := by omega
        rw [List.take_length] at HMU
        have f1 := HRW.out.frozen 1
        go_wp2
        go_ret
        have ho := ownsRow_setCell_below HOW.out (a := ⟨g, 1, none⟩) HGL1.out (.slice none 0 0)
        refine ⟨rfl, ⟨HFG.out, fun b hb => Nat.lt_of_lt_of_le (HFL.out b hb) (HON.out.set 1 _).size, A2, k2, none, 0, us, [], (HRW.out.set 1 _).congr fun i hi => ?_, CellsAt.off (CellsAt.of_own ho) (own_far ho HFL.out), HMU.out.mono fun x y h => h.only (HON.out.set 1 _) HFG.out, .inl rfl, Match.nil⟩, HO.out.trans (HON.out.set 1 _)⟩
        have : i = 0 ∨ i = 1 ∨ i = 2 ∨ i = 3 ∨ i = 4 := by omega
        rcases this with rfl | rfl | rfl | rfl | rfl
        · show Value.slice A2 D.safe.length k2 = .slice A2 (fold D.cache D.safe).length k2
          rw [fold_length]
        all_goals rfl
  · have e : Hid (D.flush = (⟨D.safe, D.cache, L, O, K0⟩, E)) := by show _ = _; rw [HE.out, if_pos hE]
    rw [e.out]
    have hE' : ((E : Int) != 0) = true := by simp; omega
    go_enter Try.func25, Try.ntmps25
    go_wp2_with fail
    refine GA.out.mono ?_
    rintro e w1 ⟨rfl, hd, ho⟩
    have HD := Lib.hid hd; have HO := Lib.hid ho; clear hd ho
    go_wp2
    go_ret
    exact ⟨rfl, HD.out, HO.out⟩
end Go.Proofs.Ytnjgjkfdblpddaa
