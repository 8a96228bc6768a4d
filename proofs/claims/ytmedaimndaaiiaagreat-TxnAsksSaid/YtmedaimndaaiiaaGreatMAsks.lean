/- Any acts are checked, compared, made plain, and their IDs told, as the document says: it answers true and changes nothing. No condition. (Merged of 2 texts.) -/
import Derived.Test.YtmedaimndaaiiaaGreatMLand
import Derived.Test.YtmedaimndaaiiaaGreatMAlk
import Derived.Test.YtmedaimndaaiiaaGreatMPl
import Derived.Test.YtmedaimndaaiiaaGreatMTou
import Derived.Test.YtmedaimndaaiiaaGreatMRck
import Derived.Test.YtmedaimndaaiiaaGreatMRpl
import Derived.Test.YtmedaimndaaiiaaGreatMRto
import Derived.Test.YtmedaimndaaiiaaGreatMAwk
import Derived.Test.YtmedaimndaaiiaaGreatMArg
import Derived.Test.YtmedaimndaaiiaaGreatMRk
import Derived.Test.YtmedaimndaaiiaaGreatMTxm
import Derived.Test.YtmedaimndaaiiaaGreatMCells
import Derived.ChangeMaps5
/- Any acts are checked, compared, made plain, and their IDs told, as the document says: TxnAsks answers true and changes nothing. No condition. -/
namespace Go.Proofs.YtmedaimndaaiiaaGreat
open Go.RowKit Go.Deep

theorem NumsAt.asInts {w : World} {A : Option Addr} {l : List Int} (h : NumsAt w A l) : IntsAt w A l := by
  by_cases h0 : l = []
  · exact .inl h0
  · obtain ⟨b, off, rfl, hlt⟩ := h.form (List.length_pos_iff.2 h0)
    refine .inr ⟨b, off, rfl, hlt, fun j c hj => ?_⟩
    obtain ⟨hjl, e⟩ := List.getElem?_eq_some_iff.1 hj
    rw [h.get hjl, e]
theorem acts_row1 (x : World) (ak ai ap : Int) (an : List Nat) (ad : Bool) (aA : Option Addr) (aC : Nat) (ao : List CompV) (h : CompsAt x aA ao) : ActsAt (x.alloc (.cells #[.int .i64 ak, .int .i64 ai, .int .i64 ap, .string (bstr an), .bool ad, .slice aA ao.length aC] 25)) (some ⟨x.heap.size, 0, none⟩) [⟨ak, ai, ap, an, ad, aA, aC, ao⟩] := by
  refine ⟨CellsAt.lit (fun j v h => by rw [← Array.getElem?_toList]; exact h) rfl, fun y hy => ?_⟩
  rw [List.mem_singleton.1 hy]
  exact CompsAt.below h ((Below.refl _ _).alloc (Nat.le_refl _) _)
set_option maxHeartbeats 8000000 in
set_option maxRecDepth 100000 in
theorem txnAsks_any (B : Option Addr) (l : List ActV) (d : Nat) (C : Option Addr) (m : List ActV) (c : Nat) (a : ActV) (hl : l.length ≤ maxLen) (gl : ∀ y ∈ l, y.Good) (hm : m.length ≤ maxLen) (gm : ∀ y ∈ m, y.Good) (ga : a.Good) (w : World) (hB : ActsAt w B l ∧ l.length ≤ d) (hC : ActsAt w C m ∧ m.length ≤ c) (hat : CompsAt w a.opsA a.ops) :
    Calls Tryz.prog 3 #[.slice B l.length d, .slice C m.length c, .agg (actCells a).toArray] w fun e w' => e = .returned (.bool true) ∧ Below w.heap.size w w' := by
  have GA := Lib.hid (fun w => tawake_any w)
  have GS1 := Lib.hid (fun (X : World) (h : Below w.heap.size w X) => tsmall_any none B 0 d [] l (by simp) hl (fun y hy => (List.not_mem_nil hy).elim) gl X (.inl rfl) (hB.1.below h))
  have GS2 := Lib.hid (fun (X : World) (h : Below w.heap.size w X) => tsmall_any none C 0 c [] m (by simp) hm (fun y hy => (List.not_mem_nil hy).elim) gm X (.inl rfl) (hC.1.below h))
  have GS3 := Lib.hid (fun (X : World) (D : Option Addr) (h : ActsAt X D [a]) => tsmall_any none D 0 1 [] [a] (by simp) (by simp [maxLen]) (fun y hy => (List.not_mem_nil hy).elim) (fun y hy => by rw [List.mem_singleton.1 hy]; exact ga) X (.inl rfl) h)
  have HAT := Lib.hid (fun (X : World) (h : Below w.heap.size w X) => hat.below h)
  rw [List.length_nil] at GS1 GS2 GS3
  rw [List.length_singleton] at GS3
  cases h1 : smallB [] l with
  | false =>
    rw [h1] at GS1
    obtain ⟨ak, ai, ap, an, ad, aA, aC, ao⟩ := a
    unfold actCells
    clear gl gm ga hB hC hat GS2 GS3
    go_enter Tryz.func3, Tryz.ntmps3
    have HB0 : Hid (Below w.heap.size w (w.alloc (.cells #[.int .i64 ak, .int .i64 ai, .int .i64 ap, .string (bstr an), .bool ad, .slice aA ao.length aC] 25))) := Lib.hid ((Below.refl _ _).alloc (Nat.le_refl _) _)
    go_wp2_with fail
    refine (GS1.out _ HB0.out).mono ?_
    rintro e x1 ⟨rfl, hb⟩
    have HB1 := Lib.hid (HB0.out.trans (hb.mono HB0.out.size))
    clear hb
    go_wp2_with fail
    refine (GA.out _).mono ?_
    rintro e x2 ⟨rfl, hb⟩
    have HB2 := Lib.hid (HB1.out.trans (hb.mono HB1.out.size))
    clear hb
    go_wp2
    go_ret
    exact ⟨rfl, HB2.out⟩

  | true =>
  cases h2 : smallB [] m with
  | false =>
    rw [h1] at GS1
    rw [h2] at GS2
    obtain ⟨ak, ai, ap, an, ad, aA, aC, ao⟩ := a
    unfold actCells
    clear gl gm ga hB hC hat GS3
    go_enter Tryz.func3, Tryz.ntmps3
    have HB0 : Hid (Below w.heap.size w (w.alloc (.cells #[.int .i64 ak, .int .i64 ai, .int .i64 ap, .string (bstr an), .bool ad, .slice aA ao.length aC] 25))) := Lib.hid ((Below.refl _ _).alloc (Nat.le_refl _) _)
    go_wp2_with fail
    refine (GS1.out _ HB0.out).mono ?_
    rintro e x1 ⟨rfl, hb⟩
    have HB1 := Lib.hid (HB0.out.trans (hb.mono HB0.out.size))
    clear hb
    go_wp2_with fail
    refine (GS2.out _ HB1.out).mono ?_
    rintro e x2 ⟨rfl, hb⟩
    have HB2 := Lib.hid (HB1.out.trans (hb.mono HB1.out.size))
    clear hb
    go_wp2_with fail
    refine (GA.out _).mono ?_
    rintro e x3 ⟨rfl, hb⟩
    have HB3 := Lib.hid (HB2.out.trans (hb.mono HB2.out.size))
    clear hb
    go_wp2
    go_ret
    exact ⟨rfl, HB3.out⟩

  | true =>
  cases h3 : smallB [] [a] with
  | false =>
    rw [h1] at GS1
    rw [h2] at GS2
    rw [h3] at GS3
    obtain ⟨ak, ai, ap, an, ad, aA, aC, ao⟩ := a
    unfold actCells
    clear gl gm ga hB hC hat
    simp only at HAT
    go_enter Tryz.func3, Tryz.ntmps3
    have HB0 : Hid (Below w.heap.size w (w.alloc (.cells #[.int .i64 ak, .int .i64 ai, .int .i64 ap, .string (bstr an), .bool ad, .slice aA ao.length aC] 25))) := Lib.hid ((Below.refl _ _).alloc (Nat.le_refl _) _)
    have HD0 : Hid (Below (w.alloc (.cells #[.int .i64 ak, .int .i64 ai, .int .i64 ap, .string (bstr an), .bool ad, .slice aA ao.length aC] 25)).heap.size (w.alloc (.cells #[.int .i64 ak, .int .i64 ai, .int .i64 ap, .string (bstr an), .bool ad, .slice aA ao.length aC] 25)) (w.alloc (.cells #[.int .i64 ak, .int .i64 ai, .int .i64 ap, .string (bstr an), .bool ad, .slice aA ao.length aC] 25))) := Lib.hid (Below.refl _ _)
    have HBX : Hid (∀ (f : Nat) (v : Value), (actCells ⟨ak, ai, ap, an, ad, aA, aC, ao⟩)[f]? = some v → ∀ X : World, Below (w.alloc (.cells #[.int .i64 ak, .int .i64 ai, .int .i64 ap, .string (bstr an), .bool ad, .slice aA ao.length aC] 25)).heap.size (w.alloc (.cells #[.int .i64 ak, .int .i64 ai, .int .i64 ap, .string (bstr an), .bool ad, .slice aA ao.length aC] 25)) X → X.cell? ⟨w.heap.size, f, none⟩ = some v) := Lib.hid (fun f v hf X h => by
      have h1 : (w.alloc (.cells #[.int .i64 ak, .int .i64 ai, .int .i64 ap, .string (bstr an), .bool ad, .slice aA ao.length aC] 25)).cell? ⟨w.heap.size, f, none⟩ = some v := by
        rw [cell_of_row _ _ _ _ _ _ (heap_alloc_new w _)]
        simpa [actCells] using hf
      exact (h.cell (World.block_lt_of_cell? _ _ h1)).trans h1)
    go_wp2_with fail
    generalize hwn : w.alloc (.cells #[.int .i64 ak, .int .i64 ai, .int .i64 ap, .string (bstr an), .bool ad, .slice aA ao.length aC] 25) = wn at HB0 HD0 HBX ⊢
    clear hwn
    refine (GS1.out _ HB0.out).mono ?_
    rintro e x1 ⟨rfl, hb⟩
    have HB1 := Lib.hid (HB0.out.trans (hb.mono HB0.out.size))
    have HD1 := Lib.hid (HD0.out.trans (hb.mono HD0.out.size))
    clear hb
    go_wp2_with fail
    refine (GS2.out _ HB1.out).mono ?_
    rintro e x2 ⟨rfl, hb⟩
    have HB2 := Lib.hid (HB1.out.trans (hb.mono HB1.out.size))
    have HD2 := Lib.hid (HD1.out.trans (hb.mono HD1.out.size))
    clear hb
    have z0 := HBX.out 0 _ rfl _ HD2.out
    have z1 := HBX.out 1 _ rfl _ HD2.out
    have z2 := HBX.out 2 _ rfl _ HD2.out
    have z3 := HBX.out 3 _ rfl _ HD2.out
    have z4 := HBX.out 4 _ rfl _ HD2.out
    have z5 := HBX.out 5 _ rfl _ HD2.out
    have HL3 := Lib.hid (acts_row1 x2 ak ai ap an ad aA aC ao (HAT.out _ HB2.out))
    have hbl := (Below.refl x2.heap.size x2).alloc (Nat.le_refl _) (.cells #[.int .i64 ak, .int .i64 ai, .int .i64 ap, .string (bstr an), .bool ad, .slice aA ao.length aC] 25)
    replace HB2 := Lib.hid (HB2.out.trans (hbl.mono HB2.out.size))
    replace HD2 := Lib.hid (HD2.out.trans (hbl.mono HD2.out.size))
    clear hbl
    go_wp2_with fail
    clear z0 z1 z2 z3 z4 z5
    refine (GS3.out _ _ HL3.out).mono ?_
    rintro e x3 ⟨rfl, hb⟩
    have HB3 := Lib.hid (HB2.out.trans (hb.mono HB2.out.size))
    have HD3 := Lib.hid (HD2.out.trans (hb.mono HD2.out.size))
    clear hb
    go_wp2_with fail
    refine (GA.out _).mono ?_
    rintro e x4 ⟨rfl, hb⟩
    have HB4 := Lib.hid (HB3.out.trans (hb.mono HB3.out.size))
    clear hb
    go_wp2
    go_ret
    exact ⟨rfl, HB4.out⟩

  | true =>
    rw [h1] at GS1
    rw [h2] at GS2
    rw [h3] at GS3
    have gl2 := acts_guard gl (small_yes h1).2.1
    have gm2 := acts_guard gm (small_yes h2).2.1
    have ga2 := acts_guard (l := [a]) (fun y hy => by rw [List.mem_singleton.1 hy]; exact ga) (small_yes h3).2.1 a (by simp)
    have hao : a.ops.length ≤ 1099511627776 := Nat.le_trans (acts_parts (l := [a]) (small_yes h3).2.1 a (by simp)) (by omega)
    have hl60 := (small_yes h1).2.2
    have GC1 := Lib.hid (fun (X : World) (h : Below w.heap.size w X) => txnCheck_any B d l hl hB.2 gl2 X (hB.1.below h))
    have GC2 := Lib.hid (fun (X : World) (h : Below w.heap.size w X) => refChk_any B d l hl gl2 X (hB.1.below h))
    have GM1 := Lib.hid (fun (X : World) (h : Below w.heap.size w X) => txnSame_any B C d c l m hl hm gl gm X (hB.1.below h) (hC.1.below h))
    have GM2 := Lib.hid (fun (X : World) (h : Below w.heap.size w X) => refSameActs_any B C d c l m hl hm gl gm X (hB.1.below h) (hC.1.below h))
    have GP1 := Lib.hid (fun (X : World) (h : Below w.heap.size w X) => txnPlain_any a ga2 hao X (hat.below h))
    have GP2 := Lib.hid (fun (X : World) (_ : Below w.heap.size w X) => refPlain_any a X)
    have GSM : Hid (∀ (b : ActV), aKey b = aKey (aPlain a) → b.Good → ∀ X : World, Below w.heap.size w X → CompsAt X b.opsA b.ops → Calls Tryz.prog 13 #[.agg (actCells b).toArray, .agg (actCells (aPlain a)).toArray] X fun e w' => e = .returned (.bool true) ∧ Below X.heap.size X w') := Lib.hid (fun b hk hg X h hc => by
      have := refSameAct_any b (aPlain a) hg (Good.plain ga) X hc (comps_plain (hat.below h))
      rw [sameA_yes hk] at this
      exact this)
    have GT1 := Lib.hid (fun (X : World) (h : Below w.heap.size w X) => txnTouches_any B d l (by omega) X (hB.1.below h))
    have GT2 := Lib.hid (fun (X : World) (h : Below w.heap.size w X) => refTouches_any B d l (by omega) X (hB.1.below h))
    have GI : Hid (∀ (A1 A2 : Option Addr) (c1 c2 : Nat) (X : World), NumsAt X A1 (tch l) → NumsAt X A2 (tch l) → Calls Tryz.prog 16 #[.slice A1 (tch l).length c1, .slice A2 (tch l).length c2] X fun e w' => e = .returned (.bool true) ∧ Below X.heap.size X w') := Lib.hid (fun A1 A2 c1 c2 X g1 g2 => alikeInts_same c1 c2 (by have := tch_len l; unfold maxLen; omega) X g1.asInts g2.asInts)
    generalize rChk l = r at GC1 GC2
    generalize sameAs l m = sm at GM1 GM2
    generalize tch l = tl at GT1 GT2 GI
    generalize hpl : aPlain a = pa at GP1 GP2 GSM
    clear hpl
    clear gl gm ga hB hC hat gl2 gm2 ga2 h1 h2 h3
    obtain ⟨ak, ai, ap, an, ad, aA, aC, ao⟩ := a
    unfold actCells at GP1 GP2 GSM ⊢
    simp only at HAT
    go_enter Tryz.func3, Tryz.ntmps3
    have HB0 : Hid (Below w.heap.size w (w.alloc (.cells #[.int .i64 ak, .int .i64 ai, .int .i64 ap, .string (bstr an), .bool ad, .slice aA ao.length aC] 25))) := Lib.hid ((Below.refl _ _).alloc (Nat.le_refl _) _)
    have HD0 : Hid (Below (w.alloc (.cells #[.int .i64 ak, .int .i64 ai, .int .i64 ap, .string (bstr an), .bool ad, .slice aA ao.length aC] 25)).heap.size (w.alloc (.cells #[.int .i64 ak, .int .i64 ai, .int .i64 ap, .string (bstr an), .bool ad, .slice aA ao.length aC] 25)) (w.alloc (.cells #[.int .i64 ak, .int .i64 ai, .int .i64 ap, .string (bstr an), .bool ad, .slice aA ao.length aC] 25))) := Lib.hid (Below.refl _ _)
    have HBX : Hid (∀ (f : Nat) (v : Value), (actCells ⟨ak, ai, ap, an, ad, aA, aC, ao⟩)[f]? = some v → ∀ X : World, Below (w.alloc (.cells #[.int .i64 ak, .int .i64 ai, .int .i64 ap, .string (bstr an), .bool ad, .slice aA ao.length aC] 25)).heap.size (w.alloc (.cells #[.int .i64 ak, .int .i64 ai, .int .i64 ap, .string (bstr an), .bool ad, .slice aA ao.length aC] 25)) X → X.cell? ⟨w.heap.size, f, none⟩ = some v) := Lib.hid (fun f v hf X h => by
      have h1 : (w.alloc (.cells #[.int .i64 ak, .int .i64 ai, .int .i64 ap, .string (bstr an), .bool ad, .slice aA ao.length aC] 25)).cell? ⟨w.heap.size, f, none⟩ = some v := by
        rw [cell_of_row _ _ _ _ _ _ (heap_alloc_new w _)]
        simpa [actCells] using hf
      exact (h.cell (World.block_lt_of_cell? _ _ h1)).trans h1)
    go_wp2_with fail
    generalize hwn : w.alloc (.cells #[.int .i64 ak, .int .i64 ai, .int .i64 ap, .string (bstr an), .bool ad, .slice aA ao.length aC] 25) = wn at HB0 HD0 HBX ⊢
    clear hwn
    refine (GS1.out _ HB0.out).mono ?_
    rintro e x1 ⟨rfl, hb⟩
    have HB1 := Lib.hid (HB0.out.trans (hb.mono HB0.out.size))
    have HD1 := Lib.hid (HD0.out.trans (hb.mono HD0.out.size))
    clear hb
    go_wp2_with fail
    refine (GS2.out _ HB1.out).mono ?_
    rintro e x2 ⟨rfl, hb⟩
    have HB2 := Lib.hid (HB1.out.trans (hb.mono HB1.out.size))
    have HD2 := Lib.hid (HD1.out.trans (hb.mono HD1.out.size))
    clear hb
    have z0 := HBX.out 0 _ rfl _ HD2.out
    have z1 := HBX.out 1 _ rfl _ HD2.out
    have z2 := HBX.out 2 _ rfl _ HD2.out
    have z3 := HBX.out 3 _ rfl _ HD2.out
    have z4 := HBX.out 4 _ rfl _ HD2.out
    have z5 := HBX.out 5 _ rfl _ HD2.out
    have HL3 := Lib.hid (acts_row1 x2 ak ai ap an ad aA aC ao (HAT.out _ HB2.out))
    have hbl := (Below.refl x2.heap.size x2).alloc (Nat.le_refl _) (.cells #[.int .i64 ak, .int .i64 ai, .int .i64 ap, .string (bstr an), .bool ad, .slice aA ao.length aC] 25)
    replace HB2 := Lib.hid (HB2.out.trans (hbl.mono HB2.out.size))
    replace HD2 := Lib.hid (HD2.out.trans (hbl.mono HD2.out.size))
    clear hbl
    go_wp2_with fail
    clear z0 z1 z2 z3 z4 z5
    refine (GS3.out _ _ HL3.out).mono ?_
    rintro e x3 ⟨rfl, hb⟩
    have HB3 := Lib.hid (HB2.out.trans (hb.mono HB2.out.size))
    have HD3 := Lib.hid (HD2.out.trans (hb.mono HD2.out.size))
    clear hb
    have eR : (r == r) = true := by simp
    have eS : (sm == sm) = true := by simp
    clear HL3
    go_wp2_with fail
    refine wp_region_lit [(0, true), (2, true), (1, false), (3, false), (4, true), (5, true), (6, true), (7, true), (9, true), (10, true), (8, false), (11, false), (12, true), (13, true), (14, true), (15, true), (17, true), (16, false), (18, false), (19, false), (20, true), (21, true), (22, true), (24, true), (23, false), (25, false), (26, false), (27, true), (28, true), (29, false), (30, true), (31, true)] (by kernel_rfl) (by kernel_rfl) (fun _ _ d _ _ h => by cases d <;> exact h) ?_
    simp only [picked, List.map_cons, List.map_nil, List.getElem?_cons_succ, List.getElem?_cons_zero, Option.getD_some]
    have HB4 := Lib.hid (Below.drew HB3.out)
    have HD4 := Lib.hid (Below.drew HD3.out)
    generalize x3.drew = x4 at HB4 HD4 ⊢
    repeat (first | (refine wpL_quiet (by rfl) (fun K hK => ?_); go_big_quiet_op; refine hK _ ?_; clear hK K) | (refine wpL_skip (by rfl) ?_; simp only [Act.put, List.setIfInBounds_toArray, List.set_cons_zero, List.set_cons_succ]) | (simp only [eR, eS, Bool.not_true, Bool.not_false, Bool.or_false, Bool.false_or, Bool.true_or, Bool.or_true, Bool.false_and, Bool.true_and, Bool.and_true, Bool.and_false]))
    refine wpL_call (by rfl) (fun K hK => ?_)
    go_simp
    refine (GC1.out _ HB4.out).mono ?_
    rintro e x5 ⟨rfl, hb⟩
    have HB5 := Lib.hid (HB4.out.trans (hb.mono HB4.out.size))
    have HD5 := Lib.hid (HD4.out.trans (hb.mono HD4.out.size))
    refine hK _ _ hb ?_
    clear hK K hb
    repeat (first | (refine wpL_quiet (by rfl) (fun K hK => ?_); go_big_quiet_op; refine hK _ ?_; clear hK K) | (refine wpL_skip (by rfl) ?_; simp only [Act.put, List.setIfInBounds_toArray, List.set_cons_zero, List.set_cons_succ]) | (simp only [eR, eS, Bool.not_true, Bool.not_false, Bool.or_false, Bool.false_or, Bool.true_or, Bool.or_true, Bool.false_and, Bool.true_and, Bool.and_true, Bool.and_false]))
    refine wpL_call (by rfl) (fun K hK => ?_)
    go_simp
    refine (GC2.out _ HB5.out).mono ?_
    rintro e x6 ⟨rfl, hb⟩
    have HB6 := Lib.hid (HB5.out.trans (hb.mono HB5.out.size))
    have HD6 := Lib.hid (HD5.out.trans (hb.mono HD5.out.size))
    refine hK _ _ hb ?_
    clear hK K hb
    repeat (first | (refine wpL_quiet (by rfl) (fun K hK => ?_); go_big_quiet_op; refine hK _ ?_; clear hK K) | (refine wpL_skip (by rfl) ?_; simp only [Act.put, List.setIfInBounds_toArray, List.set_cons_zero, List.set_cons_succ]) | (simp only [eR, eS, Bool.not_true, Bool.not_false, Bool.or_false, Bool.false_or, Bool.true_or, Bool.or_true, Bool.false_and, Bool.true_and, Bool.and_true, Bool.and_false]))
    refine wpL_call (by rfl) (fun K hK => ?_)
    go_simp
    refine (GM1.out _ HB6.out).mono ?_
    rintro e x7 ⟨rfl, hb⟩
    have HB7 := Lib.hid (HB6.out.trans (hb.mono HB6.out.size))
    have HD7 := Lib.hid (HD6.out.trans (hb.mono HD6.out.size))
    refine hK _ _ hb ?_
    clear hK K hb
    repeat (first | (refine wpL_quiet (by rfl) (fun K hK => ?_); go_big_quiet_op; refine hK _ ?_; clear hK K) | (refine wpL_skip (by rfl) ?_; simp only [Act.put, List.setIfInBounds_toArray, List.set_cons_zero, List.set_cons_succ]) | (simp only [eR, eS, Bool.not_true, Bool.not_false, Bool.or_false, Bool.false_or, Bool.true_or, Bool.or_true, Bool.false_and, Bool.true_and, Bool.and_true, Bool.and_false]))
    refine wpL_call (by rfl) (fun K hK => ?_)
    go_simp
    refine (GM2.out _ HB7.out).mono ?_
    rintro e x8 ⟨rfl, hb⟩
    have HB8 := Lib.hid (HB7.out.trans (hb.mono HB7.out.size))
    have HD8 := Lib.hid (HD7.out.trans (hb.mono HD7.out.size))
    refine hK _ _ hb ?_
    clear hK K hb
    have e0 := fun e : Ext x8 => HBX.out 0 _ rfl e.val (HD8.out.trans (e.property.mono HD8.out.size))
    have e1 := fun e : Ext x8 => HBX.out 1 _ rfl e.val (HD8.out.trans (e.property.mono HD8.out.size))
    have e2 := fun e : Ext x8 => HBX.out 2 _ rfl e.val (HD8.out.trans (e.property.mono HD8.out.size))
    have e3 := fun e : Ext x8 => HBX.out 3 _ rfl e.val (HD8.out.trans (e.property.mono HD8.out.size))
    have e4 := fun e : Ext x8 => HBX.out 4 _ rfl e.val (HD8.out.trans (e.property.mono HD8.out.size))
    have e5 := fun e : Ext x8 => HBX.out 5 _ rfl e.val (HD8.out.trans (e.property.mono HD8.out.size))
    repeat (first | (refine wpL_quiet (by rfl) (fun K hK => ?_); go_big_quiet_op; refine hK _ ?_; clear hK K) | (refine wpL_skip (by rfl) ?_; simp only [Act.put, List.setIfInBounds_toArray, List.set_cons_zero, List.set_cons_succ]) | (simp only [eR, eS, Bool.not_true, Bool.not_false, Bool.or_false, Bool.false_or, Bool.true_or, Bool.or_true, Bool.false_and, Bool.true_and, Bool.and_true, Bool.and_false]))
    clear e0 e1 e2 e3 e4 e5
    refine wpL_call (by rfl) (fun K hK => ?_)
    go_simp
    refine (GP1.out _ HB8.out).mono ?_
    rintro e x9 ⟨⟨b, rfl, hk, hbg, hbc⟩, hb⟩
    have HB9 := Lib.hid (HB8.out.trans (hb.mono HB8.out.size))
    have HD9 := Lib.hid (HD8.out.trans (hb.mono HD8.out.size))
    have HK := Lib.hid hk
    have HBG := Lib.hid hbg
    have HBC := Lib.hid hbc
    clear hk hbg hbc
    refine hK _ _ hb ?_
    clear hK K hb
    repeat (first | (refine wpL_quiet (by rfl) (fun K hK => ?_); go_big_quiet_op; refine hK _ ?_; clear hK K) | (refine wpL_skip (by rfl) ?_; simp only [Act.put, List.setIfInBounds_toArray, List.set_cons_zero, List.set_cons_succ]) | (simp only [eR, eS, Bool.not_true, Bool.not_false, Bool.or_false, Bool.false_or, Bool.true_or, Bool.or_true, Bool.false_and, Bool.true_and, Bool.and_true, Bool.and_false]))
    refine wpL_call (by rfl) (fun K hK => ?_)
    go_simp
    refine (GP2.out _ HB9.out).mono ?_
    rintro e x10 ⟨rfl, hb⟩
    have HB10 := Lib.hid (HB9.out.trans (hb.mono HB9.out.size))
    have HD10 := Lib.hid (HD9.out.trans (hb.mono HD9.out.size))
    replace HBC := Lib.hid (HBC.out.below hb)
    refine hK _ _ hb ?_
    clear hK K hb
    repeat (first | (refine wpL_quiet (by rfl) (fun K hK => ?_); go_big_quiet_op; refine hK _ ?_; clear hK K) | (refine wpL_skip (by rfl) ?_; simp only [Act.put, List.setIfInBounds_toArray, List.set_cons_zero, List.set_cons_succ]) | (simp only [eR, eS, Bool.not_true, Bool.not_false, Bool.or_false, Bool.false_or, Bool.true_or, Bool.or_true, Bool.false_and, Bool.true_and, Bool.and_true, Bool.and_false]))
    refine wpL_call (by rfl) (fun K hK => ?_)
    go_simp
    refine (GSM.out b HK.out HBG.out _ HB10.out HBC.out).mono ?_
    rintro e x11 ⟨rfl, hb⟩
    have HB11 := Lib.hid (HB10.out.trans (hb.mono HB10.out.size))
    have HD11 := Lib.hid (HD10.out.trans (hb.mono HD10.out.size))
    refine hK _ _ hb ?_
    clear hK K hb
    repeat (first | (refine wpL_quiet (by rfl) (fun K hK => ?_); go_big_quiet_op; refine hK _ ?_; clear hK K) | (refine wpL_skip (by rfl) ?_; simp only [Act.put, List.setIfInBounds_toArray, List.set_cons_zero, List.set_cons_succ]) | (simp only [eR, eS, Bool.not_true, Bool.not_false, Bool.or_false, Bool.false_or, Bool.true_or, Bool.or_true, Bool.false_and, Bool.true_and, Bool.and_true, Bool.and_false]))
    refine wpL_call (by rfl) (fun K hK => ?_)
    go_simp
    refine (GT1.out _ HB11.out).mono ?_
    rintro e x12 ⟨⟨A5, c5, rfl, hn⟩, hb⟩
    have HB12 := Lib.hid (HB11.out.trans (hb.mono HB11.out.size))
    have HD12 := Lib.hid (HD11.out.trans (hb.mono HD11.out.size))
    have HN5 := Lib.hid hn
    clear hn
    refine hK _ _ hb ?_
    clear hK K hb
    repeat (first | (refine wpL_quiet (by rfl) (fun K hK => ?_); go_big_quiet_op; refine hK _ ?_; clear hK K) | (refine wpL_skip (by rfl) ?_; simp only [Act.put, List.setIfInBounds_toArray, List.set_cons_zero, List.set_cons_succ]) | (simp only [eR, eS, Bool.not_true, Bool.not_false, Bool.or_false, Bool.false_or, Bool.true_or, Bool.or_true, Bool.false_and, Bool.true_and, Bool.and_true, Bool.and_false]))
    refine wpL_call (by rfl) (fun K hK => ?_)
    go_simp
    refine (GT2.out _ HB12.out).mono ?_
    rintro e x13 ⟨⟨A6, c6, rfl, hn⟩, hb⟩
    have HB13 := Lib.hid (HB12.out.trans (hb.mono HB12.out.size))
    have HD13 := Lib.hid (HD12.out.trans (hb.mono HD12.out.size))
    have HN6 := Lib.hid hn
    replace HN5 := Lib.hid (HN5.out.below hb)
    clear hn
    refine hK _ _ hb ?_
    clear hK K hb
    repeat (first | (refine wpL_quiet (by rfl) (fun K hK => ?_); go_big_quiet_op; refine hK _ ?_; clear hK K) | (refine wpL_skip (by rfl) ?_; simp only [Act.put, List.setIfInBounds_toArray, List.set_cons_zero, List.set_cons_succ]) | (simp only [eR, eS, Bool.not_true, Bool.not_false, Bool.or_false, Bool.false_or, Bool.true_or, Bool.or_true, Bool.false_and, Bool.true_and, Bool.and_true, Bool.and_false]))
    refine wpL_call (by rfl) (fun K hK => ?_)
    go_simp
    refine (GI.out _ _ _ _ _ HN5.out HN6.out).mono ?_
    rintro e x14 ⟨rfl, hb⟩
    have HB14 := Lib.hid (HB13.out.trans (hb.mono HB13.out.size))
    have HD14 := Lib.hid (HD13.out.trans (hb.mono HD13.out.size))
    refine hK _ _ hb ?_
    clear hK K hb
    repeat (first | (refine wpL_quiet (by rfl) (fun K hK => ?_); go_big_quiet_op; refine hK _ ?_; clear hK K) | (refine wpL_skip (by rfl) ?_; simp only [Act.put, List.setIfInBounds_toArray, List.set_cons_zero, List.set_cons_succ]) | (simp only [eR, eS, Bool.not_true, Bool.not_false, Bool.or_false, Bool.false_or, Bool.true_or, Bool.or_true, Bool.false_and, Bool.true_and, Bool.and_true, Bool.and_false]))
    refine wpL_call (by rfl) (fun K hK => ?_)
    go_simp
    refine (GA.out _).mono ?_
    rintro e x15 ⟨rfl, hb⟩
    have HB15 := Lib.hid (HB14.out.trans (hb.mono HB14.out.size))
    have HD15 := Lib.hid (HD14.out.trans (hb.mono HD14.out.size))
    refine hK _ _ hb ?_
    clear hK K hb
    repeat (first | (refine wpL_quiet (by rfl) (fun K hK => ?_); go_big_quiet_op; refine hK _ ?_; clear hK K) | (refine wpL_skip (by rfl) ?_; simp only [Act.put, List.setIfInBounds_toArray, List.set_cons_zero, List.set_cons_succ]) | (simp only [eR, eS, Bool.not_true, Bool.not_false, Bool.or_false, Bool.false_or, Bool.true_or, Bool.or_true, Bool.false_and, Bool.true_and, Bool.and_true, Bool.and_false]))
    refine wpL_nil ?_
    go_wp2
    go_ret
    exact ⟨rfl, HB15.out⟩

end Go.Proofs.YtmedaimndaaiiaaGreat

/- Any acts are checked, compared, made plain, and their IDs told, as the document says: it answers true and changes nothing. No condition. -/
namespace Go.Proofs.YtmedaimndaaiiaaGreat
open Go.ChangeShapes Go.WideShapes Go.ChangeAt Go.RowKit

set_option maxRecDepth 100000 in
theorem txnAsks_lifted (os : Os) (started : os.Started) (H : Type) (enc : TypeId × Value → H) :
    ReturnsInHanded {} Tryz.checked os 3 .any (Rows.txnAsksSpec.pre6 enc Tryz.prog Tryz.f3 Rows.txnAsksRow.domain false) (Rows.txnAsksSpec.post enc Tryz.prog Tryz.f3 false true false false) := by
  refine returnsInHanded_of_change (C := Tryz.checked) law_own started (by kernel_rfl) Tryz.func3
    (ChangeSpec.witness6 (enc := enc) (C := Tryz.checked) false ⟨#[], #[.slice none 0 0, .slice none 0 0, .agg #[.int .i64 0, .int .i64 0, .int .i64 0, .string { data := #[] }, .bool false, .slice none 0 0]], []⟩ 8 (by kernel_rfl) (by kernel_rfl) (by kernel_rfl) (by kernel_rfl)) ?_
  intro W base args ds gs before hval0 hW _ _
  have hval : ∀ (j : Nat) t v, Tryz.f3.params[j]? = some t → args[j]? = some v → Value.okWide Tryz.prog W .any base t v := hval0
  have hW' := hW
  obtain ⟨p, q, hA0, hV, rfl, _, _⟩ := hW
  have hlt : ∀ x ∈ p ++ q, x.block < W.heap.size := fun x hx => hW'.lt x hx
  have hA : DataW.TrodAll enc Tryz.prog W 0 (fun _ => true) true Tryz.f3.params.toList args.toList ds p := hA0
  rw [Tryz.params3] at hA hval
  obtain ⟨v0, v1, v2, d0, d1, d2, p0, p1, p2, rfl, rfl, rfl, h0, h1, h2⟩ := trodAll_three hA
  obtain ⟨rfl, rfl⟩ := trodVars_none hV
  obtain ⟨A0, l0, c0, rfl, hat0, hg0, hlc0, hc0⟩ := open_acts (hval 0 22 v0 rfl rfl) h0 (fun x hx => hlt x (by simp [hx]))
  have hl0 : l0.length ≤ maxLen := by omega
  obtain ⟨A1, l1, c1, rfl, hat1, hg1, hlc1, hc1⟩ := open_acts (hval 1 22 v1 rfl rfl) h1 (fun x hx => hlt x (by simp [hx]))
  have hl1 : l1.length ≤ maxLen := by omega
  obtain ⟨a2, rfl, hg2, hat2⟩ := open_act (hval 2 25 v2 rfl rfl) h2 (fun x hx => hlt x (by simp [hx]))
  clear hA0 hval0
  refine (txnAsks_any A0 l0 c0 A1 l1 c1 a2 hl0 hg0 hl1 hg1 hg2 W ⟨hat0, hlc0⟩ ⟨hat1, hlc1⟩ hat2).mono fun e W' ⟨he, hb⟩ => ?_
  exact ⟨_, he, law_post law_laid (by kernel_rfl) (by kernel_rfl) Tryz.underlying4 rfl hW' rfl hb⟩

theorem txnAsks_holds : Rows.TxnAsksSaid :=
  OpenClaim.holds_of_wide 3 Tryz.f3 rfl rfl rfl rfl rfl rfl rfl ⟨rfl, rfl, rfl, rfl, rfl⟩ rfl rfl rfl rfl rfl (by kernel_rfl) Tryz.func3 (by kernel_rfl)
    (of_decide_eq_true (by kernel_rfl)) (by unfold Func.isWrapper; first | (rw [if_pos (by decide +kernel)]; kernel_rfl) | (rw [if_neg (by decide +kernel)]; exact ⟨rfl, rfl⟩))
    (fun os started H enc _ => txnAsks_lifted os started H enc)
end Go.Proofs.YtmedaimndaaiiaaGreat
