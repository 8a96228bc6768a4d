/- The landed disk: the contract of Write. Condition: fewer than 2^20 writes in the cache, fewer than 2^40 acts. -/
import Derived.Test.YtahfkcfbmklfpaaDiskPack
namespace Go.Proofs.Ytahfkcfbmklfpaa
open Go.RowKit Go.Deep

theorem act_code (D : DiskD) : D.act.2 = 0 ∨ D.act.2 = 7 := by unfold DiskD.act; split <;> simp
theorem nowL_snoc (D : DiskD) (q : Nat) (l : List Nat) (L : Int) (F : Bool) (K : Nat) : nowL ⟨D.safe, D.cache ++ [(q, l)], L, F, K⟩ = (nowL D).set q l := by
  simp only [nowL, fold, List.foldl_append, List.foldl_cons, List.foldl_nil, List.map_set]
  rfl
theorem nowL_length (D : DiskD) : (nowL D).length = D.safe.length := by rw [nowL, List.length_map, fold_length]
theorem LandAt.wrote {O : Nat → Prop} {g : Nat} {D : DiskD} {w1 w3 w4 : World} {bs sc bn nc cc g' cap q : Nat} {cA : Option Addr} {cut : Bool} {left : Int} {l : List Nat}
    (hg : O g) (hl : ∀ b, O b → b < w1.heap.size) (o1 : O bs) (o2 : O bn) (o3 : ∀ a, cA = some a → O a.block) (d1 : bs ≠ bn) (d2 : bs ≠ g) (d3 : bn ≠ g) (d4 : ∀ a, cA = some a → a.block ≠ g ∧ a.block ≠ bs ∧ a.block ≠ bn)
    (hr : w1.rowIs g 70 7 (landCells bs sc bn nc D.safe.length cA D.cache.length cc D.ops cut left D.off)) (hsr : SecRow w1 bs (safeL D)) (hnr : SecRow w1 bn (nowL D)) (hp : Power D cut left)
    (hb3 : Below w1.heap.size w1 w3) (ho4 : w4.ownsRow 0 78 65 (.slice (some ⟨g', 0, none⟩) (D.cache.length + 1) cap) (D.cache.length + 1) (D.cache.flatMap wrCells ++ wrCells (q, l)))
    (hg4 : w3.grownBy w4 (Value.ownBlock (.slice cA D.cache.length cc))) (hgb : Value.ownBlock (.slice cA D.cache.length cc) = some g' ∨ g' = w3.heap.size) (hlt : g' < w4.heap.size) (hq : q < D.safe.length) (hl64 : l.length = 64) :
    ∃ O' : Nat → Prop, (∀ x, O' x → O x ∨ w1.heap.size ≤ x) ∧ LandAt O' g ⟨D.safe, D.cache ++ [(q, l)], D.left, D.off, D.ops⟩ ((w4.setCell ⟨g, 2, none⟩ (.slice (some ⟨g', 0, none⟩) (D.cache.length + 1) cap)).drew.setCells bn (q * 64) (u8s l)) ∧
      Off O w1 ((w4.setCell ⟨g, 2, none⟩ (.slice (some ⟨g', 0, none⟩) (D.cache.length + 1) cap)).drew.setCells bn (q * 64) (u8s l)) := by
  have hrow : ∀ k, Value.ownBlock (.slice cA D.cache.length cc) = some k → O k ∧ k ≠ g ∧ k ≠ bs ∧ k ≠ bn := by
    intro k hk
    cases cA with
    | none => cases hk
    | some a =>
      injection hk with hk
      subst hk
      exact ⟨o3 a rfl, d4 a rfl⟩
  have hkeep : ∀ k, k < w1.heap.size → Value.ownBlock (.slice cA D.cache.length cc) ≠ some k → w4.heap[k]? = w1.heap[k]? := fun k hk hne => (hg4.block k (Nat.lt_of_lt_of_le hk hb3.size) (fun e => hne e.symm)).trans (hb3.block k hk)
  have hgl := hl g hg
  have hsl := hl bs o1
  have hnl := hl bn o2
  have hs4 : w1.heap.size ≤ w4.heap.size := Nat.le_trans hb3.size hg4.size
  have kg := hkeep g hgl fun e => (hrow g e).2.1 rfl
  have kbs := hkeep bs hsl fun e => (hrow bs e).2.2.1 rfl
  have kbn := hkeep bn hnl fun e => (hrow bn e).2.2.2 rfl
  have hg'n : g' ≠ g ∧ g' ≠ bs ∧ g' ≠ bn := by
    rcases hgb with h | h
    · exact (hrow g' h).2
    · have := hb3.size
      omega
  generalize hv : Value.slice (some ⟨g', 0, none⟩) (D.cache.length + 1) cap = v at ho4 ⊢
  have hn5 : Only g w4 (w4.setCell ⟨g, 2, none⟩ v).drew := ((Only.refl g w4).set 2 v).drew
  have hr5 := ((hr.of_block kg).set 2 v).drew
  generalize (w4.setCell ⟨g, 2, none⟩ v).drew = w5 at hn5 hr5 ⊢
  have hn6 : Only bn w5 (w5.setCells bn (q * 64) (u8s l)) := Only.cells _ _ _
  have hnow := (hnr.kept hs4 kbn).kept hn5.size (hn5.block bn (by omega) d3)
  have hput := hnow.put (nowL_at D hq) l (by omega)
  have hdrop : (secB (D.look q)).drop l.length = [] := by
    have := (hnow.2.1 q _ (nowL_at D hq)).1
    rw [List.drop_eq_nil_iff]
    omega
  rw [hdrop, List.append_nil] at hput
  generalize w5.setCells bn (q * 64) (u8s l) = w6 at hn6 hput ⊢
  have hs5 := hn5.size
  have hs6 := hn6.size
  refine ⟨fun x => O x ∨ x = g', fun x hx => ?_, ⟨.inl hg, fun b hb => ?_, bs, sc, bn, nc, some ⟨g', 0, none⟩, cap, cut, left, .inl o1, .inl o2, (fun a ha => ?_), d1, d2, d3, (fun a ha => ?_), ?_, ?_, ?_, ?_, hp⟩, ?_⟩
  · rcases hx with hx | rfl
    · exact .inl hx
    · rcases hgb with h | h
      · exact .inl (hrow x h).1
      · exact .inr (by rw [h]; exact hb3.size)
  · rcases hb with hb | rfl
    · have := hl b hb
      omega
    · omega
  · injection ha with ha
    subst ha
    exact .inr rfl
  · injection ha with ha
    subst ha
    exact hg'n
  · refine (hr5.of_block (hn6.block g (by omega) (Ne.symm d3))).congr fun i hi => ?_
    rcases seven hi with rfl | rfl | rfl | rfl | rfl | rfl | rfl
    · rfl
    · rfl
    · show v = .slice (some ⟨g', 0, none⟩) (D.cache ++ [(q, l)]).length cap
      rw [← hv, List.length_append]; rfl
    all_goals rfl
  · exact ((hsr.kept hs4 kbs).kept hs5 (hn5.block bs (by omega) d2)).kept hs6 (hn6.block bs (by omega) d1)
  · rw [nowL_snoc]
    exact hput
  · subst hv
    have h1 := own_kept (w' := w5) ho4 fun a ha => by injection ha with ha; subst ha; exact hn5.block g' hlt hg'n.1
    have h2 := own_kept (w' := w6) h1 fun a ha => by injection ha with ha; subst ha; exact hn6.block g' (by omega) hg'n.2.2
    rw [List.length_append, List.flatMap_append]
    simpa using h2
  · refine ⟨?_, ?_, ?_, by omega, fun k hk hO => ?_⟩
    · rw [hn6.os, hn5.os, hg4.os, hb3.os]
    · rw [hn6.tape, hn5.tape, hg4.tape, hb3.tape]
    · rw [hn6.output, hn5.output, hg4.output, hb3.output]
    · rw [hn6.block k (by omega) (fun e => hO (e ▸ o2)), hn5.block k (by omega) (fun e => hO (e ▸ hg)), hkeep k hk (fun e => hO (hrow k e).1)]

theorem run_sector_of (A : Option Addr) (n c : Nat) (hn : ¬n < 64) (w : World) : (Instr.arrayAt 76 (.slice A n c)).run Try.prog w = .ok (.pointer A) w := by
  simp [Instr.arrayAt, run_underlying Try.underlying76, hn]
/-- What a call on a landed disk leaves. -/
def LandEnd (O : Nat → Prop) (g : Nat) (D : DiskD) (w w' : World) : Prop := ∃ O' : Nat → Prop, (∀ x, O' x → O x ∨ w.heap.size ≤ x) ∧ LandAt O' g D w' ∧ Off O w w'
theorem LandEnd.of_only {O : Nat → Prop} {g : Nat} {D : DiskD} {w w' : World} (h : LandAt O g D w') (ho : Only g w w') : LandEnd O g D w w' := ⟨O, fun _ h => .inl h, h, Off.of_only ho h.1⟩
def landWriteS0 : Sched Nat := .one 7 (.quiet 8 (.quiet 9 (.one 10 .done)))
def landWriteS : Sched Nat := .quiet 0 (.quiet 1 (.quiet 2 (.quiet 3 (.quiet 5 (.two 4 (.one 6 landWriteS0) 6 (.one 4 landWriteS0))))))

set_option maxHeartbeats 2000000 in
set_option maxRecDepth 100000 in
theorem landWrite_any (O : Nat → Prop) (g : Nat) (D : DiskD) (hops : D.ops ≤ 1099511627776) (hc : D.cache.length ≤ 1048576) (at_ : Int) (A : Option Addr) (l : List Nat) (c : Nat) (w : World) (hat : BytesAt w A l) (hA : ∀ a, A = some a → a.block ≠ g) (h : LandAt O g D w) :
    Calls Try.prog 60 #[.pointer (some ⟨g, 0, none⟩), .int .i64 at_, .slice A l.length c] w fun e w' => e = .returned (.int .i64 ((D.write at_ l).2 : Nat)) ∧ LandEnd O g (D.write at_ l).1 w w' := by
  have GA := Lib.hid (landAct_any O g D hops w h)
  have HGL := Lib.hid h.lt
  clear h
  have HE : Hid (D.write at_ l = if D.act.2 ≠ 0 then D.act else if at_ < 0 ∨ (D.safe.length : Int) ≤ at_ ∨ l.length ≠ 64 then (D.act.1, 1) else (⟨D.safe, D.cache ++ [(at_.toNat, l)], D.act.1.left, D.act.1.off, D.act.1.ops⟩, 0)) := rfl
  have hsf := act_safe D
  have hcode := act_code D
  obtain ⟨X, HX⟩ : ∃ X, Hid (D.act = X) := ⟨_, rfl⟩
  rw [HX.out] at GA HE hsf hcode
  obtain ⟨⟨S, C, L, F, K⟩, E⟩ := X
  simp only at GA HE hsf hcode
  obtain ⟨hS, hC⟩ := hsf
  subst hS hC
  have HAT := Lib.hid hat; have HAN := Lib.hid hA
  clear hat hA
  rcases hcode with rfl | rfl
  · rw [if_neg (by simp)] at HE
    by_cases hin : 0 ≤ at_ ∧ at_ < (D.safe.length : Int)
    · obtain ⟨q, rfl⟩ : ∃ q : Nat, at_ = (q : Int) := ⟨at_.toNat, by omega⟩
      have hq : q < D.safe.length := by omega
      by_cases h3 : l.length = 64
      · have e : Hid (D.write q l = (⟨D.safe, D.cache ++ [(q, l)], L, F, K⟩, 0)) := by show _ = _; rw [HE.out, if_neg (by omega), Int.toNat_natCast]
        rw [e.out]
        obtain ⟨ab, ao, rfl, _⟩ := HAT.out.form (by omega)
        have h3' : ((l.length : Int) != 64) = false := by rw [h3]; rfl
        have harr := fun w : World => run_sector_of (some ⟨ab, ao, none⟩) l.length c (by omega) w
        have HL64 := Lib.hid h3; clear h3
        have HQ := Lib.hid hq; clear hq
        obtain ⟨Z, hZs, hZ⟩ := zero_write
        have HZ := Lib.hid hZ; have HZS := Lib.hid hZs; clear hZ hZs
        have HB := Lib.hid (built_write q (u8s l).toArray (by rw [List.size_toArray, u8s_length, HL64.out]))
        rw [wr_toArray] at HB
        have HWL : Hid ((Value.int .i64 (q : Int) :: u8s l).length = 65) := by show _ = 65; rw [List.length_cons, u8s_length, HL64.out]
        have HW1 : Hid (∀ u ∈ (Value.int .i64 (q : Int) :: u8s l), u.oneCell' = true) := fun u hu => by
          rcases List.mem_cons.1 hu with rfl | hu
          · rfl
          · exact u8s_one l u hu
        go_enter Try.func60, Try.ntmps60
        go_wp2_with fail
        refine GA.out.mono ?_
        rintro e w1 ⟨rfl, hd, ho⟩
        have HD := Lib.hid hd; have HO := Lib.hid ho; clear hd ho
        go_wp2_with fail
        refine (landHas_any O g _ q w1 HD.out).mono ?_
        rintro e w' ⟨rfl, rfl⟩
        rw [decide_eq_true hin]
        have HAT1 : Hid (BytesAt w1 (some ⟨ab, ao, none⟩) l) := HAT.out.onlyA HO.out HAN.out
        go_wp2_with (first
          | (refine wpList_load_mid rfl 76 (.tmp 22) rfl ab ao rfl (u8s l) (.array 64 5) (bytes_range HAT1.out) Try.underlying76 rfl (by rw [size_sector, u8s_length, HL64.out]) ?_)
          | (refine wpList_buildTo rfl 78 _ rfl (some 24) rfl (Value.int .i64 (q : Int) :: u8s l).toArray (by simp only [List.map_toArray, List.map_cons, List.map_nil]; exact HB.out) ?_)
          | (refine wpList_alloc_z rfl 78 rfl Z HZ.out ?_)
          | (refine wpList_store_row rfl 78 (.tmp 7) (.tmp 24) rfl w1.heap.size (Value.int .i64 (q : Int) :: u8s l).toArray rfl rfl 78 Z.cells (heap_alloc_new w1 _) (by rw [size_write, List.size_toArray, HWL.out]) (by rw [HZS.out, List.size_toArray, HWL.out]) (all_oneCell_toArray HW1.out) ?_
             rw [World.setRow_alloc_new]))
        simp only [Act.put, List.setIfInBounds_toArray, List.set_cons_zero, List.set_cons_succ]
        obtain ⟨b7, hb7⟩ : ∃ x, x = w1.heap.size := ⟨_, rfl⟩
        rw [← hb7]
        have HB2 : Hid (Below w1.heap.size w1 (w1.alloc (.cells (Value.int .i64 (q : Int) :: u8s l).toArray 78))) := (Below.refl _ _).alloc (Nat.le_refl _) _
        have HR2 : Hid ((w1.alloc (.cells (Value.int .i64 (q : Int) :: u8s l).toArray 78)).rangeAt b7 0 (Value.int .i64 (q : Int) :: u8s l)) := fun j v hv => by
          rw [hb7, Nat.zero_add, cell_of_row _ _ _ _ _ _ (heap_alloc_new w1 _)]
          simpa using hv
        have HD2 := Lib.hid (HD.out.below HB2.out)
        have HS2 : Hid (b7 < (w1.alloc (.cells (Value.int .i64 (q : Int) :: u8s l).toArray 78)).heap.size) := by show b7 < _; rw [hb7]; simp
        have HN7 : Hid (w1.heap.size ≤ b7) := Nat.le_of_eq hb7.symm
        clear hb7
        generalize w1.alloc (.cells (Value.int .i64 (q : Int) :: u8s l).toArray 78) = w2 at HB2 HR2 HD2 HS2 ⊢
        obtain ⟨hg, hl, bs, sc, bn, nc, cA, cc, cut, left, o1, o2, o3, d1, d2, d3, d4, hr, hsr, hnr, how, hp⟩ := HD2.out
        simp only at hr
        have HG := Lib.hid hg; have HLT := Lib.hid hl; have HO1 := Lib.hid o1; have HO2 := Lib.hid o2; have HO3 := Lib.hid o3; have HD1 := Lib.hid d1; have HDD2 := Lib.hid d2; have HD3 := Lib.hid d3; have HD4 := Lib.hid d4
        have HR := Lib.hid hr; have HSR := Lib.hid hsr; have HNR := Lib.hid hnr; have HOW := Lib.hid how; have HP := Lib.hid hp
        have c2 : w2.drew.cell? ⟨g, 2, none⟩ = some (.slice cA D.cache.length cc) := (hr.drew.cell (i := 2) (by omega)).trans rfl
        clear hg hl o1 o2 o3 d1 d2 d3 d4 hr hsr hnr how hp
        have e7 : ∀ x : World, (∃ e : ExtK (keepBlocks [b7]) w2.drew, x = e.val) → x.rangeAt b7 0 (Value.int .i64 (q : Int) :: u8s l) := fun x ⟨e, he⟩ => by
          subst he
          exact rangeAt_kept (w := w2) HR2.out (e.property.2 b7 (by simp))
        refine Sched.wp_region_branch (keepBlocks [b7]) landWriteS (by kernel_rfl) (by kernel_rfl) (fun _ _ d _ _ h => by cases d <;> exact h) ?_
        simp only [landWriteS, landWriteS0, Sched.picked, List.getElem?_cons_succ, List.getElem?_cons_zero, Option.getD_some]
        repeat (first
          | (refine Sched.walkK_quiet (by rfl) (fun K hK => ?_); refine quiet_load_mid 78 (.tmp 7) rfl b7 0 rfl (Value.int .i64 (q : Int) :: u8s l) _ e7 Try.underlying78 rfl (by rw [size_write, HWL.out]) ?_; refine hK _ ?_; clear hK K; simp only [Act.put, List.setIfInBounds_toArray, List.set_cons_zero, List.set_cons_succ])
          | (refine Sched.walkK_quiet (by rfl) (fun K hK => ?_); go_big_quiet_op; refine hK _ ?_; clear hK K))
        clear e7
        have hg2 : g < w2.heap.size := HLT.out g HG.out
        obtain ⟨w3, HW3⟩ : ∃ x, Hid (x = w2.drew.alloc (.cells (Value.int .i64 (q : Int) :: u8s l).toArray 78)) := ⟨_, rfl⟩
        have HB3 : Hid (Below w2.heap.size w2 w3) := by show Below _ _ _; rw [HW3.out]; exact ((Below.refl w2.heap.size w2).drew).alloc (Nat.le_refl _) _
        have HC3 : Hid (∀ (j : Nat) (u : Value), (wrCells (q, l))[j]? = some u → w3.cell? ((⟨w2.heap.size, 0, none⟩ : Addr).add j) = some u) := fun j u hj => by
          rw [Go.WideShapes.add_plain, Nat.zero_add, HW3.out]
          show (w2.drew.alloc _).cell? ⟨w2.drew.heap.size, j, none⟩ = some u
          rw [cell_of_row _ _ _ _ _ _ (heap_alloc_new w2.drew _)]
          simpa [wrCells] using hj
        have HS3 : Hid (w2.heap.size < w3.heap.size) := by show _ < _; rw [HW3.out]; simp
        have c2' : w3.cell? ⟨g, 2, none⟩ = some (.slice cA D.cache.length cc) := ((HR.out.of_block (HB3.out.block g hg2)).cell (i := 2) (by omega)).trans rfl
        have HO3R : Hid (w3.ownsRow 0 78 65 (.slice cA D.cache.length cc) D.cache.length (D.cache.flatMap wrCells)) :=
          own_kept HOW.out fun a ha => HB3.out.block _ (HLT.out _ (HO3.out a ha))
        have HR3 : Hid (w3.rowIs g 70 7 (landCells bs sc bn nc D.safe.length cA D.cache.length cc K cut left F)) := HR.out.of_block (HB3.out.block g hg2)
        have HU7 : Hid (∀ k, Value.ownBlock (.slice cA D.cache.length cc) = some k → k ≠ b7) := fun k hk => by
          cases cA with
          | none => cases hk
          | some a =>
            injection hk with hk
            subst hk
            have := HD.out.2.1 _ (HO3.out a rfl)
            have := HN7.out
            omega
        have HG7 : Hid (b7 ≠ g) := by show _ ≠ _; have := HD.out.2.1 g HG.out; have := HN7.out; omega
        have HU2 : Hid (∀ k, Value.ownBlock (.slice cA D.cache.length cc) = some k → k ≠ g) := fun k hk => by
          cases cA with
          | none => cases hk
          | some a =>
            injection hk with hk
            subst hk
            exact (HD4.out a rfl).1
        obtain ⟨i0, hi0, hz0, hz1, hz2⟩ := info_parts write_info3
        refine Sched.walkK_two ?_ ?_
        · refine Sched.walkK_one (by rfl) (fun K hK => ?_)
          go_simp
          refine hK _ _ ((keepBlocks [b7]).refl _) ?_
          clear hK K
          refine Sched.walkK_one (by rfl) (fun K hK => ?_)
          refine wp_row_of_write (.tmp 30) rfl (Value.int .i64 (q : Int) :: u8s l) rfl HWL.out ?_
          refine hK _ _ (keep_one (by simp) (heap_alloc_old _ _ HS2.out)) ?_
          clear hK K
          simp only [Act.put, List.setIfInBounds_toArray, List.set_cons_zero, List.set_cons_succ]
          rw [← HW3.out]
          refine Sched.walkK_one (by rfl) (fun K hK => ?_)
          refine wp_append_lies w3 (.tmp 29) (.tmp 31) 68 rfl 0 78 i0 (.agg (#[.int .i64 0] ++ Array.replicate 64 (.int .u8 0))) 65 72 Try.underlying68 hi0 hz0 hz1 hz2 (by simp [Value.cells]) (by omega) (.slice cA D.cache.length cc) D.cache.length (D.cache.flatMap wrCells) rfl HO3R.out ⟨w2.heap.size, 0, none⟩ 1 1 (wrCells (q, l)) rfl (by simp [wrCells, u8s_length, HL64.out]) HC3.out HW1.out (by omega) (by simp only [maxLen]; omega) (by omega) (Nat.zero_le _) _ rfl ?_
          intro g' cap w4 ho4 hg4 hgb hlt4
          have HO4 := Lib.hid ho4; have HG4 := Lib.hid hg4; have HGB := Lib.hid hgb; have HLT4 := Lib.hid hlt4
          clear ho4 hg4 hgb hlt4
          refine hK _ _ (keep_one HG4.out.size (HG4.out.block b7 (Nat.lt_of_lt_of_le HS2.out HB3.out.size) fun e => HU7.out b7 e.symm rfl)) ?_
          clear hK K
          have HR4 : Hid (w4.rowIs g 70 7 (landCells bs sc bn nc D.safe.length cA D.cache.length cc K cut left F)) := HR3.out.of_block (HG4.out.block g (Nat.lt_of_lt_of_le hg2 HB3.out.size) fun e => HU2.out g e.symm rfl)
          have d2 : w4.cell? ⟨g, 2, none⟩ = some (.slice cA D.cache.length cc) := (HR4.out.cell (i := 2) (by omega)).trans rfl
          have f2 := HR4.out.frozen 2
          simp only [Act.put, List.setIfInBounds_toArray, List.set_cons_zero, List.set_cons_succ]
          repeat (refine Sched.walkK_quiet (by rfl) (fun K hK => ?_); go_big_quiet_op; refine hK _ ?_; clear hK K)
          refine Sched.walkK_one (by rfl) (fun K hK => ?_)
          go_simp
          refine hK _ _ (keep_one (by simp) (Below.heap_setCell w4 ⟨g, 2, none⟩ _ b7 HG7.out)) ?_
          clear hK K
          refine Sched.walkK_done ?_
          clear d2 f2 c2 c2'
          have HX3 := Lib.hid (LandAt.wrote (D := ⟨D.safe, D.cache, L, F, K⟩) HG.out HLT.out HO1.out HO2.out HO3.out HD1.out HDD2.out HD3.out HD4.out HR.out HSR.out HNR.out HP.out HB3.out HO4.out HG4.out HGB.out HLT4.out HQ.out HL64.out)
          have HR5 : Hid ((w4.setCell ⟨g, 2, none⟩ (.slice (some ⟨g', 0, none⟩) (D.cache.length + 1) cap)).rowIs g 70 7 (landCells bs sc bn nc D.safe.length (some ⟨g', 0, none⟩) (D.cache.length + 1) cap K cut left F)) := (HR4.out.set 2 _).congr fun i hi => by rcases seven hi with rfl | rfl | rfl | rfl | rfl | rfl | rfl <;> rfl
          have HK5 : Hid (∀ k, k < w2.heap.size → k ≠ g → Value.ownBlock (.slice cA D.cache.length cc) ≠ some k → (w4.setCell ⟨g, 2, none⟩ (.slice (some ⟨g', 0, none⟩) (D.cache.length + 1) cap)).heap[k]? = w2.heap[k]?) := fun k hk hkg hne =>
            (Below.heap_setCell w4 ⟨g, 2, none⟩ _ k hkg).trans ((HG4.out.block k (Nat.lt_of_lt_of_le hk HB3.out.size) fun e => hne e.symm).trans (HB3.out.block k hk))
          have HZ5 : Hid (w2.heap.size ≤ (w4.setCell ⟨g, 2, none⟩ (.slice (some ⟨g', 0, none⟩) (D.cache.length + 1) cap)).heap.size) := by show _ ≤ _; have h1 := HB3.out.size; have h2 := HG4.out.size; simp; omega
          generalize w4.setCell ⟨g, 2, none⟩ (.slice (some ⟨g', 0, none⟩) (D.cache.length + 1) cap) = w5 at HX3 HR5 HK5 HZ5 ⊢
          have HB75 : Hid (w5.rangeAt b7 1 (u8s l)) := fun j v hv => by
            have h1 := rangeAt_kept HR2.out (HK5.out b7 HS2.out HG7.out fun e => HU7.out b7 e rfl) (j + 1) v (by simpa using hv)
            rwa [show 0 + (j + 1) = 1 + j by omega] at h1
          have HTH : Hid (w5.there bn (q * 64) 64) := (HNR.out.kept HZ5.out (HK5.out bn (HLT.out bn HO2.out) HD3.out fun e => by cases cA with | none => cases e | some a => (injection e with e; exact (HD4.out a rfl).2.2 e))).there (by rw [nowL_length]; exact HQ.out) (Nat.le_refl _)
          have c1 : w5.cell? ⟨g, 1, none⟩ = some (.slice (some ⟨bn, 0, none⟩) D.safe.length nc) := (HR5.out.cell (i := 1) (by omega)).trans rfl
          have e0 : ∀ e : ExtK (keepBlocks [g, b7]) w5.drew, e.val.cell? ⟨g, 1, none⟩ = some (.slice (some ⟨bn, 0, none⟩) D.safe.length nc) := fun e => (cell_of_block (e.property.2 g (by simp)) 1).trans c1
          have e7 : ∀ x : World, (∃ e : ExtK (keepBlocks [g, b7]) w5.drew, x = e.val) → x.rangeAt b7 1 (u8s l) := fun x ⟨e, he⟩ => by
            subst he
            exact rangeAt_kept (w := w5) HB75.out (e.property.2 b7 (by simp))
          have hq := HQ.out
          clear c1
          go_wp2_with fail
          refine wp_region_held_lit (keepBlocks [g, b7]) [(0, true), (1, true), (2, true), (3, true), (4, true), (5, true), (6, true), (7, true), (8, false)] (by kernel_rfl) (by kernel_rfl) (fun _ _ d _ _ h => by cases d <;> exact h) ?_
          simp only [picked, List.map_cons, List.map_nil, List.getElem?_cons_succ, List.getElem?_cons_zero, Option.getD_some]
          repeat (first
            | (refine wpH_quiet (by rfl) (fun K hK => ?_); refine quiet_load_mid 76 (.tmp 40) rfl b7 1 rfl (u8s l) _ e7 Try.underlying76 rfl (by rw [size_sector, u8s_length, HL64.out]) ?_; refine hK _ ?_; clear hK K; simp only [Act.put, List.setIfInBounds_toArray, List.set_cons_zero, List.set_cons_succ])
            | (refine wpH_quiet (by rfl) (fun K hK => ?_); go_big_quiet_op; refine hK _ ?_; clear hK K))
          clear e0 e7
          refine wpH_one (by rfl) (fun K hK => ?_)
          refine wp_store_mid 76 (.tmp 42) (.tmp 41) rfl bn (q * 64) (u8s l).toArray rfl rfl (by rw [List.size_toArray, u8s_length, HL64.out]; exact HTH.out) (by rw [size_sector, List.size_toArray, u8s_length, HL64.out]) (u8s_all l) ?_
          have hoc : Only bn w5.drew (w5.drew.setCells bn (q * 64) (u8s l)) := Only.cells _ _ _
          have HBN : Hid (bn ≠ b7) := by show _ ≠ _; have := HD.out.2.1 bn HO2.out; have := HN7.out; omega
          refine hK _ _ (keep_two hoc.size (hoc.block g HR5.out.lt (Ne.symm HD3.out)) (hoc.block b7 (Nat.lt_of_lt_of_le HS2.out HZ5.out) (Ne.symm HBN.out))) ?_
          clear hK K hoc
          simp only [Act.put]
          refine wpH_nil ?_
          generalize w5.drew.setCells bn (q * 64) (u8s l).toArray.toList = w6 at HX3 ⊢
          go_wp2
          go_ret
          obtain ⟨O', hO', hl', hoff⟩ := HX3.out
          have hw1 := HO.out.size
          have hw2 := HB2.out.size
          have h02 : Off O w w2 := (Off.of_only HO.out HG.out).trans (Off.of_below (O := O) HB2.out) fun _ h => .inl h
          exact ⟨rfl, O', fun x hx => (hO' x hx).imp id (by omega), hl', h02.trans hoff fun _ h => .inl h⟩
        · refine Sched.walkK_one (by rfl) (fun K hK => ?_)
          refine wp_row_of_write (.tmp 30) rfl (Value.int .i64 (q : Int) :: u8s l) rfl HWL.out ?_
          refine hK _ _ (keep_one (by simp) (heap_alloc_old _ _ HS2.out)) ?_
          clear hK K
          simp only [Act.put, List.setIfInBounds_toArray, List.set_cons_zero, List.set_cons_succ]
          rw [← HW3.out]
          refine Sched.walkK_one (by rfl) (fun K hK => ?_)
          go_simp
          refine hK _ _ ((keepBlocks [b7]).refl _) ?_
          clear hK K
          refine Sched.walkK_one (by rfl) (fun K hK => ?_)
          refine wp_append_lies w3 (.tmp 29) (.tmp 31) 68 rfl 0 78 i0 (.agg (#[.int .i64 0] ++ Array.replicate 64 (.int .u8 0))) 65 72 Try.underlying68 hi0 hz0 hz1 hz2 (by simp [Value.cells]) (by omega) (.slice cA D.cache.length cc) D.cache.length (D.cache.flatMap wrCells) rfl HO3R.out ⟨w2.heap.size, 0, none⟩ 1 1 (wrCells (q, l)) rfl (by simp [wrCells, u8s_length, HL64.out]) HC3.out HW1.out (by omega) (by simp only [maxLen]; omega) (by omega) (Nat.zero_le _) _ rfl ?_
          intro g' cap w4 ho4 hg4 hgb hlt4
          have HO4 := Lib.hid ho4; have HG4 := Lib.hid hg4; have HGB := Lib.hid hgb; have HLT4 := Lib.hid hlt4
          clear ho4 hg4 hgb hlt4
          refine hK _ _ (keep_one HG4.out.size (HG4.out.block b7 (Nat.lt_of_lt_of_le HS2.out HB3.out.size) fun e => HU7.out b7 e.symm rfl)) ?_
          clear hK K
          have HR4 : Hid (w4.rowIs g 70 7 (landCells bs sc bn nc D.safe.length cA D.cache.length cc K cut left F)) := HR3.out.of_block (HG4.out.block g (Nat.lt_of_lt_of_le hg2 HB3.out.size) fun e => HU2.out g e.symm rfl)
          have d2 : w4.cell? ⟨g, 2, none⟩ = some (.slice cA D.cache.length cc) := (HR4.out.cell (i := 2) (by omega)).trans rfl
          have f2 := HR4.out.frozen 2
          simp only [Act.put, List.setIfInBounds_toArray, List.set_cons_zero, List.set_cons_succ]
          repeat (refine Sched.walkK_quiet (by rfl) (fun K hK => ?_); go_big_quiet_op; refine hK _ ?_; clear hK K)
          refine Sched.walkK_one (by rfl) (fun K hK => ?_)
          go_simp
          refine hK _ _ (keep_one (by simp) (Below.heap_setCell w4 ⟨g, 2, none⟩ _ b7 HG7.out)) ?_
          clear hK K
          refine Sched.walkK_done ?_
          clear d2 f2 c2 c2'
          have HX3 := Lib.hid (LandAt.wrote (D := ⟨D.safe, D.cache, L, F, K⟩) HG.out HLT.out HO1.out HO2.out HO3.out HD1.out HDD2.out HD3.out HD4.out HR.out HSR.out HNR.out HP.out HB3.out HO4.out HG4.out HGB.out HLT4.out HQ.out HL64.out)
          have HR5 : Hid ((w4.setCell ⟨g, 2, none⟩ (.slice (some ⟨g', 0, none⟩) (D.cache.length + 1) cap)).rowIs g 70 7 (landCells bs sc bn nc D.safe.length (some ⟨g', 0, none⟩) (D.cache.length + 1) cap K cut left F)) := (HR4.out.set 2 _).congr fun i hi => by rcases seven hi with rfl | rfl | rfl | rfl | rfl | rfl | rfl <;> rfl
          have HK5 : Hid (∀ k, k < w2.heap.size → k ≠ g → Value.ownBlock (.slice cA D.cache.length cc) ≠ some k → (w4.setCell ⟨g, 2, none⟩ (.slice (some ⟨g', 0, none⟩) (D.cache.length + 1) cap)).heap[k]? = w2.heap[k]?) := fun k hk hkg hne =>
            (Below.heap_setCell w4 ⟨g, 2, none⟩ _ k hkg).trans ((HG4.out.block k (Nat.lt_of_lt_of_le hk HB3.out.size) fun e => hne e.symm).trans (HB3.out.block k hk))
          have HZ5 : Hid (w2.heap.size ≤ (w4.setCell ⟨g, 2, none⟩ (.slice (some ⟨g', 0, none⟩) (D.cache.length + 1) cap)).heap.size) := by show _ ≤ _; have h1 := HB3.out.size; have h2 := HG4.out.size; simp; omega
          generalize w4.setCell ⟨g, 2, none⟩ (.slice (some ⟨g', 0, none⟩) (D.cache.length + 1) cap) = w5 at HX3 HR5 HK5 HZ5 ⊢
          have HB75 : Hid (w5.rangeAt b7 1 (u8s l)) := fun j v hv => by
            have h1 := rangeAt_kept HR2.out (HK5.out b7 HS2.out HG7.out fun e => HU7.out b7 e rfl) (j + 1) v (by simpa using hv)
            rwa [show 0 + (j + 1) = 1 + j by omega] at h1
          have HTH : Hid (w5.there bn (q * 64) 64) := (HNR.out.kept HZ5.out (HK5.out bn (HLT.out bn HO2.out) HD3.out fun e => by cases cA with | none => cases e | some a => (injection e with e; exact (HD4.out a rfl).2.2 e))).there (by rw [nowL_length]; exact HQ.out) (Nat.le_refl _)
          have c1 : w5.cell? ⟨g, 1, none⟩ = some (.slice (some ⟨bn, 0, none⟩) D.safe.length nc) := (HR5.out.cell (i := 1) (by omega)).trans rfl
          have e0 : ∀ e : ExtK (keepBlocks [g, b7]) w5.drew, e.val.cell? ⟨g, 1, none⟩ = some (.slice (some ⟨bn, 0, none⟩) D.safe.length nc) := fun e => (cell_of_block (e.property.2 g (by simp)) 1).trans c1
          have e7 : ∀ x : World, (∃ e : ExtK (keepBlocks [g, b7]) w5.drew, x = e.val) → x.rangeAt b7 1 (u8s l) := fun x ⟨e, he⟩ => by
            subst he
            exact rangeAt_kept (w := w5) HB75.out (e.property.2 b7 (by simp))
          have hq := HQ.out
          clear c1
          go_wp2_with fail
          refine wp_region_held_lit (keepBlocks [g, b7]) [(0, true), (1, true), (2, true), (3, true), (4, true), (5, true), (6, true), (7, true), (8, false)] (by kernel_rfl) (by kernel_rfl) (fun _ _ d _ _ h => by cases d <;> exact h) ?_
          simp only [picked, List.map_cons, List.map_nil, List.getElem?_cons_succ, List.getElem?_cons_zero, Option.getD_some]
          repeat (first
            | (refine wpH_quiet (by rfl) (fun K hK => ?_); refine quiet_load_mid 76 (.tmp 40) rfl b7 1 rfl (u8s l) _ e7 Try.underlying76 rfl (by rw [size_sector, u8s_length, HL64.out]) ?_; refine hK _ ?_; clear hK K; simp only [Act.put, List.setIfInBounds_toArray, List.set_cons_zero, List.set_cons_succ])
            | (refine wpH_quiet (by rfl) (fun K hK => ?_); go_big_quiet_op; refine hK _ ?_; clear hK K))
          clear e0 e7
          refine wpH_one (by rfl) (fun K hK => ?_)
          refine wp_store_mid 76 (.tmp 42) (.tmp 41) rfl bn (q * 64) (u8s l).toArray rfl rfl (by rw [List.size_toArray, u8s_length, HL64.out]; exact HTH.out) (by rw [size_sector, List.size_toArray, u8s_length, HL64.out]) (u8s_all l) ?_
          have hoc : Only bn w5.drew (w5.drew.setCells bn (q * 64) (u8s l)) := Only.cells _ _ _
          have HBN : Hid (bn ≠ b7) := by show _ ≠ _; have := HD.out.2.1 bn HO2.out; have := HN7.out; omega
          refine hK _ _ (keep_two hoc.size (hoc.block g HR5.out.lt (Ne.symm HD3.out)) (hoc.block b7 (Nat.lt_of_lt_of_le HS2.out HZ5.out) (Ne.symm HBN.out))) ?_
          clear hK K hoc
          simp only [Act.put]
          refine wpH_nil ?_
          generalize w5.drew.setCells bn (q * 64) (u8s l).toArray.toList = w6 at HX3 ⊢
          go_wp2
          go_ret
          obtain ⟨O', hO', hl', hoff⟩ := HX3.out
          have hw1 := HO.out.size
          have hw2 := HB2.out.size
          have h02 : Off O w w2 := (Off.of_only HO.out HG.out).trans (Off.of_below (O := O) HB2.out) fun _ h => .inl h
          exact ⟨rfl, O', fun x hx => (hO' x hx).imp id (by omega), hl', h02.trans hoff fun _ h => .inl h⟩
      · have e : Hid (D.write q l = (⟨D.safe, D.cache, L, F, K⟩, 1)) := by show _ = _; rw [HE.out, if_pos (.inr (.inr h3))]
        rw [e.out]
        have h3' : ((l.length : Int) != 64) = true := by simp; omega
        go_enter Try.func60, Try.ntmps60
        go_wp2_with fail
        refine GA.out.mono ?_
        rintro e w1 ⟨rfl, hd, ho⟩
        have HD := Lib.hid hd; have HO := Lib.hid ho; clear hd ho
        go_wp2_with fail
        refine (landHas_any O g _ q w1 HD.out).mono ?_
        rintro e w' ⟨rfl, rfl⟩
        rw [decide_eq_true hin]
        go_wp2
        go_ret
        exact ⟨rfl, .of_only HD.out HO.out⟩
    · have e : Hid (D.write at_ l = (⟨D.safe, D.cache, L, F, K⟩, 1)) := by show _ = _; rw [HE.out, if_pos (by omega)]
      rw [e.out]
      go_enter Try.func60, Try.ntmps60
      go_wp2_with fail
      refine GA.out.mono ?_
      rintro e w1 ⟨rfl, hd, ho⟩
      have HD := Lib.hid hd; have HO := Lib.hid ho; clear hd ho
      go_wp2_with fail
      refine (landHas_any O g _ at_ w1 HD.out).mono ?_
      rintro e w' ⟨rfl, rfl⟩
      rw [decide_eq_false hin]
      go_wp2
      go_ret
      exact ⟨rfl, .of_only HD.out HO.out⟩
  · have e : Hid (D.write at_ l = (⟨D.safe, D.cache, L, F, K⟩, 7)) := by show _ = _; rw [HE.out, if_pos (by simp)]
    rw [e.out]
    go_enter Try.func60, Try.ntmps60
    go_wp2_with fail
    refine GA.out.mono ?_
    rintro e w1 ⟨rfl, hd, ho⟩
    have HD := Lib.hid hd; have HO := Lib.hid ho; clear hd ho
    go_wp2
    go_ret
    exact ⟨rfl, .of_only HD.out HO.out⟩
end Go.Proofs.Ytahfkcfbmklfpaa
