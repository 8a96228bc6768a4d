/- The landed disk: the contract of Crash. Condition: fewer than 2^20 writes in the cache; the disk is one that New and its methods made. -/
import Derived.Test.YtahfkcfbmklfpaaDiskTorn
namespace Go.Proofs.Ytahfkcfbmklfpaa
open Go.RowKit Go.Deep

theorem rowIs_cells {b : Nat} {t : TypeId} {n : Nat} : ∀ (vs : List Value) (o : Nat) (w : World) (f : Nat → Value), w.rowIs b t n f → (w.setCells b o vs).rowIs b t n (fun j => if o ≤ j then (vs[j - o]?).getD (f j) else f j)
  | [], o, w, f, h => h.congr fun j _ => by simp
  | v :: r, o, w, f, h => by
    refine (rowIs_cells r (o + 1) (w.setCell ⟨b, o, none⟩ v) _ (h.set o v)).congr fun j _ => ?_
    by_cases h1 : o + 1 ≤ j
    · rw [if_pos h1, if_pos (show o ≤ j by omega), if_neg (show ¬j = o by omega), show j - o = (j - (o + 1)) + 1 by omega]
      rfl
    · rw [if_neg h1]
      by_cases h2 : j = o
      · subst h2
        rw [if_pos rfl, if_pos (Nat.le_refl _), Nat.sub_self]
        rfl
      · rw [if_neg h2, if_neg (by omega)]
theorem copy_picks (w : World) (b : Nat) (T : TypeId) (A : Option Addr) (l : List Int) (c : Nat) (h : IntsAt w A l) (hr : w.rowIs b T 3 (fun _ => .int .i64 0)) :
    ∃ n w', (∀ ty, (Builtin.copy_ #[43, 43] ty #[.slice (some ⟨b, 0, none⟩) 3 3, .slice A l.length c]).run Try.prog w = .ok (goInt n) w') ∧ w'.rowIs b T 3 (fun j => .int .i64 (pk l j)) ∧ Only b w w' := by
  have hs : (Try.prog.info? 3).map (·.size) = some 1 := by
    obtain ⟨i, hi, _, h1, _⟩ := info_parts int_info
    rw [hi, Option.map_some, h1]
  by_cases h0 : l = []
  · subst h0
    refine ⟨0, w, fun ty => run_copy_none w 43 43 ty 3 (some ⟨b, 0, none⟩) A 3 3 0 c Try.underlying43 hs (by simp), hr.congr fun j _ => rfl, Only.refl _ _⟩
  · have hl : 0 < l.length := List.length_pos_iff.2 h0
    obtain ⟨ab, ao, rfl, _⟩ := h.form hl
    have hcs : ((is64 l).take 3).length = Nat.min l.length 3 := by
      rw [List.length_take, is64_length]
      exact Nat.min_comm _ _
    refine ⟨_, _, fun ty => run_copy_cells w 43 43 ty 3 b 0 3 3 ⟨ab, ao, none⟩ l.length c ((is64 l).take 3) Try.underlying43 hs hcs ?_ ?_ ?_ ?_, ?_, Only.cells _ _ _⟩
    · intro j v hv
      rw [List.getElem?_take] at hv
      split at hv
      · rw [is64, List.getElem?_map] at hv
        obtain ⟨x, hx, rfl⟩ := Option.map_eq_some_iff.1 hv
        obtain ⟨hjl, rfl⟩ := List.getElem?_eq_some_iff.1 hx
        rw [Go.WideShapes.add_plain]
        exact h.cell hjl
      · cases hv
    · intro j hj
      rw [List.length_take] at hj
      rw [Nat.zero_add, hr.cell (show j < 3 by omega)]
      rfl
    · intro j _
      exact hr.frozen _
    · intro v hv
      obtain ⟨x, _, rfl⟩ := List.mem_map.1 (List.mem_of_mem_take hv)
      rfl
    · refine (rowIs_cells _ 0 w _ hr).congr fun j hj => ?_
      rw [if_pos (Nat.zero_le _), Nat.sub_zero, List.getElem?_take, if_pos hj, is64, List.getElem?_map, pk]
      cases l[j]? <;> rfl
theorem wpList_copy_at {P : Program} {ops : Array Oper} {rest : List Oper} {o : Oper} {a : Act} {w : World} {Q : Exit → Act → World → Prop} (hgd : o.guard = none) (d s : Operand) (t t' : TypeId)
    (ho : o.op = .call { callee := .builtin .copy, args := #[d, s], argTypes := #[t, t'] }) (v u : Value) (hd : a.eval d = v) (hs : a.eval s = u) {v' : Value} {w' : World}
    (hr : ∀ ty, (Builtin.copy_ #[t, t'] ty #[v, u]).run P w = .ok v' w') (h : wpList P ops Q rest (a.put o.dst v') w') : wpList P ops Q (o :: rest) a w :=
  wpList_plain hgd fun K hK => by
    unfold Oper.wp execOp
    simp only [ho, resolve, invoke, builtin, Sem.run_bind, Sem.run_pure, Result.andThen_ok, List.map_toArray, List.map_cons, List.map_nil, hd, hs, hr]
    exact hK _ _ h
theorem wp_copy_at {P : Program} {o : Oper} {a : Act} {w : World} {K : Act → World → Prop} {Q : Exit → Act → World → Prop} (d s : Operand) (t t' : TypeId)
    (ho : o.op = .call { callee := .builtin .copy, args := #[d, s], argTypes := #[t, t'] }) (v u : Value) (hd : a.eval d = v) (hs : a.eval s = u) {v' : Value} {w' : World}
    (hr : ∀ ty, (Builtin.copy_ #[t, t'] ty #[v, u]).run P w = .ok v' w') (h : K (a.put o.dst v') w') : o.wp P a w K Q := by
  unfold Oper.wp execOp
  simp only [ho, resolve, invoke, builtin, Sem.run_bind, Sem.run_pure, Result.andThen_ok, List.map_toArray, List.map_cons, List.map_nil, hd, hs, hr]
  exact h

theorem arrayLen_sector : Try.prog.arrayLen 76 = 64 := by kernel_rfl
theorem elem_sector : Try.prog.elem 76 = 5 := by kernel_rfl
theorem slice_sector (b o t : Nat) (ht : t ≤ 64) (w : World) : (Instr.sliceAt 76 (.pointer (some ⟨b, o, none⟩)) none (some (.int .i64 (t : Int))) none).run Try.prog w = .ok (.slice (some ⟨b, o, none⟩) t 64) w := by
  rw [run_sliceAt_array_h (P := Try.prog) (w := w) 76 ⟨b, o, none⟩ (by rw [arrayLen_sector, elem_sector]; exact Try.underlying76) .i64 (t : Int) (by omega) (by rw [arrayLen_sector]; omega), elem_sector, size_byte]
  simp [Result.andThen, slicedAt, arrayLen_sector, Addr.add]
theorem laid_step {T : Int} {t j q N : Nat} {Lf : List (Nat × List Nat)} {s : List (Option (List Nat))} {l x : List Nat} (hj : Lf[j]? = some (q, l)) (hl : l.length = 64) (hx : ((laidN T t Lf s j).map secB)[q]? = some x) (hx64 : x.length = 64) (hN : N = if (j : Int) = T then t else 64) :
    (laidN T t Lf s (j + 1)).map secB = ((laidN T t Lf s j).map secB).set q (l.take N ++ x.drop N) := by
  obtain ⟨hjl, hj2⟩ := List.getElem?_eq_some_iff.1 hj
  rw [laidN_next hjl, List.map_set, hj2]
  congr 1
  show laidB T t (laidN T t Lf s j) j (q, l) = _
  rw [laidB, hN]
  rw [List.getElem?_map] at hx
  obtain ⟨o, ho, rfl⟩ := Option.map_eq_some_iff.1 hx
  split
  · rw [ho]; rfl
  · rw [List.take_of_length_le (by omega), List.drop_eq_nil_iff.2 (by omega), List.append_nil]

set_option maxHeartbeats 4000000 in
set_option maxRecDepth 100000 in
theorem landCrash_any (O : Nat → Prop) (g : Nat) (D : DiskD) (hc : D.cache.length ≤ 1048576) (hfit : D.Fit) (A : Option Addr) (l : List Int) (c : Nat) (w : World) (hat : IntsAt w A l) (h : LandAt O g D w) :
    Calls Try.prog 18 #[.pointer (some ⟨g, 0, none⟩), .slice A l.length c] w fun e w' => ∃ g', e = .returned (.pointer (some ⟨g', 0, none⟩)) ∧ LandAt (fun x => w.heap.size ≤ x ∧ x < w'.heap.size) g' (D.crash l) w' ∧ w.heap.size ≤ g' ∧ Below w.heap.size w w' := by
  have HF := Lib.hid hfit; clear hfit
  have H := Lib.hid h; have HAT := Lib.hid hat; clear h hat
  have hrow : (w.alloc (.cells #[.int .i64 0, .int .i64 0, .int .i64 0] 73)).rowIs w.heap.size 73 3 (fun _ => .int .i64 0) := World.rowIs_alloc w #[.int .i64 0, .int .i64 0, .int .i64 0] 73 _ fun i hi => by
    have : i = 0 ∨ i = 1 ∨ i = 2 := by simp at hi; omega
    rcases this with rfl | rfl | rfl <;> rfl
  obtain ⟨nc, w2, hcp, hrow2, hon2⟩ := copy_picks _ w.heap.size 73 A l c (HAT.out.alloc _) hrow
  have HCP := Lib.hid hcp; have HROW := Lib.hid hrow2; have HON2 := Lib.hid hon2
  obtain ⟨p0, HP0⟩ : ∃ p, Hid (pk l 0 = p) := ⟨_, Lib.hid rfl⟩
  obtain ⟨p1, HP1⟩ : ∃ p, Hid (pk l 1 = p) := ⟨_, Lib.hid rfl⟩
  obtain ⟨p2, HP2⟩ : ∃ p, Hid (pk l 2 = p) := ⟨_, Lib.hid rfl⟩
  have k0 : w2.cell? ⟨w.heap.size, 0, none⟩ = some (.int .i64 p0) := (hrow2.cell (i := 0) (by omega)).trans (by rw [HP0.out])
  have k1 : w2.cell? ⟨w.heap.size, 1, none⟩ = some (.int .i64 p1) := (hrow2.cell (i := 1) (by omega)).trans (by rw [HP1.out])
  clear hcp hrow2 hon2 hrow
  have HBW2 : Hid (Below w.heap.size w w2) := HON2.out.below ((Below.refl _ _).alloc (Nat.le_refl _) _) (Nat.le_refl _)
  have HL2 := Lib.hid (H.out.below HBW2.out)
  go_enter Try.func18, Try.ntmps18
  go_wp2_with (first
    | (refine wpList_copy_at rfl (.tmp 14) (.tmp 15) 43 43 rfl _ _ rfl rfl HCP.out ?_)
    | fail)
  refine (torn_any O g D hc p0 p1 w2 HL2.out).mono ?_
  rintro e w' ⟨rfl, rfl⟩
  obtain ⟨bs, sc, bn, nn, cA, cc, cut, left, o1, o2, o3, d1, d2, d3, d4, hr, hsr, hnr, how, hp⟩ := HL2.out.2.2
  have HSR := Lib.hid hsr; have HR := Lib.hid hr; have HOW := Lib.hid how
  have c0 : w2.cell? ⟨g, 0, none⟩ = some (.slice (some ⟨bs, 0, none⟩) D.safe.length sc) := (hr.cell (i := 0) (by omega)).trans rfl
  clear o1 o2 o3 d1 d2 d3 d4 hr hsr hnr how hp
  have GC := clone_any bs sc (safeL D) (by rw [safeL, List.length_map]; exact HF.out.pos) (by rw [safeL, List.length_map]; exact HF.out.most) w2 HSR.out
  have hsl : (safeL D).length = D.safe.length := List.length_map ..
  rw [hsl] at GC
  have GC := Lib.hid GC
  have HSL := Lib.hid hsl
  clear hsl
  obtain ⟨T, HT⟩ : ∃ T, Hid (tornN p1 (keptN p0 D.cache D.cache.length).length = T) := ⟨_, Lib.hid rfl⟩
  rw [HT.out]
  go_wp2_with fail
  refine GC.out.mono ?_
  rintro e w3 ⟨b7, c7, rfl, hb7, hs7, hb3⟩
  rw [HSL.out]
  have HB7 := Lib.hid hb7; have HS7 := Lib.hid hs7; have HB3 := Lib.hid hb3
  clear hb7 hs7 hb3 c0 k0 k1
  have c2 : w3.cell? ⟨g, 2, none⟩ = some (.slice cA D.cache.length cc) := ((HR.out.of_block (HB3.out.block g HR.out.lt)).cell (i := 2) (by omega)).trans rfl
  go_wp2_with fail
  clear c2
  have HK3 : Hid (w3.rowIs w.heap.size 73 3 (fun j => .int .i64 (pk l j))) := HROW.out.of_block (HB3.out.block _ HROW.out.lt)
  obtain ⟨Lf, HLf⟩ : ∃ L, Hid (keptN p0 D.cache D.cache.length = L) := ⟨_, Lib.hid rfl⟩
  obtain ⟨t, HTT⟩ : ∃ t, Hid (rnd p2 65 = t) := ⟨_, Lib.hid rfl⟩
  have HT65 : Hid (t < 65) := by show _ < _; rw [← HTT.out]; exact rnd_lt p2 (by omega)
  have HOW3 : Hid (w3.ownsRow 0 78 65 (.slice cA D.cache.length cc) D.cache.length (D.cache.flatMap wrCells)) := own_below HOW.out HB3.out
  have HNB : Hid (w.heap.size ≠ b7 ∧ w2.heap.size ≤ b7) := ⟨by have := HROW.out.lt; have := HB7.out; omega, HB7.out⟩
  have HCB : Hid (∀ a, cA = some a → a.block < w2.heap.size) := fun a ha => by
    rcases HOW.out.2 with ⟨hv, _⟩ | ⟨g', cap', cur, hv, _, hh, _⟩
    · injection hv with hv
      rw [hv] at ha; cases ha
    · injection hv with hv
      rw [hv] at ha
      injection ha with ha
      subst ha
      exact (Array.getElem?_eq_some_iff.1 hh).1
  obtain ⟨i8, hi8, _, hi81, _⟩ := info_parts u8_info
  have HU8 : Hid ((Try.prog.info? 5).map (·.size) = some 1) := by show _ = _; rw [hi8, Option.map_some, hi81]
  clear hi8 hi81
  obtain ⟨Z, hZs, hZ⟩ := zero_write
  have HZ := Lib.hid hZ; have HZS := Lib.hid hZs; clear hZ hZs
  go_loopw [8, 33] (fun m i wr => ∃ k : Nat, k ≤ D.cache.length ∧ i = .int .i64 k ∧ m = .int .i64 ((keptN p0 D.cache k).length : Int) ∧ Only b7 w3 wr ∧ SecRow wr b7 ((laidN T t Lf D.safe (keptN p0 D.cache k).length).map secB)) (fun _ i _ => D.cache.length - (intOf i).toNat)
  case atStart => exact ⟨0, Nat.zero_le _, rfl, by rw [keptN_zero]; rfl, Only.refl _ _, by rw [keptN_zero]; show SecRow w3 b7 ((laidN T t Lf D.safe 0).map secB); rw [laidN_zero]; exact HS7.out⟩
  case round =>
    obtain ⟨k, hk, rfl, rfl, hon, hsk⟩ := hrel
    have HLE := Lib.hid (keptN_le p0 D.cache k)
    have HON := Lib.hid hon; have HSK := Lib.hid hsk
    clear hon hsk
    have HKW : Hid (wr.rowIs w.heap.size 73 3 (fun j => .int .i64 (pk l j))) := HK3.out.of_block (HON.out.block _ HK3.out.lt HNB.out.1)
    by_cases hlt : k < D.cache.length
    · obtain ⟨n, HN⟩ : ∃ n, Hid ((keptN p0 D.cache k).length = n) := ⟨_, Lib.hid rfl⟩
      rw [HN.out] at HLE HSK ⊢
      have hle := HLE.out
      obtain ⟨cb, c', hv, _, hcb⟩ := HOW3.out.form (show 0 < D.cache.length by omega)
      injection hv with hv _ hc'
      subst hv hc'
      have hne : cb ≠ b7 := by have h1 : cb < w2.heap.size := HCB.out _ rfl; have h2 := HNB.out.2; omega
      have HRG : Hid (wr.rangeAt cb (k * 65) (wrCells D.cache[k])) := rangeAt_kept (cache_range HOW3.out (fun p hp => (HF.out.cache p hp).2) hlt) (HON.out.block cb hcb hne)
      clear hne hcb
      obtain ⟨hq, h64⟩ := HF.out.cache _ (List.getElem_mem hlt)
      have HLK : Hid (bitAt p0 k = true → Lf[n]? = some D.cache[k]) := fun hb => by rw [← HLf.out, ← HN.out]; exact kept_at hb hlt
      have HKYB : Hid (bitAt p0 k = true → keptN p0 D.cache (k + 1) = keptN p0 D.cache k ++ [D.cache[k]]) := fun hb => keptN_yes hb hlt
      obtain ⟨P, HPP⟩ : ∃ P, Hid (D.cache[k] = P) := ⟨_, Lib.hid rfl⟩
      rw [HPP.out] at HRG hq h64 HLK HKYB
      obtain ⟨q, l2⟩ := P
      simp only at hq h64
      have HL64 := Lib.hid h64; have HQ := Lib.hid hq; clear h64
      have HWL : Hid ((wrCells (q, l2)).length = 65) := by show _ = 65; rw [wrCells, List.length_cons, u8s_length, HL64.out]
      have HW1 : Hid (∀ u ∈ wrCells (q, l2), u.oneCell' = true) := fun u hu => by
        rcases List.mem_cons.1 hu with rfl | hu
        · rfl
        · exact u8s_one l2 u hu
      have k0 : (wr.alloc (.cells (wrCells (q, l2)).toArray 78)).cell? ⟨w.heap.size, 0, none⟩ = some (.int .i64 p0) := ((HKW.out.alloc _).cell (i := 0) (by omega)).trans (by rw [HP0.out])
      go_wp2_with (first
        | (refine wpList_load_mid rfl 78 (.tmp 36) rfl cb (k * 65) rfl (wrCells (q, l2)) _ HRG.out Try.underlying78 rfl (by rw [size_write, HWL.out]) ?_)
        | (refine wpList_alloc_z rfl 78 rfl Z HZ.out ?_)
        | (refine wpList_store_row rfl 78 (.tmp 10) (.tmp 37) rfl wr.heap.size (wrCells (q, l2)).toArray rfl rfl 78 Z.cells (heap_alloc_new wr _) (by rw [size_write, List.size_toArray, HWL.out]) (by rw [HZS.out, List.size_toArray, HWL.out]) (all_oneCell_toArray HW1.out) ?_
           rw [World.setRow_alloc_new]))
      clear k0
      obtain ⟨b10, hb10⟩ : ∃ x, x = wr.heap.size := ⟨_, rfl⟩
      rw [← hb10]
      have HB6 : Hid (Below wr.heap.size wr (wr.alloc (.cells (wrCells (q, l2)).toArray 78))) := (Below.refl _ _).alloc (Nat.le_refl _) _
      have HR6 : Hid ((wr.alloc (.cells (wrCells (q, l2)).toArray 78)).rangeAt b10 0 (wrCells (q, l2))) := fun j v hv => by
        rw [hb10, Nat.zero_add, cell_of_row _ _ _ _ _ _ (heap_alloc_new wr _)]
        simpa using hv
      have HS10 : Hid (b10 < (wr.alloc (.cells (wrCells (q, l2)).toArray 78)).heap.size) := by show b10 < _; rw [hb10]; simp
      have HNE : Hid (b10 ≠ b7) := by show _ ≠ _; have := HSK.out.1; omega
      clear hb10
      generalize wr.alloc (.cells (wrCells (q, l2)).toArray 78) = w6 at HB6 HR6 HS10 ⊢
      refine (survives_any p0 k (by omega) w6).mono ?_
      rintro e w' ⟨rfl, rfl⟩
      cases hb : bitAt p0 k
      · have HKN := Lib.hid (keptN_no (l := D.cache) hb)
        clear hb
        go_wp2
        go_roundw
        case measure => simp [intOf]; omega
        exact ⟨k + 1, by omega, rfl, by rw [HKN.out, HN.out], HON.out.trans (Only.of_below HB6.out), by rw [HKN.out, HN.out]; exact HSK.out.kept HB6.out.size (HB6.out.block b7 HSK.out.1)⟩
      · have HLF := Lib.hid (HLK.out hb)
        have HKY := Lib.hid (HKYB.out hb)
        clear hb
        have HSR6 : Hid (SecRow w6 b7 ((laidN T t Lf D.safe n).map secB)) := HSK.out.kept HB6.out.size (HB6.out.block b7 HSK.out.1)
        have HTH : Hid (w6.there b7 (q * 64) 64) := HSR6.out.there (by rw [List.length_map, laidN_length]; exact HQ.out) (Nat.le_refl _)
        have HSRC : Hid (∀ (N j : Nat) (v : Value), (u8s (l2.take N))[j]? = some v → w6.cell? ((⟨b10, 1, none⟩ : Addr).add j) = some v) := fun N j v hv => by
          have h1 : (u8s l2)[j]? = some v := by
            rw [u8s, List.getElem?_map, List.getElem?_take] at hv
            rw [u8s, List.getElem?_map]
            split at hv
            · exact hv
            · cases hv
          have h2 := HR6.out (j + 1) v (by simpa [wrCells] using h1)
          rw [Go.WideShapes.add_plain]
          rwa [show 0 + (j + 1) = 1 + j by omega] at h2
        have c10 : w6.cell? ⟨b10, 0, none⟩ = some (.int .i64 (q : Int)) := HR6.out 0 _ rfl
        have h0 : (0 : Nat) < 1 := by omega
        by_cases hkt : (n : Int) = T
        · have h2 : w6.cell? ⟨w.heap.size, 2, none⟩ = some (.int .i64 p2) := ((HKW.out.of_block (HB6.out.block _ HKW.out.lt)).cell (i := 2) (by omega)).trans (by rw [HP2.out])
          have hkb : ((n : Int) == T) = true := by rw [hkt]; exact beq_self_eq_true T
          have HNN : Hid (t = if (n : Int) = T then t else 64) := by show _ = _; rw [if_pos hkt]
          clear hkt
          go_wp2_with fail
          refine (there_any p2 w6).mono ?_
          rintro e w' ⟨rfl, rfl⟩
          rw [HTT.out]
          have ht65 := HT65.out
          have hsl := fun w : World => slice_sector b7 (q * 64) t (by omega) w
          have HTK : Hid ((l2.take t).length = t) := by show _ = _; rw [List.length_take, HL64.out]; omega
          have e0 : ∀ e : ExtK (keepBlocks [b10]) w6.drew, e.val.cell? ⟨b10, 0, none⟩ = some (.int .i64 (q : Int)) := fun e => (cell_of_block (e.property.2 b10 (by simp)) 0).trans c10
          clear c10 h0 h2
          go_wp2_with fail
          refine wp_region_held_lit (keepBlocks [b10]) [(0, true), (1, true), (2, true), (3, true), (4, true), (5, true), (6, true), (7, true), (8, false)] (by kernel_rfl) (by kernel_rfl) (fun _ _ d _ _ h => by cases d <;> exact h) ?_
          simp only [picked, List.map_cons, List.map_nil, List.getElem?_cons_succ, List.getElem?_cons_zero, Option.getD_some]
          repeat (refine wpH_quiet (by rfl) (fun K hK => ?_); go_big_quiet_op; refine hK _ ?_; clear hK K)
          clear e0
          refine wpH_one (by rfl) (fun K hK => ?_)
          refine wp_copy_at (.tmp 54) (.tmp 56) 31 31 rfl (.slice (some ⟨b7, q * 64, none⟩) t 64) (.slice (some ⟨b10, 1, none⟩) 64 64) rfl rfl (fun ty => run_copy_cells w6.drew 31 31 ty 5 b7 (q * 64) t 64 ⟨b10, 1, none⟩ 64 64 (u8s (l2.take t)) Try.underlying31 HU8.out (by rw [u8s_length, HTK.out]; exact (Nat.min_eq_right (by omega)).symm) (fun j v hv => HSRC.out t j v hv) (fun j hj => (HTH.out j (by rw [u8s_length, HTK.out] at hj; omega)).1) (fun j hj => (HTH.out j (by rw [u8s_length, HTK.out] at hj; omega)).2) (u8s_one _)) ?_
          have hoc : Only b7 w6.drew (w6.drew.setCells b7 (q * 64) (u8s (l2.take t))) := Only.cells _ _ _
          refine hK _ _ (keep_one hoc.size (hoc.block b10 HS10.out HNE.out)) ?_
          clear hK K
          simp only [Act.put, List.setIfInBounds_toArray, List.set_cons_zero, List.set_cons_succ]
          refine wpH_nil ?_
          have HNX : Hid (Only b7 w3 (w6.drew.setCells b7 (q * 64) (u8s (l2.take t))) ∧ SecRow (w6.drew.setCells b7 (q * 64) (u8s (l2.take t))) b7 ((laidN T t Lf D.safe (n + 1)).map secB)) := by
            refine ⟨HON.out.trans ((Only.of_below HB6.out).trans ((Only.refl b7 w6).drew.trans hoc)), ?_⟩
            obtain ⟨x, hx⟩ : ∃ x, ((laidN T t Lf D.safe n).map secB)[q]? = some x := ⟨_, List.getElem?_eq_getElem (by rw [List.length_map, laidN_length]; exact HQ.out)⟩
            rw [laid_step HLF.out HL64.out hx (HSR6.out.2.1 q x hx).1 HNN.out]
            have := SecRow.put (w := w6.drew) HSR6.out hx (l2.take t) (by rw [HTK.out]; omega)
            rwa [HTK.out] at this
          generalize w6.drew.setCells b7 (q * 64) (u8s (l2.take t)) = w8 at HNX ⊢
          clear hoc
          go_wp2
          go_roundw
          case measure => simp [intOf]; omega
          exact ⟨k + 1, by omega, rfl, by rw [HKY.out, List.length_append, HN.out]; rfl, HNX.out.1, by rw [HKY.out, List.length_append, HN.out]; exact HNX.out.2⟩
        · have hkb : ((n : Int) == T) = false := beq_eq_false_iff_ne.2 hkt
          have h2 : (0 : Nat) < 1 := by omega
          have HNN : Hid (64 = if (n : Int) = T then t else 64) := by show _ = _; rw [if_neg hkt]
          clear hkt
          have HTK : Hid ((l2.take 64).length = 64) := by show _ = _; rw [List.length_take, HL64.out]; omega
          have e0 : ∀ e : ExtK (keepBlocks [b10]) w6.drew, e.val.cell? ⟨b10, 0, none⟩ = some (.int .i64 (q : Int)) := fun e => (cell_of_block (e.property.2 b10 (by simp)) 0).trans c10
          clear c10 h0 h2
          go_wp2_with fail
          refine wp_region_held_lit (keepBlocks [b10]) [(0, true), (1, true), (2, true), (3, true), (4, true), (5, true), (6, true), (7, true), (8, false)] (by kernel_rfl) (by kernel_rfl) (fun _ _ d _ _ h => by cases d <;> exact h) ?_
          simp only [picked, List.map_cons, List.map_nil, List.getElem?_cons_succ, List.getElem?_cons_zero, Option.getD_some]
          repeat (refine wpH_quiet (by rfl) (fun K hK => ?_); go_big_quiet_op; refine hK _ ?_; clear hK K)
          clear e0
          refine wpH_one (by rfl) (fun K hK => ?_)
          refine wp_copy_at (.tmp 54) (.tmp 56) 31 31 rfl (.slice (some ⟨b7, q * 64, none⟩) 64 64) (.slice (some ⟨b10, 1, none⟩) 64 64) rfl rfl (fun ty => run_copy_cells w6.drew 31 31 ty 5 b7 (q * 64) 64 64 ⟨b10, 1, none⟩ 64 64 (u8s (l2.take 64)) Try.underlying31 HU8.out (by rw [u8s_length, HTK.out]; exact (Nat.min_eq_right (by omega)).symm) (fun j v hv => HSRC.out 64 j v hv) (fun j hj => (HTH.out j (by rw [u8s_length, HTK.out] at hj; omega)).1) (fun j hj => (HTH.out j (by rw [u8s_length, HTK.out] at hj; omega)).2) (u8s_one _)) ?_
          have hoc : Only b7 w6.drew (w6.drew.setCells b7 (q * 64) (u8s (l2.take 64))) := Only.cells _ _ _
          refine hK _ _ (keep_one hoc.size (hoc.block b10 HS10.out HNE.out)) ?_
          clear hK K
          simp only [Act.put, List.setIfInBounds_toArray, List.set_cons_zero, List.set_cons_succ]
          refine wpH_nil ?_
          have HNX : Hid (Only b7 w3 (w6.drew.setCells b7 (q * 64) (u8s (l2.take 64))) ∧ SecRow (w6.drew.setCells b7 (q * 64) (u8s (l2.take 64))) b7 ((laidN T t Lf D.safe (n + 1)).map secB)) := by
            refine ⟨HON.out.trans ((Only.of_below HB6.out).trans ((Only.refl b7 w6).drew.trans hoc)), ?_⟩
            obtain ⟨x, hx⟩ : ∃ x, ((laidN T t Lf D.safe n).map secB)[q]? = some x := ⟨_, List.getElem?_eq_getElem (by rw [List.length_map, laidN_length]; exact HQ.out)⟩
            rw [laid_step HLF.out HL64.out hx (HSR6.out.2.1 q x hx).1 HNN.out]
            have := SecRow.put (w := w6.drew) HSR6.out hx (l2.take 64) (by rw [HTK.out]; omega)
            rwa [HTK.out] at this
          generalize w6.drew.setCells b7 (q * 64) (u8s (l2.take 64)) = w8 at HNX ⊢
          clear hoc
          go_wp2
          go_roundw
          case measure => simp [intOf]; omega
          exact ⟨k + 1, by omega, rfl, by rw [HKY.out, List.length_append, HN.out]; rfl, HNX.out.1, by rw [HKY.out, List.length_append, HN.out]; exact HNX.out.2⟩
    · obtain rfl : k = D.cache.length := by omega
      rw [HLf.out] at HSK
      have HLL : Hid ((laidN T t Lf D.safe Lf.length).length = D.safe.length) := laidN_length _ _ _ _ _
      have GF := Lib.hid (filled_any b7 c7 D.safe.length (laidN T t Lf D.safe Lf.length) HLL.out HF.out.pos HF.out.most wr HSK.out)
      go_wp2_with fail
      refine GF.out.mono ?_
      rintro e w8 ⟨g', rfl, hg', hgl, hb8, hl8⟩
      have HG8 := Lib.hid hg'; have HB8 := Lib.hid hb8; have HL8 := Lib.hid hl8
      clear hg' hgl hb8 hl8
      go_wp2
      go_ret
      have e : D.crash l = fresh (laidN T t Lf D.safe Lf.length) := by
        rw [DiskD.crash, HP0.out, HLf.out, HP2.out, HTT.out, tornAt, HP1.out, ← HT.out, HLf.out]
        rfl
      have hs2 := HBW2.out.size
      have hs3 := HB3.out.size
      have hs4 := HON.out.size
      have hs8 := HB8.out.size
      have hb7 := HB7.out
      have hb7w := HSK.out.1
      have hBW : Below w.heap.size w wr := HON.out.below (HBW2.out.trans (HB3.out.mono hs2)) (by omega)
      rw [e]
      exact ⟨g', rfl, HL8.out _ ⟨by omega, by omega⟩ (fun x h1 h2 => ⟨by omega, h2⟩) (fun x hx => hx.2), by have := HG8.out; omega, hBW.trans (HB8.out.mono hBW.size)⟩
end Go.Proofs.Ytahfkcfbmklfpaa
