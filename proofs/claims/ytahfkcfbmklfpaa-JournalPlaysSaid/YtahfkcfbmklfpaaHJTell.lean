/- The contracts of Base and Records: new memory. Condition: no more than 2^40 records, each of no more than 2^46 bytes. (Merged of 4 texts.) -/
import Derived.Test.YtahfkcfbmklfpaaJUnframe
import Derived.Test.YtahfkcfbmklfpaaHJRows
import Derived.Test.YtahfkcfbmklfpaaBranch
import Derived.Laws.Rows
import Derived.Test.YtahfkcfbmklfpaaJFramed
/- The contract of journal.read: of a half that holds no roll, and of one that holds one. Condition: fewer than 2^40 bytes. -/
namespace Go.Proofs.Ytahfkcfbmklfpaa
open Go.RowKit Go.Deep

theorem keep_none {w x : World} (h : w.heap.size ≤ x.heap.size) : (keepBlocks []).r w x := ⟨h, fun k hk => by cases hk⟩
theorem rowIs_heap {w : World} {b : Nat} {t : TypeId} {f : Nat → Value} (cs : Array Value) (h : w.rowIs b t cs.size f) (hc : ∀ i, i < cs.size → cs[i]? = some (f i)) : w.heap[b]? = some (.cells cs t (0, 0)) := by
  obtain ⟨c, hb, hs, hf⟩ := h
  have e : c = cs := by
    apply Array.ext hs
    intro i h1 h2
    have h3 := hf i h2
    have h4 := hc i h2
    rw [Array.getElem?_eq_getElem h1] at h3
    rw [Array.getElem?_eq_getElem h2] at h4
    injection h3 with h3
    injection h4 with h4
    rw [h3, h4]
  rw [← e]
  exact hb
/-- What read answers: a roll, all of it in blocks of P. -/
def RollVal (P : Nat → Prop) (w : World) (v : Value) (t : Nat) (base : List Nat) (recs : List (List Nat)) (en : Nat) : Prop :=
  ∃ bA bc rA rc, v = .agg #[.int .i64 (t : Int), .slice bA base.length bc, .slice rA recs.length rc, .int .i64 (en : Int)] ∧ BytesAt w bA base ∧ (∀ a, bA = some a → P a.block ∧ a.block < w.heap.size ∧ ∀ y, rA = some y → a.block ≠ y.block) ∧ RowsL P w rA rc recs
/-- num.Get of no bytes. -/
theorem numGet_nil (A : Option Addr) (c : Nat) (w : World) : Calls Try.prog 46 #[.slice A 0 c] w fun e w' => e = .returned (.tuple #[.int .i64 0, .int .i64 0, .int .i64 2]) ∧ w = w' := by
  go_enter Try.func46, Try.ntmps46
  go_wp2
  refine wp_scope_fwd ?_
  go_wp2
  refine wp_loop_rounds 1 ?_
  rw [rounds_succ]
  go_wp2
  go_step3
  go_wp2
  rw [fwd_ret]
  go_ret3
  exact ⟨rfl, rfl⟩

set_option maxHeartbeats 2000000 in
set_option maxRecDepth 100000 in
theorem read_none (b off c n : Nat) (hn : 1 ≤ n) (hc : n ≤ maxLen) (w : World) (h : BytesAt w (some ⟨b, off, none⟩) (padN n [])) :
    Calls Try.prog 26 #[.slice (some ⟨b, off, none⟩) n c] w fun e w' => (∃ v, e = .returned v ∧ RollVal (fun k => w.heap.size ≤ k) w' v 0 [] [] 0) ∧ Below w.heap.size w w' := by
  have hl : (padN n []).length = n := padN_length (Nat.zero_le _)
  have hz : padN n [] = zeros n := rfl
  have GU := Lib.hid (unframe_no b off c (padN n []) (by omega) (padN_bytes fun x hx => (by cases hx)) (.inr (by rw [hz, zeros_get hn])) (w.alloc (.cells #[.int .i64 0, .slice none 0 0, .slice none 0 0, .int .i64 0] 57)) (h.below ((Below.refl _ _).alloc (Nat.le_refl _) _)))
  rw [hl] at GU
  have GG := Lib.hid (fun w => numGet_nil none 0 w)
  clear h
  go_enter Try.func26, Try.ntmps26
  go_wp2_with fail
  refine wp_scope_fwd ?_
  go_wp2_with fail
  refine GU.out.mono ?_
  rintro e w' ⟨rfl, rfl⟩
  go_wp2_with fail
  refine (GG.out _).mono ?_
  rintro e w' ⟨rfl, rfl⟩
  go_wp2
  go_step3
  refine ⟨_, rfl, ?_⟩
  go_wp2
  rw [Exit.noGoto_ret]
  refine bodyPost_ret (results_cell_row rfl _ _ w.heap.size 57 #[.int .i64 0, .slice none 0 0, .slice none 0 0, .int .i64 0] (0, 0) _ rfl (heap_alloc_new w _) Try.underlying57 rfl (by kernel_rfl)) rfl ?_
  exact ⟨⟨_, rfl, none, 0, none, 0, rfl, .inl rfl, fun a h => (by cases h), RowsL.nil _ _⟩, (Below.refl _ _).alloc (Nat.le_refl _) _⟩
end Go.Proofs.Ytahfkcfbmklfpaa

/- The contract of journal.read, of a half that holds a roll. Condition: fewer than 2^40 bytes. -/
namespace Go.Proofs.Ytahfkcfbmklfpaa
open Go.RowKit Go.Deep

/-- How many bytes the first frame and k more have. -/
def enK (r : RollV) (k : Nat) : Nat := (r.first ++ (r.recs.take k).flatMap frm).length
theorem enK_zero (r : RollV) : enK r 0 = r.first.length := by simp [enK]
theorem enK_all (r : RollV) : enK r r.recs.length = r.bytes.length := by rw [enK, List.take_length]; rfl
theorem enK_succ (r : RollV) {k : Nat} (h : k < r.recs.length) : enK r (k + 1) = enK r k + flen (r.recs[k]).length := by
  rw [enK, List.take_succ_eq_append_getElem h, List.flatMap_append, ← List.append_assoc, List.length_append, List.flatMap_singleton, frm_length]
  rfl
theorem enK_le (r : RollV) (k : Nat) : enK r k ≤ r.bytes.length := by
  have : r.bytes = (r.first ++ (r.recs.take k).flatMap frm) ++ (r.recs.drop k).flatMap frm := by
    rw [List.append_assoc, ← List.flatMap_append, List.take_append_drop]
    rfl
  rw [this, List.length_append]
  exact Nat.le_add_right _ _
theorem enK_ge (r : RollV) : ∀ {k : Nat}, k ≤ r.recs.length → k ≤ enK r k := by
  intro k
  induction k with
  | zero => intro _; exact Nat.zero_le _
  | succ k ih =>
    intro h
    rw [enK_succ r (by omega)]
    have := (flen_bounds (r.recs[k]'(by omega)).length).1
    have := ih (by omega)
    omega
theorem roll_split (r : RollV) (n : Nat) {k : Nat} (h : k < r.recs.length) : (padN n r.bytes).drop (enK r k) = frm r.recs[k] ++ ((r.recs.drop (k + 1)).flatMap frm ++ zeros (n - r.bytes.length)) := by
  obtain ⟨Z, hZ⟩ : ∃ Z, zeros (n - r.bytes.length) = Z := ⟨_, rfl⟩
  rw [hZ]
  have e : padN n r.bytes = (r.first ++ (r.recs.take k).flatMap frm) ++ (frm r.recs[k] ++ ((r.recs.drop (k + 1)).flatMap frm ++ Z)) := by
    have h1 : r.bytes = (r.first ++ (r.recs.take k).flatMap frm) ++ (frm r.recs[k] ++ (r.recs.drop (k + 1)).flatMap frm) := by
      have h2 : r.recs.flatMap frm = (r.recs.take k).flatMap frm ++ (frm r.recs[k] ++ (r.recs.drop (k + 1)).flatMap frm) := by
        conv => lhs; rw [← List.take_append_drop k r.recs]
        rw [List.flatMap_append, List.drop_eq_getElem_cons h, List.flatMap_cons]
      show r.first ++ r.recs.flatMap frm = _
      rw [h2, List.append_assoc]
    show r.bytes ++ zeros (n - r.bytes.length) = _
    rw [hZ, h1]
    simp only [List.append_assoc]
  rw [e, enK, List.drop_left]
theorem roll_done (r : RollV) (n : Nat) : (padN n r.bytes).drop r.bytes.length = zeros (n - r.bytes.length) := by
  rw [padN, List.drop_left]
  rfl
theorem roll_first (r : RollV) (n : Nat) : padN n r.bytes = frm (nput r.turn ++ r.base) ++ (r.recs.flatMap frm ++ zeros (n - r.bytes.length)) := by
  show (r.first ++ r.recs.flatMap frm) ++ _ = _
  rw [List.append_assoc]
  rfl
theorem addrLow_form (b off k c : Nat) : addrLow (some ⟨b, off, none⟩) k c = some ⟨b, if c = k then off else off + k, none⟩ := by
  unfold addrLow
  split
  · rfl
  · simp [Addr.add]
def rollCells (t : Nat) (bA : Option Addr) (bn bc : Nat) (rA : Option Addr) (rn rc en : Nat) (j : Nat) : Value :=
  if j = 0 then .int .i64 (t : Int) else if j = 1 then .slice bA bn bc else if j = 2 then .slice rA rn rc else .int .i64 (en : Int)
theorem four {i : Nat} (h : i < 4) : i = 0 ∨ i = 1 ∨ i = 2 ∨ i = 3 := by omega

def jrS0 : Sched Nat := .one 5 (.quiet 6 (.one 7 .done))
def jrS1 : Sched Nat := .one 4 jrS0
def jrS : Sched Nat := .quiet 0 (.quiet 2 (.two 1 (.one 3 jrS1) 3 (.two 1 jrS1 4 (.one 1 jrS0))))

set_option maxHeartbeats 4000000 in
set_option maxRecDepth 100000 in
theorem read_yes (b off c n : Nat) (r : RollV) (hr : r.Good) (hrn : r.bytes.length ≤ n) (hn : n ≤ 4194304) (hnc : n ≤ c) (hc : c ≤ maxLen) (w : World) (h : BytesAt w (some ⟨b, off, none⟩) (padN n r.bytes)) :
    Calls Try.prog 26 #[.slice (some ⟨b, off, none⟩) n c] w fun e w' => (∃ v, e = .returned v ∧ RollVal (fun k => w.heap.size ≤ k) w' v r.turn r.base r.recs r.bytes.length) ∧ Below w.heap.size w w' := by
  have hl : (padN n r.bytes).length = n := padN_length hrn
  have hbl : Below w.heap.size w (w.alloc (.cells #[.int .i64 0, .slice none 0 0, .slice none 0 0, .int .i64 0] 57)) := (Below.refl _ _).alloc (Nat.le_refl _) _
  have hrow0 : (w.alloc (.cells #[.int .i64 0, .slice none 0 0, .slice none 0 0, .int .i64 0] 57)).rowIs w.heap.size 57 4 (rollCells 0 none 0 0 none 0 0 0) := World.rowIs_alloc w #[.int .i64 0, .slice none 0 0, .slice none 0 0, .int .i64 0] 57 _ fun i hi => by
    rcases four (by simpa using hi) with rfl | rfl | rfl | rfl <;> rfl
  have HRW0 := Lib.hid hrow0; clear hrow0
  have HB0 := Lib.hid hbl; clear hbl
  have hby := halfB_bytes (n := n) (o := some r) ⟨hr, hrn⟩
  have HBY : Hid (∀ x ∈ padN n r.bytes, x < 256) := hby
  clear hby
  have HAT := Lib.hid h; clear h
  have HR := Lib.hid hr; clear hr
  have hbase := HR.out.base.1
  simp only [maxLen] at hc
  have HPL : Hid ((nput r.turn ++ r.base).length = nsz r.turn + r.base.length) := by show _ = _; rw [List.length_append, nput_length]
  have hn6 := nsz_le r.turn
  have hn0 := nsz_pos r.turn
  have GU : Hid (∀ w', BytesAt w' (some ⟨b, off, none⟩) (padN n r.bytes) → Calls Try.prog 45 #[.slice (some ⟨b, off, none⟩) n c] w' fun e w'' => (∃ A' c', e = .returned (.tuple #[.slice A' (nput r.turn ++ r.base).length c', .int .i64 ((flen (nput r.turn ++ r.base).length : Nat) : Int)]) ∧ BytesAt w' A' (nput r.turn ++ r.base) ∧ ((nput r.turn ++ r.base) ≠ [] → ∃ off', A' = some ⟨b, off', none⟩) ∧ (nput r.turn ++ r.base).length ≤ c') ∧ Below w'.heap.size w' w'') := fun w' hw' => by
    have e := roll_first r n
    have hl2 := hl
    have hby := HBY.out
    rw [e] at hl2 hby hw'
    have := unframe_yes b off c (nput r.turn ++ r.base) _ (by rw [HPL.out]; omega) (by rw [hl2]; omega) (by simp only [maxLen]; omega) hby w' hw'
    rwa [hl2] at this
  have HNG : Hid (ng 0 0 (nput r.turn ++ r.base) = (r.turn, nsz r.turn, 0)) := ng_nput _ HR.out.turn.2 _
  have HPB : Hid (∀ x ∈ nput r.turn ++ r.base, x < 256) := fun x hx => (List.mem_append.1 hx).elim (nput_bytes _ x) (HR.out.base.2 x)
  have HDR : Hid ((nput r.turn ++ r.base).drop (nsz r.turn) = r.base) := by show _ = _; rw [← nput_length r.turn, List.drop_left]
  have HNE : Hid (nput r.turn ++ r.base ≠ []) := fun e => by have h1 := HPL.out; rw [e, List.length_nil] at h1; omega
  have HF : Hid (flen (nput r.turn ++ r.base).length = enK r 0) := by show _ = _; rw [enK_zero, RollV.first, frm_length]
  rw [HF.out] at GU
  obtain ⟨p, HP⟩ : ∃ p, Hid (nput r.turn ++ r.base = p) := ⟨_, Lib.hid rfl⟩
  rw [HP.out] at GU HNG HPB HDR HNE HPL
  obtain ⟨m, HM⟩ : ∃ m, Hid (nsz r.turn = m) := ⟨_, rfl⟩
  rw [HM.out] at HNG HDR HPL hn6 hn0
  obtain ⟨pl, HPLL⟩ : ∃ pl, Hid (p.length = pl) := ⟨_, rfl⟩
  have HPM : Hid (pl = m + r.base.length) := by show _ = _; rw [← HPLL.out, HPL.out]
  have hpl2 : m ≤ pl ∧ pl ≤ 100000 := by have := HPM.out; omega
  rw [HPLL.out] at GU
  obtain ⟨T, HT⟩ : ∃ T, Hid (r.turn = T) := ⟨_, rfl⟩
  have hT : T ≤ 1099511627776 := by rw [← HT.out]; exact HR.out.turn.2
  rw [HT.out] at HNG ⊢
  go_enter Try.func26, Try.ntmps26
  go_wp2_with fail
  generalize w.alloc (.cells #[.int .i64 0, .slice none 0 0, .slice none 0 0, .int .i64 0] 57) = w0 at *
  refine wp_scope_fwd ?_
  go_wp2_with fail
  refine (GU.out _ (HAT.out.below HB0.out)).mono ?_
  rintro e w1 ⟨⟨A1, c1, rfl, hat1, hA1, hc1⟩, hb1⟩
  obtain ⟨off1, rfl⟩ := hA1 HNE.out
  have HB1 : Hid (Below w.heap.size w w1) := HB0.out.trans (hb1.mono HB0.out.size)
  have HAT1 : Hid (BytesAt w1 (some ⟨b, off1, none⟩) p) := hat1.below hb1
  have HRW1 : Hid (w1.rowIs w.heap.size 57 4 (rollCells 0 none 0 0 none 0 0 0)) := HRW0.out.of_block (hb1.block _ HRW0.out.lt)
  clear hat1 hb1 hA1
  have GG := Lib.hid (numGet_any b off1 c1 p (by rw [HPLL.out]; simp only [maxLen]; omega) HPB.out w1 (fun j x hj => by
    obtain ⟨hjl, e⟩ := List.getElem?_eq_some_iff.1 hj
    rw [← e]
    exact HAT1.out.cell hjl))
  rw [HNG.out, HPLL.out] at GG
  go_wp2_with fail
  refine GG.out.mono ?_
  rintro e w' ⟨rfl, rfl⟩
  have s1 := fun w => slice_low (some ⟨b, off1, none⟩) pl c1 m (by omega) w
  rw [show pl - m = r.base.length by have := HPM.out; omega] at s1
  have HBA : Hid (BytesAt w1 (addrLow (some ⟨b, off1, none⟩) m c1) r.base) := by
    have := HAT1.out.low c1 m (by rw [HPLL.out]; exact hc1)
    rw [HDR.out] at this
    exact this
  have GC := Lib.hid (bclone_any (addrLow (some ⟨b, off1, none⟩) m c1) r.base (c1 - m) (by omega) w1 HBA.out)
  go_wp2_with fail
  refine GC.out.mono ?_
  rintro e w2 ⟨⟨v2, rfl, ho2⟩, hb2⟩
  have HB2 : Hid (Below w.heap.size w w2) := HB1.out.trans (hb2.mono HB1.out.size)
  have HRW2 : Hid (w2.rowIs w.heap.size 57 4 (rollCells 0 none 0 0 none 0 0 0)) := HRW1.out.of_block (hb2.block _ HRW1.out.lt)
  obtain ⟨bA, bc, rfl⟩ := own_slice ho2
  have HBB : Hid (BytesAt w2 bA r.base ∧ ∀ a, bA = some a → w.heap.size < a.block ∧ a.block < w2.heap.size) := ⟨BytesAt.of_own ho2 rfl, fun a ha => by
    subst ha
    have := ho2.lt a.block rfl
    have := HRW1.out.lt
    omega⟩
  clear ho2 hb2 s1
  have f0 := HRW2.out.frozen 0
  have hx0 : w2.cell? ⟨w.heap.size, 0, none⟩ = some (.int .i64 0) := HRW2.out.cell (by omega)
  have HS3 := Lib.hid (((HRW2.out.set 0 (.int .i64 (T : Int))).set 1 (.slice bA r.base.length bc)).set 3 (.int .i64 ((enK r 0 : Nat) : Int)))
  have HO3 : Hid (Only w.heap.size w2 (((w2.setCell ⟨w.heap.size, 0, none⟩ (.int .i64 (T : Int))).setCell ⟨w.heap.size, 1, none⟩ (.slice bA r.base.length bc)).setCell ⟨w.heap.size, 3, none⟩ (.int .i64 ((enK r 0 : Nat) : Int)))) := ((((Only.refl _ _).set 0 _).set 1 _).set 3 _)
  have HEL := Lib.hid (fun k => enK_le r k)
  have HESU := Lib.hid (fun k (h : k < r.recs.length) => enK_succ r h)
  obtain ⟨e0, HE0⟩ : ∃ e0, Hid (enK r 0 = e0) := ⟨_, rfl⟩
  rw [HE0.out] at HS3 HO3 ⊢
  have r1 := HRW2.out.set 0 (.int .i64 (T : Int))
  have x1 := r1.cell (i := 1) (by omega)
  rw [if_neg (by omega)] at x1
  have f1 := r1.frozen 1
  have r2 := r1.set 1 (.slice bA r.base.length bc)
  have x3 := r2.cell (i := 3) (by omega)
  rw [if_neg (by omega), if_neg (by omega)] at x3
  have f3 := r2.frozen 3
  clear r1 r2
  go_wp2_with fail
  clear f0 hx0 x1 f1 x3 f3
  go_loopw [3, 4] (fun v3 v4 wr => ∃ (k en : Nat) (rA : Option Addr) (rc : Nat), k ≤ r.recs.length ∧ Hid (enK r k = en) ∧ Hid (wr.rowIs w.heap.size 57 4 (rollCells T bA r.base.length bc rA k rc en) ∧ (BytesAt wr bA r.base ∧ ∀ a, bA = some a → w.heap.size < a.block ∧ a.block < wr.heap.size ∧ ∀ y, rA = some y → a.block ≠ y.block) ∧ RowsL (fun k => w.heap.size < k) wr rA rc (r.recs.take k) ∧ Below w.heap.size w wr)) (fun _ _ wr => n - (intOf ((wr.cell? ⟨w.heap.size, 3, none⟩).getD undef)).toNat)
  case atStart =>
    refine ⟨0, e0, none, 0, Nat.zero_le _, HE0.out, ?_, ?_, ?_, ?_⟩
    · refine HS3.out.congr fun i hi => ?_
      rcases four hi with rfl | rfl | rfl | rfl <;> rfl
    · refine ⟨bytes_kept HBB.out.1 HO3.out.size fun a ha hlt => HO3.out.block _ hlt (by have := (HBB.out.2 a ha).1; omega), fun a ha => ⟨(HBB.out.2 a ha).1, Nat.lt_of_lt_of_le (HBB.out.2 a ha).2 HO3.out.size, fun y hy => (by cases hy)⟩⟩
    · rw [List.take_zero]
      exact RowsL.nil _ _
    · exact HO3.out.below HB2.out (Nat.le_refl _)
  case round =>
    obtain ⟨k, en, rA, rc, hk, HEN, HRR⟩ := hrel
    have c3 : wr.cell? ⟨w.heap.size, 3, none⟩ = some (.int .i64 (en : Int)) := HRR.out.1.cell (i := 3) (by omega)
    have henn : en ≤ n := by have := HEL.out k; have := HEN.out; omega
    have s5 := fun w => slice_low (some ⟨b, off, none⟩) n c en henn w
    obtain ⟨o2, HO2⟩ : ∃ o2, Hid ((if c = en then off else off + en) = o2) := ⟨_, rfl⟩
    have eal : addrLow (some ⟨b, off, none⟩) en c = some ⟨b, o2, none⟩ := by rw [addrLow_form, HO2.out]
    rw [eal] at s5
    have HATK : Hid (BytesAt wr (some ⟨b, o2, none⟩) ((padN n r.bytes).drop en)) := by
      have := (HAT.out.below HRR.out.2.2.2).low c en (by rw [hl]; exact hnc)
      rw [eal] at this
      exact this
    have HBK : Hid (∀ x ∈ (padN n r.bytes).drop en, x < 256) := fun x hx => HBY.out x (List.mem_of_mem_drop hx)
    have HLK : Hid (((padN n r.bytes).drop en).length = n - en) := by show _ = _; rw [List.length_drop, hl]
    clear eal
    by_cases hlt : k < r.recs.length
    · have hsp := roll_split r n hlt
      rw [HEN.out] at hsp
      have hrec := HR.out.recs _ (List.getElem_mem hlt)
      have HTK := Lib.hid (List.take_succ_eq_append_getElem hlt)
      have hsu := HESU.out k hlt
      rw [HEN.out] at hsu
      obtain ⟨q, HQ⟩ : ∃ q, Hid (r.recs[k] = q) := ⟨_, Lib.hid rfl⟩
      rw [HQ.out] at hsp hrec hsu HTK
      have GU2 : Hid (Calls Try.prog 45 #[.slice (some ⟨b, o2, none⟩) (n - en) (c - en)] wr fun e w'' => (∃ A' c', e = .returned (.tuple #[.slice A' q.length c', .int .i64 ((flen q.length : Nat) : Int)]) ∧ BytesAt wr A' q ∧ (q ≠ [] → ∃ off', A' = some ⟨b, off', none⟩) ∧ q.length ≤ c') ∧ Below wr.heap.size wr w'') := by
        have h1 := HATK.out
        have h2 := HBK.out
        have h3 := HLK.out
        rw [hsp] at h1 h2 h3
        have := unframe_yes b o2 (c - en) q _ (by omega) (by rw [h3]; omega) (by simp only [maxLen]; omega) h2 wr h1
        rwa [h3] at this
      have hfb := flen_bounds q.length
      obtain ⟨fl, HFL⟩ : ∃ fl, Hid (flen q.length = fl) := ⟨_, rfl⟩
      rw [HFL.out] at GU2 hsu hfb
      have HLE := HEL.out (k + 1)
      rw [hsu] at HLE
      go_wp2_with fail
      refine GU2.out.mono ?_
      rintro e w3 ⟨⟨A3, c3', rfl, hat3, _, hc3⟩, hb3⟩
      have HB3 := Lib.hid hb3
      have HAT3 : Hid (BytesAt w3 A3 q) := hat3.below hb3
      clear hat3 hb3 s5
      have HKN : Hid (k ≤ 4194304) := by have := HEN.out; have := enK_ge r (Nat.le_of_lt hlt); show _ ≤ _; omega
      have hlen5 : ((fl : Int) == 0) = false := beq_eq_false_iff_ne.2 (by omega)
      have GC2 := Lib.hid (bclone_any A3 q c3' (by omega) w3.drew HAT3.out)
      have HRW3 : Hid (w3.rowIs w.heap.size 57 4 (rollCells T bA r.base.length bc rA k rc en)) := HRR.out.1.of_block (HB3.out.block _ HRR.out.1.lt)
      have HLT3 : Hid (∀ j, w3.heap.size ≤ j → w.heap.size < j) := fun j hj => by have := HRW3.out.lt; omega
      have HRG2 : Hid (∀ y, rA = some y → w.heap.size < y.block ∧ y.block < wr.heap.size) := fun y hy => by
        obtain ⟨L, _, _, h3, _⟩ := HRR.out.2.2.1
        exact h3 y hy
      have HRG : Hid (∀ y, rA = some y → w.heap.size = y.block → False) := fun y hy e => by have := HRG2.out y hy; omega
      have HRA : Hid (∀ y, rA = some y → ∀ j, w3.heap.size ≤ j → j = y.block → False) := fun y hy j hj e => by have := HRG2.out y hy; have := HB3.out.size; omega
      have d1 : w3.drew.cell? ⟨w.heap.size, 2, none⟩ = some (.slice rA k rc) := HRW3.out.cell (i := 2) (by omega)
      go_wp2_with fail
      refine Sched.wp_region_branch (keepBlocks []) jrS (by kernel_rfl) (by kernel_rfl) (fun _ _ d _ _ h => by cases d <;> exact h) ?_
      simp only [jrS, jrS1, jrS0, Sched.picked, List.getElem?_cons_succ, List.getElem?_cons_zero, Option.getD_some]
      repeat (refine Sched.walkK_quiet (by rfl) (fun K hK => ?_); go_big_quiet_op; refine hK _ ?_; clear hK K)
      refine Sched.walkK_two ?_ ?_
      · refine Sched.walkK_one (by rfl) (fun K hK => ?_)
        go_simp
        refine hK _ _ ((keepBlocks []).refl _) ?_
        clear hK K
        refine Sched.walkK_one (by rfl) (fun K hK => ?_)
        go_simp
        refine GC2.out.mono ?_
        rintro e w4 ⟨⟨v4, rfl, ho4⟩, hb4⟩
        refine hK _ _ (keep_none hb4.size) ?_
        clear hK K
        obtain ⟨nA, nc, rfl⟩ := own_slice ho4
        have HB4 : Hid (Below wr.heap.size wr w4) := (HB3.out.drew).trans (hb4.mono HB3.out.size)
        have HN4 : Hid (BytesAt w4 nA q ∧ ∀ a, nA = some a → w3.heap.size ≤ a.block ∧ a.block < w4.heap.size) := ⟨BytesAt.of_own ho4 rfl, fun a ha => by subst ha; exact ho4.lt a.block rfl⟩
        have HRL4 := Lib.hid (HRR.out.2.2.1.below HB4.out)
        have HRW4 : Hid (w4.rowIs w.heap.size 57 4 (rollCells T bA r.base.length bc rA k rc en)) := HRR.out.1.of_block (HB4.out.block _ HRR.out.1.lt)
        have HS4 : Hid (w3.heap.size ≤ w4.heap.size) := hb4.size
        clear ho4 hb4
        have hb5 : Below w4.heap.size w4 (w4.alloc (.cells #[.slice nA q.length nc] 31)) := (Below.refl _ _).alloc (Nat.le_refl _) _
        have d2 : w4.cell? ⟨w.heap.size, 2, none⟩ = some (.slice rA k rc) := HRW4.out.cell (i := 2) (by omega)
        have d3 : (w4.alloc (.cells #[.slice nA q.length nc] 31)).cell? ⟨w.heap.size, 2, none⟩ = some (.slice rA k rc) := (HRW4.out.of_block (hb5.block _ HRW4.out.lt)).cell (i := 2) (by omega)
        clear hb5
        refine Sched.walkK_one (by rfl) (fun K hK => ?_)
        go_simp
        refine hK _ _ (keep_none (by simp)) ?_
        clear hK K
        try simp only [Act.put, List.setIfInBounds_toArray, List.set_cons_zero, List.set_cons_succ]
        refine Sched.walkK_one (by rfl) (fun K hK => ?_)
        refine wp_rows_push (.tmp 41) (.tmp 44) rfl rA rc _ HRL4.out (by have := HKN.out; rw [List.length_take]; omega) nA q nc HN4.out.1 (fun a ha => ⟨HLT3.out _ (HN4.out.2 a ha).1, (HN4.out.2 a ha).2, fun y hy e => HRA.out y hy _ (HN4.out.2 a ha).1 e⟩) (fun j hj => HLT3.out _ (Nat.le_trans HS4.out hj)) k (by rw [List.length_take]; omega) rfl rfl ?_
        intro A5 c5 w5 hr5 ho5 ha5
        refine hK _ _ (keep_none (by have := ho5.2; simp; omega)) ?_
        have ho5 := ho5.1
        clear hK K
        simp only [Act.put, List.setIfInBounds_toArray, List.set_cons_zero, List.set_cons_succ]
        have HR5 := Lib.hid hr5; have HO5 := Lib.hid ho5; have HA5 := Lib.hid ha5
        clear hr5 ho5 ha5
        have HRW5 : Hid (w5.rowIs w.heap.size 57 4 (rollCells T bA r.base.length bc rA k rc en)) := HRW4.out.of_block (HO5.out.block _ HRW4.out.lt (fun ⟨y, hy, e⟩ => HRG.out y hy e))
        have x2 : w5.cell? ⟨w.heap.size, 2, none⟩ = some (.slice rA k rc) := HRW5.out.cell (i := 2) (by omega)
        have f2 := HRW5.out.frozen 2
        rw [← HTK.out] at HR5 ⊢
        have hlk : (r.recs.take (k + 1)).length = k + 1 := by rw [List.length_take]; omega
        rw [hlk]
        clear hlk
        repeat (refine Sched.walkK_quiet (by rfl) (fun K hK => ?_); go_big_quiet_op; refine hK _ ?_; clear hK K)
        refine Sched.walkK_one (by rfl) (fun K hK => ?_)
        go_simp
        refine hK _ _ (keep_none (by simp)) ?_
        clear hK K d2 d3
        refine Sched.walkK_done ?_
        have HN6 : Hid ((w5.setCell ⟨w.heap.size, 2, none⟩ (.slice A5 (k + 1) c5)).rowIs w.heap.size 57 4 (rollCells T bA r.base.length bc A5 (k + 1) c5 en)) := (HRW5.out.set 2 (.slice A5 (k + 1) c5)).congr fun i hi => by rcases four hi with rfl | rfl | rfl | rfl <;> rfl
        have HO6 : Hid (Only w.heap.size w5 (w5.setCell ⟨w.heap.size, 2, none⟩ (.slice A5 (k + 1) c5))) := (Only.refl _ _).set 2 _
        generalize w5.setCell ⟨w.heap.size, 2, none⟩ (.slice A5 (k + 1) c5) = w6 at *
        have x3 : w6.cell? ⟨w.heap.size, 3, none⟩ = some (.int .i64 (en : Int)) := HN6.out.cell (i := 3) (by omega)
        have f3 := HN6.out.frozen 3
        clear x2 f2
        have HN7 := Lib.hid (HN6.out.set 3 (.int .i64 ((en + fl : Nat) : Int)))
        have eN : ((en + fl : Nat) : Int) = (en : Int) + (fl : Int) := by omega
        rw [eN] at HN7
        clear eN
        have HS6 : Hid (wr.heap.size ≤ w5.heap.size) := Nat.le_trans HB4.out.size HO5.out.size
        go_wp2
        go_roundw
        case measure =>
          have h7 := HN7.out.cell (i := 3) (by omega)
          rw [if_pos rfl] at h7
          rw [h7, c3]
          simp [intOf]
          omega
        refine ⟨k + 1, en + fl, A5, c5, by omega, by show _ = _; rw [hsu], ?_, ⟨?_, ?_⟩, ?_, ?_⟩
        · refine HN7.out.congr fun i hi => ?_
          rcases four hi with rfl | rfl | rfl | rfl
          · rfl
          · rfl
          · rfl
          · show Value.int _ _ = Value.int _ _
            congr 1
        · have h1 := HRR.out.2.1.1.below HB4.out
          have h2 := bytes_kept h1 HO5.out.size (fun a ha hlt => HO5.out.block _ hlt fun ⟨y, hy, e⟩ => (HRR.out.2.1.2 a ha).2.2 y hy e)
          have h3 := bytes_kept h2 HO6.out.size (fun a ha hlt => HO6.out.block _ hlt (by have := (HRR.out.2.1.2 a ha).1; omega))
          exact bytes_kept h3 (by simp) (fun a ha hlt => Below.heap_setCell _ _ _ _ (by show a.block ≠ w.heap.size; have := (HRR.out.2.1.2 a ha).1; omega))
        · intro a ha
          obtain ⟨h1, h2, h3⟩ := HRR.out.2.1.2 a ha
          refine ⟨h1, ?_, fun y hy e => ?_⟩
          · have := HS6.out; have := HO6.out.size; simp; omega
          · rcases HA5.out y hy with ⟨z, hz, e2⟩ | h
            · exact h3 z hz (e.trans e2)
            · have := HB4.out.size; omega
        · have h1 := HR5.out.kept (P' := fun k => w.heap.size < k) HO6.out.size (fun j hj hlt => HO6.out.block _ hlt (by omega)) (fun _ h _ => h)
          exact h1.kept (by simp) (fun j hj hlt => Below.heap_setCell _ _ _ _ (by show j ≠ w.heap.size; omega)) (fun _ h _ => h)
        · have hOff : Off (fun k => w.heap.size ≤ k) w w5 := (Off.of_below (O := fun k => w.heap.size ≤ k) (HRR.out.2.2.2.trans (HB4.out.mono HRR.out.2.2.2.size))).trans HO5.out (fun x ⟨y, hy, e⟩ => .inr (by have := HRG2.out y hy; omega))
          have hb5 : Below w.heap.size w w5 := ⟨hOff.os, hOff.tape, hOff.output, hOff.size, fun j hj => hOff.block j hj (by omega)⟩
          exact (HO6.out.below hb5 (Nat.le_refl _)).setCell (Nat.le_refl _) _
      · refine Sched.walkK_one (by rfl) (fun K hK => ?_)
        go_simp
        refine GC2.out.mono ?_
        rintro e w4 ⟨⟨v4, rfl, ho4⟩, hb4⟩
        refine hK _ _ (keep_none hb4.size) ?_
        clear hK K
        obtain ⟨nA, nc, rfl⟩ := own_slice ho4
        have HB4 : Hid (Below wr.heap.size wr w4) := (HB3.out.drew).trans (hb4.mono HB3.out.size)
        have HN4 : Hid (BytesAt w4 nA q ∧ ∀ a, nA = some a → w3.heap.size ≤ a.block ∧ a.block < w4.heap.size) := ⟨BytesAt.of_own ho4 rfl, fun a ha => by subst ha; exact ho4.lt a.block rfl⟩
        have HRL4 := Lib.hid (HRR.out.2.2.1.below HB4.out)
        have HRW4 : Hid (w4.rowIs w.heap.size 57 4 (rollCells T bA r.base.length bc rA k rc en)) := HRR.out.1.of_block (HB4.out.block _ HRR.out.1.lt)
        have HS4 : Hid (w3.heap.size ≤ w4.heap.size) := hb4.size
        clear ho4 hb4
        have hb5 : Below w4.heap.size w4 (w4.alloc (.cells #[.slice nA q.length nc] 31)) := (Below.refl _ _).alloc (Nat.le_refl _) _
        have d2 : w4.cell? ⟨w.heap.size, 2, none⟩ = some (.slice rA k rc) := HRW4.out.cell (i := 2) (by omega)
        have d3 : (w4.alloc (.cells #[.slice nA q.length nc] 31)).cell? ⟨w.heap.size, 2, none⟩ = some (.slice rA k rc) := (HRW4.out.of_block (hb5.block _ HRW4.out.lt)).cell (i := 2) (by omega)
        clear hb5
        refine Sched.walkK_two ?_ ?_
        · refine Sched.walkK_one (by rfl) (fun K hK => ?_)
          go_simp
          refine hK _ _ ((keepBlocks []).refl _) ?_
          clear hK K
          refine Sched.walkK_one (by rfl) (fun K hK => ?_)
          go_simp
          refine hK _ _ (keep_none (by simp)) ?_
          clear hK K
          try simp only [Act.put, List.setIfInBounds_toArray, List.set_cons_zero, List.set_cons_succ]
          refine Sched.walkK_one (by rfl) (fun K hK => ?_)
          refine wp_rows_push (.tmp 41) (.tmp 44) rfl rA rc _ HRL4.out (by have := HKN.out; rw [List.length_take]; omega) nA q nc HN4.out.1 (fun a ha => ⟨HLT3.out _ (HN4.out.2 a ha).1, (HN4.out.2 a ha).2, fun y hy e => HRA.out y hy _ (HN4.out.2 a ha).1 e⟩) (fun j hj => HLT3.out _ (Nat.le_trans HS4.out hj)) k (by rw [List.length_take]; omega) rfl rfl ?_
          intro A5 c5 w5 hr5 ho5 ha5
          refine hK _ _ (keep_none (by have := ho5.2; simp; omega)) ?_
          have ho5 := ho5.1
          clear hK K
          simp only [Act.put, List.setIfInBounds_toArray, List.set_cons_zero, List.set_cons_succ]
          have HR5 := Lib.hid hr5; have HO5 := Lib.hid ho5; have HA5 := Lib.hid ha5
          clear hr5 ho5 ha5
          have HRW5 : Hid (w5.rowIs w.heap.size 57 4 (rollCells T bA r.base.length bc rA k rc en)) := HRW4.out.of_block (HO5.out.block _ HRW4.out.lt (fun ⟨y, hy, e⟩ => HRG.out y hy e))
          have x2 : w5.cell? ⟨w.heap.size, 2, none⟩ = some (.slice rA k rc) := HRW5.out.cell (i := 2) (by omega)
          have f2 := HRW5.out.frozen 2
          rw [← HTK.out] at HR5 ⊢
          have hlk : (r.recs.take (k + 1)).length = k + 1 := by rw [List.length_take]; omega
          rw [hlk]
          clear hlk
          repeat (refine Sched.walkK_quiet (by rfl) (fun K hK => ?_); go_big_quiet_op; refine hK _ ?_; clear hK K)
          refine Sched.walkK_one (by rfl) (fun K hK => ?_)
          go_simp
          refine hK _ _ (keep_none (by simp)) ?_
          clear hK K d2 d3
          refine Sched.walkK_done ?_
          have HN6 : Hid ((w5.setCell ⟨w.heap.size, 2, none⟩ (.slice A5 (k + 1) c5)).rowIs w.heap.size 57 4 (rollCells T bA r.base.length bc A5 (k + 1) c5 en)) := (HRW5.out.set 2 (.slice A5 (k + 1) c5)).congr fun i hi => by rcases four hi with rfl | rfl | rfl | rfl <;> rfl
          have HO6 : Hid (Only w.heap.size w5 (w5.setCell ⟨w.heap.size, 2, none⟩ (.slice A5 (k + 1) c5))) := (Only.refl _ _).set 2 _
          generalize w5.setCell ⟨w.heap.size, 2, none⟩ (.slice A5 (k + 1) c5) = w6 at *
          have x3 : w6.cell? ⟨w.heap.size, 3, none⟩ = some (.int .i64 (en : Int)) := HN6.out.cell (i := 3) (by omega)
          have f3 := HN6.out.frozen 3
          clear x2 f2
          have HN7 := Lib.hid (HN6.out.set 3 (.int .i64 ((en + fl : Nat) : Int)))
          have eN : ((en + fl : Nat) : Int) = (en : Int) + (fl : Int) := by omega
          rw [eN] at HN7
          clear eN
          have HS6 : Hid (wr.heap.size ≤ w5.heap.size) := Nat.le_trans HB4.out.size HO5.out.size
          go_wp2
          go_roundw
          case measure =>
            have h7 := HN7.out.cell (i := 3) (by omega)
            rw [if_pos rfl] at h7
            rw [h7, c3]
            simp [intOf]
            omega
          refine ⟨k + 1, en + fl, A5, c5, by omega, by show _ = _; rw [hsu], ?_, ⟨?_, ?_⟩, ?_, ?_⟩
          · refine HN7.out.congr fun i hi => ?_
            rcases four hi with rfl | rfl | rfl | rfl
            · rfl
            · rfl
            · rfl
            · show Value.int _ _ = Value.int _ _
              congr 1
          · have h1 := HRR.out.2.1.1.below HB4.out
            have h2 := bytes_kept h1 HO5.out.size (fun a ha hlt => HO5.out.block _ hlt fun ⟨y, hy, e⟩ => (HRR.out.2.1.2 a ha).2.2 y hy e)
            have h3 := bytes_kept h2 HO6.out.size (fun a ha hlt => HO6.out.block _ hlt (by have := (HRR.out.2.1.2 a ha).1; omega))
            exact bytes_kept h3 (by simp) (fun a ha hlt => Below.heap_setCell _ _ _ _ (by show a.block ≠ w.heap.size; have := (HRR.out.2.1.2 a ha).1; omega))
          · intro a ha
            obtain ⟨h1, h2, h3⟩ := HRR.out.2.1.2 a ha
            refine ⟨h1, ?_, fun y hy e => ?_⟩
            · have := HS6.out; have := HO6.out.size; simp; omega
            · rcases HA5.out y hy with ⟨z, hz, e2⟩ | h
              · exact h3 z hz (e.trans e2)
              · have := HB4.out.size; omega
          · have h1 := HR5.out.kept (P' := fun k => w.heap.size < k) HO6.out.size (fun j hj hlt => HO6.out.block _ hlt (by omega)) (fun _ h _ => h)
            exact h1.kept (by simp) (fun j hj hlt => Below.heap_setCell _ _ _ _ (by show j ≠ w.heap.size; omega)) (fun _ h _ => h)
          · have hOff : Off (fun k => w.heap.size ≤ k) w w5 := (Off.of_below (O := fun k => w.heap.size ≤ k) (HRR.out.2.2.2.trans (HB4.out.mono HRR.out.2.2.2.size))).trans HO5.out (fun x ⟨y, hy, e⟩ => .inr (by have := HRG2.out y hy; omega))
            have hb5 : Below w.heap.size w w5 := ⟨hOff.os, hOff.tape, hOff.output, hOff.size, fun j hj => hOff.block j hj (by omega)⟩
            exact (HO6.out.below hb5 (Nat.le_refl _)).setCell (Nat.le_refl _) _
        · refine Sched.walkK_one (by rfl) (fun K hK => ?_)
          go_simp
          refine hK _ _ (keep_none (by simp)) ?_
          clear hK K
          refine Sched.walkK_one (by rfl) (fun K hK => ?_)
          go_simp
          refine hK _ _ ((keepBlocks []).refl _) ?_
          clear hK K
          try simp only [Act.put, List.setIfInBounds_toArray, List.set_cons_zero, List.set_cons_succ]
          refine Sched.walkK_one (by rfl) (fun K hK => ?_)
          refine wp_rows_push (.tmp 41) (.tmp 44) rfl rA rc _ HRL4.out (by have := HKN.out; rw [List.length_take]; omega) nA q nc HN4.out.1 (fun a ha => ⟨HLT3.out _ (HN4.out.2 a ha).1, (HN4.out.2 a ha).2, fun y hy e => HRA.out y hy _ (HN4.out.2 a ha).1 e⟩) (fun j hj => HLT3.out _ (Nat.le_trans HS4.out hj)) k (by rw [List.length_take]; omega) rfl rfl ?_
          intro A5 c5 w5 hr5 ho5 ha5
          refine hK _ _ (keep_none (by have := ho5.2; simp; omega)) ?_
          have ho5 := ho5.1
          clear hK K
          simp only [Act.put, List.setIfInBounds_toArray, List.set_cons_zero, List.set_cons_succ]
          have HR5 := Lib.hid hr5; have HO5 := Lib.hid ho5; have HA5 := Lib.hid ha5
          clear hr5 ho5 ha5
          have HRW5 : Hid (w5.rowIs w.heap.size 57 4 (rollCells T bA r.base.length bc rA k rc en)) := HRW4.out.of_block (HO5.out.block _ HRW4.out.lt (fun ⟨y, hy, e⟩ => HRG.out y hy e))
          have x2 : w5.cell? ⟨w.heap.size, 2, none⟩ = some (.slice rA k rc) := HRW5.out.cell (i := 2) (by omega)
          have f2 := HRW5.out.frozen 2
          rw [← HTK.out] at HR5 ⊢
          have hlk : (r.recs.take (k + 1)).length = k + 1 := by rw [List.length_take]; omega
          rw [hlk]
          clear hlk
          repeat (refine Sched.walkK_quiet (by rfl) (fun K hK => ?_); go_big_quiet_op; refine hK _ ?_; clear hK K)
          refine Sched.walkK_one (by rfl) (fun K hK => ?_)
          go_simp
          refine hK _ _ (keep_none (by simp)) ?_
          clear hK K d2 d3
          refine Sched.walkK_done ?_
          have HN6 : Hid ((w5.setCell ⟨w.heap.size, 2, none⟩ (.slice A5 (k + 1) c5)).rowIs w.heap.size 57 4 (rollCells T bA r.base.length bc A5 (k + 1) c5 en)) := (HRW5.out.set 2 (.slice A5 (k + 1) c5)).congr fun i hi => by rcases four hi with rfl | rfl | rfl | rfl <;> rfl
          have HO6 : Hid (Only w.heap.size w5 (w5.setCell ⟨w.heap.size, 2, none⟩ (.slice A5 (k + 1) c5))) := (Only.refl _ _).set 2 _
          generalize w5.setCell ⟨w.heap.size, 2, none⟩ (.slice A5 (k + 1) c5) = w6 at *
          have x3 : w6.cell? ⟨w.heap.size, 3, none⟩ = some (.int .i64 (en : Int)) := HN6.out.cell (i := 3) (by omega)
          have f3 := HN6.out.frozen 3
          clear x2 f2
          have HN7 := Lib.hid (HN6.out.set 3 (.int .i64 ((en + fl : Nat) : Int)))
          have eN : ((en + fl : Nat) : Int) = (en : Int) + (fl : Int) := by omega
          rw [eN] at HN7
          clear eN
          have HS6 : Hid (wr.heap.size ≤ w5.heap.size) := Nat.le_trans HB4.out.size HO5.out.size
          go_wp2
          go_roundw
          case measure =>
            have h7 := HN7.out.cell (i := 3) (by omega)
            rw [if_pos rfl] at h7
            rw [h7, c3]
            simp [intOf]
            omega
          refine ⟨k + 1, en + fl, A5, c5, by omega, by show _ = _; rw [hsu], ?_, ⟨?_, ?_⟩, ?_, ?_⟩
          · refine HN7.out.congr fun i hi => ?_
            rcases four hi with rfl | rfl | rfl | rfl
            · rfl
            · rfl
            · rfl
            · show Value.int _ _ = Value.int _ _
              congr 1
          · have h1 := HRR.out.2.1.1.below HB4.out
            have h2 := bytes_kept h1 HO5.out.size (fun a ha hlt => HO5.out.block _ hlt fun ⟨y, hy, e⟩ => (HRR.out.2.1.2 a ha).2.2 y hy e)
            have h3 := bytes_kept h2 HO6.out.size (fun a ha hlt => HO6.out.block _ hlt (by have := (HRR.out.2.1.2 a ha).1; omega))
            exact bytes_kept h3 (by simp) (fun a ha hlt => Below.heap_setCell _ _ _ _ (by show a.block ≠ w.heap.size; have := (HRR.out.2.1.2 a ha).1; omega))
          · intro a ha
            obtain ⟨h1, h2, h3⟩ := HRR.out.2.1.2 a ha
            refine ⟨h1, ?_, fun y hy e => ?_⟩
            · have := HS6.out; have := HO6.out.size; simp; omega
            · rcases HA5.out y hy with ⟨z, hz, e2⟩ | h
              · exact h3 z hz (e.trans e2)
              · have := HB4.out.size; omega
          · have h1 := HR5.out.kept (P' := fun k => w.heap.size < k) HO6.out.size (fun j hj hlt => HO6.out.block _ hlt (by omega)) (fun _ h _ => h)
            exact h1.kept (by simp) (fun j hj hlt => Below.heap_setCell _ _ _ _ (by show j ≠ w.heap.size; omega)) (fun _ h _ => h)
          · have hOff : Off (fun k => w.heap.size ≤ k) w w5 := (Off.of_below (O := fun k => w.heap.size ≤ k) (HRR.out.2.2.2.trans (HB4.out.mono HRR.out.2.2.2.size))).trans HO5.out (fun x ⟨y, hy, e⟩ => .inr (by have := HRG2.out y hy; omega))
            have hb5 : Below w.heap.size w w5 := ⟨hOff.os, hOff.tape, hOff.output, hOff.size, fun j hj => hOff.block j hj (by omega)⟩
            exact (HO6.out.below hb5 (Nat.le_refl _)).setCell (Nat.le_refl _) _
    · obtain rfl : k = r.recs.length := by omega
      have HEA : Hid (en = r.bytes.length) := by show _ = _; rw [← HEN.out, enK_all]
      have GU3 : Hid (Calls Try.prog 45 #[.slice (some ⟨b, o2, none⟩) (n - en) (c - en)] wr fun e w'' => e = .returned (.tuple #[.slice none 0 0, .int .i64 0]) ∧ wr = w'') := by
        have h1 := HATK.out
        have h2 := HBK.out
        have h3 := HLK.out
        have e := roll_done r n
        rw [← HEA.out] at e
        rw [e] at h1 h2 h3
        have := unframe_no b o2 (c - en) _ (by rw [h3]; simp only [maxLen]; omega) h2 (by
          rcases Nat.eq_zero_or_pos (n - en) with h | h
          · exact .inl (by rw [h]; rfl)
          · exact .inr (zeros_get h)) wr h1
        rwa [h3] at this
      have g0 : wr.cell? ⟨w.heap.size, 0, none⟩ = some (.int .i64 (T : Int)) := HRR.out.1.cell (i := 0) (by omega)
      have g1 : wr.cell? ⟨w.heap.size, 1, none⟩ = some (.slice bA r.base.length bc) := HRR.out.1.cell (i := 1) (by omega)
      have g2 : wr.cell? ⟨w.heap.size, 2, none⟩ = some (.slice rA r.recs.length rc) := HRR.out.1.cell (i := 2) (by omega)
      have k0 := HRR.out.1.frozen 0
      have k1 := HRR.out.1.frozen 1
      have k2 := HRR.out.1.frozen 2
      have k3 := HRR.out.1.frozen 3
      go_wp2_with fail
      refine GU3.out.mono ?_
      rintro e w' ⟨rfl, rfl⟩
      clear s5
      go_wp2
      go_step3
      refine ⟨_, rfl, ?_⟩
      have q1 := (HRR.out.1.set 0 (.int .i64 (T : Int))).frozen 1
      have p1 : (wr.setCell ⟨w.heap.size, 0, none⟩ (.int .i64 (T : Int))).cell? ⟨w.heap.size, 1, none⟩ = some (.slice bA r.base.length bc) := (HRR.out.1.set 0 (.int .i64 (T : Int))).cell (i := 1) (by omega)
      have q2 := ((HRR.out.1.set 0 (.int .i64 (T : Int))).set 1 (.slice bA r.base.length bc)).frozen 2
      have p2 : ((wr.setCell ⟨w.heap.size, 0, none⟩ (.int .i64 (T : Int))).setCell ⟨w.heap.size, 1, none⟩ (.slice bA r.base.length bc)).cell? ⟨w.heap.size, 2, none⟩ = some (.slice rA r.recs.length rc) := ((HRR.out.1.set 0 (.int .i64 (T : Int))).set 1 (.slice bA r.base.length bc)).cell (i := 2) (by omega)
      have q3 := (((HRR.out.1.set 0 (.int .i64 (T : Int))).set 1 (.slice bA r.base.length bc)).set 2 (.slice rA r.recs.length rc)).frozen 3
      have p3 : (((wr.setCell ⟨w.heap.size, 0, none⟩ (.int .i64 (T : Int))).setCell ⟨w.heap.size, 1, none⟩ (.slice bA r.base.length bc)).setCell ⟨w.heap.size, 2, none⟩ (.slice rA r.recs.length rc)).cell? ⟨w.heap.size, 3, none⟩ = some (.int .i64 (en : Int)) := (((HRR.out.1.set 0 (.int .i64 (T : Int))).set 1 (.slice bA r.base.length bc)).set 2 (.slice rA r.recs.length rc)).cell (i := 3) (by omega)
      have HRF : Hid (((((wr.setCell ⟨w.heap.size, 0, none⟩ (.int .i64 (T : Int))).setCell ⟨w.heap.size, 1, none⟩ (.slice bA r.base.length bc)).setCell ⟨w.heap.size, 2, none⟩ (.slice rA r.recs.length rc)).setCell ⟨w.heap.size, 3, none⟩ (.int .i64 (en : Int))).heap[w.heap.size]? = some (.cells #[.int .i64 (T : Int), .slice bA r.base.length bc, .slice rA r.recs.length rc, .int .i64 (en : Int)] 57 (0, 0))) :=
        rowIs_heap #[.int .i64 (T : Int), .slice bA r.base.length bc, .slice rA r.recs.length rc, .int .i64 (en : Int)] ((((HRR.out.1.set 0 (.int .i64 (T : Int))).set 1 (.slice bA r.base.length bc)).set 2 (.slice rA r.recs.length rc)).set 3 (.int .i64 (en : Int))) fun i hi => by
          rcases four (by simpa using hi) with rfl | rfl | rfl | rfl <;> rfl
      have HOF : Hid (Only w.heap.size wr ((((wr.setCell ⟨w.heap.size, 0, none⟩ (.int .i64 (T : Int))).setCell ⟨w.heap.size, 1, none⟩ (.slice bA r.base.length bc)).setCell ⟨w.heap.size, 2, none⟩ (.slice rA r.recs.length rc)).setCell ⟨w.heap.size, 3, none⟩ (.int .i64 (en : Int)))) := ((((Only.refl _ _).set 0 _).set 1 _).set 2 _).set 3 _
      go_wp2
      rw [Exit.noGoto_ret]
      generalize (((wr.setCell ⟨w.heap.size, 0, none⟩ (.int .i64 (T : Int))).setCell ⟨w.heap.size, 1, none⟩ (.slice bA r.base.length bc)).setCell ⟨w.heap.size, 2, none⟩ (.slice rA r.recs.length rc)).setCell ⟨w.heap.size, 3, none⟩ (.int .i64 (en : Int)) = wf at *
      refine bodyPost_ret (results_cell_row rfl _ _ w.heap.size 57 #[.int .i64 (T : Int), .slice bA r.base.length bc, .slice rA r.recs.length rc, .int .i64 (en : Int)] (0, 0) _ rfl HRF.out Try.underlying57 rfl (by kernel_rfl)) rfl ?_
      have hrl := HRR.out.2.2.1.kept (P' := fun k => w.heap.size ≤ k) HOF.out.size (fun j hj hlt => HOF.out.block _ hlt (by omega)) (fun _ h _ => by omega)
      rw [List.take_length] at hrl
      rw [← HEA.out]
      have X1 := bytes_kept HRR.out.2.1.1 HOF.out.size (fun a ha hlt => HOF.out.block _ hlt (by have := (HRR.out.2.1.2 a ha).1; omega))
      have X2 := HOF.out.below HRR.out.2.2.2 (Nat.le_refl _)
      refine ⟨⟨_, rfl, bA, bc, rA, rc, rfl, X1, ?_, hrl⟩, X2⟩
      intro a ha
      obtain ⟨y1, y2, y3⟩ := HRR.out.2.1.2 a ha
      exact ⟨Nat.le_of_lt y1, Nat.lt_of_lt_of_le y2 HOF.out.size, y3⟩
end Go.Proofs.Ytahfkcfbmklfpaa

/- The landed journal: what it holds, as which cells it lies, in which blocks; the contracts of half, Dead, Room. No condition beyond those that each lemma states. -/
namespace Go.Proofs.Ytahfkcfbmklfpaa
open Go.RowKit Go.Deep

def jCells (g inn t : Nat) (bA : Option Addr) (bn bc : Nat) (rA : Option Addr) (rn rc en : Nat) (j : Nat) : Value :=
  if j = 0 then .pointer (some ⟨g, 0, none⟩) else if j = 1 then .int .i64 (inn : Int) else if j = 2 then .int .i64 (t : Int) else if j = 3 then .slice bA bn bc else if j = 4 then .slice rA rn rc else if j = 5 then .int .i64 (en : Int) else .bool false
/-- The block gj of seven cells holds a journal that is not dead; all of it lies in blocks of Q. -/
def JMem (Q : Nat → Prop) (gj g inn t : Nat) (base : List Nat) (recs : List (List Nat)) (en : Nat) (w : World) : Prop :=
  Q gj ∧ (∀ x, Q x → x < w.heap.size) ∧ ∃ bA bc rA rc, w.rowIs gj 59 7 (jCells g inn t bA base.length bc rA recs.length rc en) ∧
    BytesAt w bA base ∧ (∀ a, bA = some a → Q a.block ∧ a.block ≠ gj ∧ ∀ y, rA = some y → a.block ≠ y.block) ∧ RowsL (fun k => Q k ∧ k ≠ gj) w rA rc recs
theorem JMem.kept {Q : Nat → Prop} {gj g inn t en : Nat} {base : List Nat} {recs : List (List Nat)} {w w' : World} (h : JMem Q gj g inn t base recs en w) (hs : w.heap.size ≤ w'.heap.size) (hk : ∀ b, Q b → w'.heap[b]? = w.heap[b]?) : JMem Q gj g inn t base recs en w' := by
  obtain ⟨h1, h2, bA, bc, rA, rc, h3, h4, h5, h6⟩ := h
  exact ⟨h1, fun x hx => Nat.lt_of_lt_of_le (h2 x hx) hs, bA, bc, rA, rc, h3.of_block (hk _ h1), bytes_kept h4 hs fun a ha _ => hk _ (h5 a ha).1, h5, h6.kept hs (fun k hk' _ => hk k hk'.1) fun _ h _ => h⟩
theorem JMem.below {Q : Nat → Prop} {gj g inn t en : Nat} {base : List Nat} {recs : List (List Nat)} {w w' : World} (h : JMem Q gj g inn t base recs en w) (hb : Below w.heap.size w w') : JMem Q gj g inn t base recs en w' := h.kept hb.size fun b hb' => hb.block b (h.2.1 b hb')
theorem JMem.off {O Q : Nat → Prop} {gj g inn t en : Nat} {base : List Nat} {recs : List (List Nat)} {w w' : World} (h : JMem Q gj g inn t base recs en w) (ho : Off O w w') (ha : ∀ x, Q x → ¬O x) : JMem Q gj g inn t base recs en w' := h.kept ho.size fun b hb' => ho.block b (h.2.1 b hb') (ha b hb')
/-- What stands in both halves. -/
def Halves (n : Nat) (B : List Nat) (o : Nat → Option RollV) : Prop :=
  8 ≤ n ∧ ∀ i, i < 2 → seg B (i * (n / 2)) (n / 2) = halfB (64 * (n / 2)) (o i) ∧ FitsIn (64 * (n / 2)) (o i)
/-- A journal over its disk, all of both in blocks J. -/
def Jour (J : Nat → Prop) (gj g n k : Nat) (r : RollV) (w : World) : Prop :=
  ∃ (O Q : Nat → Prop) (B : List Nat) (o : Nat → Option RollV) (inn : Nat), (∀ x, O x → J x ∧ ¬Q x) ∧ (∀ x, Q x → J x) ∧ JDisk O g n B 0 k w ∧ JMem Q gj g inn r.turn r.base r.recs r.bytes.length w ∧ Halves n B o ∧ inn < 2 ∧ o inn = some r ∧ turnOf (o (1 - inn)) < r.turn
theorem Jour.kept {J : Nat → Prop} {gj g n k : Nat} {r : RollV} {w w' : World} (h : Jour J gj g n k r w) (hs : w.heap.size ≤ w'.heap.size) (hk : ∀ b, J b → b < w.heap.size → w'.heap[b]? = w.heap[b]?) : Jour J gj g n k r w' := by
  obtain ⟨O, Q, B, o, inn, h1, h2, h3, h4, h5⟩ := h
  exact ⟨O, Q, B, o, inn, h1, h2, h3.kept hs fun b hb => hk b (h1 b hb).1 (h3.lt.2 b hb), h4.kept hs fun b hb => hk b (h2 b hb) (h4.2.1 b hb), h5⟩
theorem Jour.below {J : Nat → Prop} {gj g n k : Nat} {r : RollV} {w w' : World} (h : Jour J gj g n k r w) (hb : Below w.heap.size w w') : Jour J gj g n k r w' := h.kept hb.size fun b _ hlt => hb.block b hlt
theorem Jour.le {J : Nat → Prop} {gj g n k k' : Nat} {r : RollV} {w : World} (h : Jour J gj g n k r w) (hk : k ≤ k') : Jour J gj g n k' r w := by
  obtain ⟨O, Q, B, o, inn, h1, h2, h3, h4, h5⟩ := h
  exact ⟨O, Q, B, o, inn, h1, h2, h3.le (Nat.le_refl _) hk, h4, h5⟩
theorem seven' {i : Nat} (h : i < 7) : i = 0 ∨ i = 1 ∨ i = 2 ∨ i = 3 ∨ i = 4 ∨ i = 5 ∨ i = 6 := by omega

set_option maxHeartbeats 1000000 in
set_option maxRecDepth 100000 in
theorem half_any {O Q : Nat → Prop} {gj g inn t en n m k : Nat} {B : List Nat} {base : List Nat} {recs : List (List Nat)} {w : World} (hd : JDisk O g n B m k w) (hm : JMem Q gj g inn t base recs en w) (i : Nat) (hi : i < 2) (z : Int) (hz : z = (i : Int)) :
    Calls Try.prog 27 #[.pointer (some ⟨gj, 0, none⟩), .int .i64 z] w fun e w' => e = .returned (.agg #[.pointer (some ⟨g, 0, none⟩), .int .i64 ((i * (n / 2) : Nat) : Int), .int .i64 ((n / 2 : Nat) : Int)]) ∧ Below w.heap.size w w' := by
  subst hz
  obtain ⟨_, _, hn2⟩ := hd.size
  obtain ⟨_, _, bA, bc, rA, rc, hr, _⟩ := hm
  have hbl : Below w.heap.size w (w.alloc (.cells #[.pointer none, .int .i64 0, .int .i64 0] 62)) := (Below.refl _ _).alloc (Nat.le_refl _) _
  have c0 : (w.alloc (.cells #[.pointer none, .int .i64 0, .int .i64 0] 62)).cell? ⟨gj, 0, none⟩ = some (.pointer (some ⟨g, 0, none⟩)) := (hr.of_block (hbl.block _ hr.lt)).cell (i := 0) (by omega)
  have GS := Lib.hid (jsectors_any (hd.below hbl))
  have HB := Lib.hid hbl; clear hbl
  have h2 : (n : Int).tdiv 2 = ((n / 2 : Nat) : Int) := by rw [Int.tdiv_eq_ediv_of_nonneg (by omega)]; omega
  have hi2 : i * (n / 2) ≤ 65536 := by
    rcases (show i = 0 ∨ i = 1 by omega) with rfl | rfl <;> omega
  obtain ⟨s, HS⟩ : ∃ s, Hid (n / 2 = s) := ⟨_, rfl⟩
  obtain ⟨q, HQ⟩ : ∃ q, Hid (i * (n / 2) = q) := ⟨_, rfl⟩
  rw [HQ.out] at hi2
  have hqs : (i : Int) * (s : Int) = (q : Int) := by rw [← HQ.out, ← HS.out]; omega
  rw [HQ.out, HS.out]
  have hns : (n : Int) / 2 = (s : Int) := by rw [← HS.out]; omega
  have hs1 : s ≤ 65536 := by rw [← HS.out]; omega
  clear h2 hr
  go_enter Try.func27, Try.ntmps27
  go_wp2_with fail
  refine GS.out.mono ?_
  rintro e w' ⟨rfl, rfl⟩
  go_wp2_with fail
  refine bodyPost_ret (results_cell_row rfl _ _ w.heap.size 62 #[.pointer (some ⟨g, 0, none⟩), .int .i64 (q : Int), .int .i64 (s : Int)] (0, 0) _ rfl (heap_alloc_new w _) Try.underlying62 rfl (by kernel_rfl)) rfl ?_
  exact ⟨rfl, (Below.refl _ _).alloc (Nat.le_refl _) _⟩
theorem dead_any {Q : Nat → Prop} {gj g inn t en : Nat} {base : List Nat} {recs : List (List Nat)} {w : World} (hm : JMem Q gj g inn t base recs en w) :
    Calls Try.prog 15 #[.pointer (some ⟨gj, 0, none⟩)] w fun e w' => e = .returned (.bool false) ∧ w = w' := by
  obtain ⟨_, _, bA, bc, rA, rc, hr, _⟩ := hm
  have c6 : w.cell? ⟨gj, 6, none⟩ = some (.bool false) := hr.cell (i := 6) (by omega)
  clear hr
  go_enter Try.func15, Try.ntmps15
  go_wp2
  go_ret
  exact ⟨rfl, rfl⟩
set_option maxHeartbeats 1000000 in
set_option maxRecDepth 100000 in
theorem room_any {O Q : Nat → Prop} {gj g inn t en n k : Nat} {B : List Nat} {base : List Nat} {recs : List (List Nat)} {w : World} (hd : JDisk O g n B 0 k w) (hm : JMem Q gj g inn t base recs en w) (hi : inn < 2) (he : en ≤ 64 * (n / 2)) :
    Calls Try.prog 10 #[.pointer (some ⟨gj, 0, none⟩)] w fun e w' => (∃ R : Int, e = .returned (.int .i64 R) ∧ -1 ≤ R ∧ R ≤ 60000 ∧ ∀ m : Nat, m ≤ 60000 → ((m : Int) ≤ R ↔ en + flen m ≤ 64 * (n / 2))) ∧ Below w.heap.size w w' := by
  obtain ⟨_, _, hn2⟩ := hd.size
  have GH := Lib.hid (half_any (hd.below (Below.refl w.heap.size w).drew) (hm.below (Below.refl w.heap.size w).drew) inn hi (inn : Int) rfl)
  have GS := Lib.hid (fun w => hsize_any g (inn * (n / 2)) (n / 2) (by omega) w)
  have hil : (inn : Int) ≤ 2 := by omega
  obtain ⟨_, _, bA, bc, rA, rc, hr, _⟩ := hm
  have c6 : w.cell? ⟨gj, 6, none⟩ = some (.bool false) := hr.cell (i := 6) (by omega)
  have e1 : ∀ e : ExtK (keepBlocks [gj]) w.drew, e.val.cell? ⟨gj, 1, none⟩ = some (.int .i64 (inn : Int)) := fun e => (cell_of_block (e.property.2 gj (by simp)) _).trans (hr.cell (i := 1) (by omega))
  have e5 : ∀ e : ExtK (keepBlocks [gj]) w.drew, e.val.cell? ⟨gj, 5, none⟩ = some (.int .i64 (en : Int)) := fun e => (cell_of_block (e.property.2 gj (by simp)) _).trans (hr.cell (i := 5) (by omega))
  have HJL := Lib.hid hr.lt
  clear hr
  obtain ⟨C, HC⟩ : ∃ C, Hid (64 * (n / 2) = C) := ⟨_, rfl⟩
  rw [HC.out] at GS he ⊢
  have hC : C ≤ 4194304 := by rw [← HC.out]; omega
  have GL := Lib.hid (longest_any (C - en) (by omega))
  obtain ⟨y, HY⟩ : ∃ y, Hid (C - en = y) := ⟨_, rfl⟩
  have hy : (C : Int) - (en : Int) = (y : Int) := by rw [← HY.out]; omega
  rw [HY.out] at GL
  obtain ⟨q, HQ⟩ : ∃ q, Hid (inn * (n / 2) = q) := ⟨_, rfl⟩
  obtain ⟨s, HS⟩ : ∃ s, Hid (n / 2 = s) := ⟨_, rfl⟩
  rw [HQ.out, HS.out] at GH GS
  go_enter Try.func10, Try.ntmps10
  go_wp2_with fail
  clear c6
  refine wp_region_held_lit (keepBlocks [gj]) [(0, true), (1, true), (2, true), (3, true), (4, true), (7, true), (8, true), (9, true), (10, true), (11, true), (5, false), (6, false), (12, true), (13, false), (14, false), (15, true)] (by kernel_rfl) (by kernel_rfl) (fun _ _ d _ _ h => by cases d <;> exact h) ?_
  simp only [picked, List.map_cons, List.map_nil, List.getElem?_cons_succ, List.getElem?_cons_zero, Option.getD_some]
  repeat (refine wpH_quiet (by rfl) (fun K hK => ?_); go_big_quiet_op; refine hK _ ?_; clear hK K)
  clear e1 e5
  refine wpH_one (by rfl) (fun K hK => ?_)
  go_simp
  refine GH.out.mono ?_
  rintro e w1 ⟨rfl, hb1⟩
  have HB1 : Hid (Below w.heap.size w w1) := (Below.refl w.heap.size w).drew.trans hb1
  refine hK _ _ (keep_one hb1.size (hb1.block _ HJL.out)) ?_
  clear hK K hb1
  refine wpH_one (by rfl) (fun K hK => ?_)
  go_simp
  refine (GS.out _).mono ?_
  rintro e w2 ⟨rfl, hb2⟩
  have HB2 : Hid (Below w.heap.size w w2) := HB1.out.trans (hb2.mono HB1.out.size)
  refine hK _ _ (keep_one hb2.size (hb2.block _ (Nat.lt_of_lt_of_le HJL.out HB1.out.size))) ?_
  clear hK K hb2
  repeat (refine wpH_quiet (by rfl) (fun K hK => ?_); go_big_quiet_op; refine hK _ ?_; clear hK K)
  refine wpH_one (by rfl) (fun K hK => ?_)
  go_simp
  refine (GL.out _).mono ?_
  rintro e w' ⟨⟨L, rfl, hL1, hL2, hL3⟩, rfl⟩
  have HL3 := Lib.hid hL3; clear hL3
  refine hK _ _ ((keepBlocks [gj]).refl _) ?_
  clear hK K
  refine wpH_one (by rfl) (fun K hK => ?_)
  have key : ∀ R : Int, (R = L ∧ L ≤ 60000 ∨ R = 60000 ∧ 60000 < L) → -1 ≤ R ∧ R ≤ 60000 ∧ ∀ m : Nat, m ≤ 60000 → ((m : Int) ≤ R ↔ en + flen m ≤ C) := by
    intro R hR
    refine ⟨by omega, by omega, fun m hm => ?_⟩
    have := HL3.out m
    have := HY.out
    omega
  have KEY := Lib.hid key; clear key
  go_simp
  refine hK _ _ ((keepBlocks [gj]).refl _) ?_
  clear hK K
  repeat (refine wpH_quiet (by rfl) (fun K hK => ?_); go_big_quiet_op; refine hK _ ?_; clear hK K)
  refine wpH_nil ?_
  go_wp2
  go_ret
  exact ⟨⟨_, rfl, KEY.out _ (by omega)⟩, HB2.out⟩
end Go.Proofs.Ytahfkcfbmklfpaa

/- The contracts of Base and Records: new memory. Condition: no more than 2^40 records, each of no more than 2^46 bytes. -/
namespace Go.Proofs.Ytahfkcfbmklfpaa
open Go.RowKit Go.Deep

set_option maxHeartbeats 1000000 in
set_option maxRecDepth 100000 in
theorem base_any {Q : Nat → Prop} {gj g inn t en : Nat} {base : List Nat} {recs : List (List Nat)} {w : World} (hm : JMem Q gj g inn t base recs en w) (hb : base.length ≤ 70368744177664) :
    Calls Try.prog 19 #[.pointer (some ⟨gj, 0, none⟩)] w fun e w' => (∃ v, e = .returned v ∧ w'.ownsRow w.heap.size 5 1 v base.length (u8s base)) ∧ Below w.heap.size w w' := by
  obtain ⟨_, _, bA, bc, rA, rc, hr, hat, _⟩ := hm
  have c3 : w.cell? ⟨gj, 3, none⟩ = some (.slice bA base.length bc) := hr.cell (i := 3) (by omega)
  have GC := Lib.hid (bclone_any bA base bc hb w hat)
  clear hr hat
  go_enter Try.func19, Try.ntmps19
  go_wp2_with fail
  refine GC.out.mono ?_
  rintro e w1 ⟨⟨v, rfl, ho⟩, hb1⟩
  have HO := Lib.hid ho; have HB1 := Lib.hid hb1
  clear ho hb1
  go_wp2
  go_ret
  exact ⟨⟨_, rfl, HO.out⟩, HB1.out⟩
set_option maxHeartbeats 2000000 in
set_option maxRecDepth 100000 in
theorem records_any {Q : Nat → Prop} {gj g inn t en : Nat} {base : List Nat} {recs : List (List Nat)} {w : World} (hm : JMem Q gj g inn t base recs en w) (hl : recs.length ≤ 1099511627775) (hb : ∀ x ∈ recs, x.length ≤ 70368744177664) :
    Calls Try.prog 20 #[.pointer (some ⟨gj, 0, none⟩)] w fun e w' => (∃ A c, e = .returned (.slice A recs.length c) ∧ RowsL (fun k => w.heap.size ≤ k) w' A c recs) ∧ Below w.heap.size w w' := by
  obtain ⟨_, _, bA, bc, rA, rc, hr, _, _, hrows⟩ := hm
  have c4 : w.cell? ⟨gj, 4, none⟩ = some (.slice rA recs.length rc) := hr.cell (i := 4) (by omega)
  have HRO := Lib.hid hrows; have HBL := Lib.hid hb
  clear hr hrows hb
  go_enter Try.func20, Try.ntmps20
  go_wp2_with fail
  clear c4
  go_loopw [3, 5, 14] (fun v3 v5 vi wr => ∃ (k : Nat) (A : Option Addr) (c : Nat), k ≤ recs.length ∧ vi = .int .i64 (k : Int) ∧ v3 = .slice A k c ∧ Hid (RowsL (fun k => w.heap.size ≤ k) wr A c (recs.take k) ∧ Below w.heap.size w wr)) (fun _ _ vi _ => recs.length - (intOf vi).toNat)
  case atStart => exact ⟨0, none, 0, Nat.zero_le _, rfl, rfl, by rw [List.take_zero]; exact RowsL.nil _ _, Below.refl _ _⟩
  case round =>
    obtain ⟨k, A, c, hk, rfl, rfl, HR⟩ := hrel
    by_cases hlt : k < recs.length
    · obtain ⟨b, x, cx, hA, hcell, hat, hxb⟩ := (HRO.out.below HR.out.2).cell hlt
      subst hA
      have HTK := Lib.hid (List.take_succ_eq_append_getElem hlt)
      have hql := HBL.out _ (List.getElem_mem hlt)
      obtain ⟨q, HQ⟩ : ∃ q, Hid (recs[k] = q) := ⟨_, Lib.hid rfl⟩
      rw [HQ.out] at hcell hat HTK hql
      have GC := Lib.hid (bclone_any x q cx hql wr hat)
      clear hat
      go_wp2_with fail
      refine GC.out.mono ?_
      rintro e w4 ⟨⟨v4, rfl, ho4⟩, hb4⟩
      obtain ⟨nA, nc, rfl⟩ := own_slice ho4
      have HB4 : Hid (Below wr.heap.size wr w4) := hb4
      have HN4 : Hid (BytesAt w4 nA q ∧ ∀ a, nA = some a → wr.heap.size ≤ a.block ∧ a.block < w4.heap.size) := ⟨BytesAt.of_own ho4 rfl, fun a ha => by subst ha; exact ho4.lt a.block rfl⟩
      have HRL4 := Lib.hid (HR.out.1.below HB4.out)
      have HAL : Hid (∀ y, A = some y → y.block < wr.heap.size) := fun y hy => by
        obtain ⟨L, _, _, h3, _⟩ := HR.out.1
        exact (h3 y hy).2
      have HSZ := Lib.hid HR.out.2.size
      clear ho4 hb4
      go_wp2_with
       (at_builtin
        refine wpList_rows_push rfl (.tmp 18) (.tmp 21) rfl A c _ HRL4.out (by rw [List.length_take]; omega) nA q nc HN4.out.1 (fun a ha => ⟨Nat.le_trans HSZ.out (HN4.out.2 a ha).1, (HN4.out.2 a ha).2, fun y hy e => by have := HAL.out y hy; have := (HN4.out.2 a ha).1; omega⟩) (fun j hj => Nat.le_trans (Nat.le_trans HSZ.out HB4.out.size) hj) k (by rw [List.length_take]; omega) rfl rfl ?_
        intro A5 c5 w5 hr5 ho5 ha5
        have hlk : (recs.take k ++ [q]).length = k + 1 := by rw [← HTK.out, List.length_take]; omega
        rw [hlk]
        rw [← HTK.out] at hr5
        have HR5 := Lib.hid hr5; have HO5 := Lib.hid ho5.1
        clear hr5 ho5 ha5 hlk)
      go_roundw
      case measure => simp [intOf]; omega
      refine ⟨k + 1, A5, c5, by omega, by go_num, rfl, HR5.out, ?_⟩
      have hOff : Off (fun k => w.heap.size ≤ k) w w5 := (Off.of_below (O := fun k => w.heap.size ≤ k) (HR.out.2.trans (HB4.out.mono HR.out.2.size))).trans HO5.out (fun x ⟨y, hy, e⟩ => .inr (by
        obtain ⟨L, _, _, h3, _⟩ := HR.out.1
        have := (h3 y hy).1
        omega))
      exact ⟨hOff.os, hOff.tape, hOff.output, hOff.size, fun j hj => hOff.block j hj (by omega)⟩
    · obtain rfl : k = recs.length := by omega
      go_wp2
      go_ret
      have h := HR.out.1
      rw [List.take_length] at h
      exact ⟨⟨_, _, rfl, h⟩, HR.out.2⟩
end Go.Proofs.Ytahfkcfbmklfpaa
