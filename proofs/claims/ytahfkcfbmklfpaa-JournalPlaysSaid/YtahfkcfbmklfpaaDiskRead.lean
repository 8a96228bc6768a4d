/- The landed disk: the contract of Read. No condition. -/
import Derived.Test.YtahfkcfbmklfpaaDiskAct
import Derived.Deep.WholeRow
namespace Go.Proofs.Ytahfkcfbmklfpaa
open Go.RowKit Go.Deep

theorem fold_look : ∀ (cache : List (Nat × List Nat)) (safe : List (Option (List Nat))) (q : Nat), q < safe.length → (fold cache safe)[q]? = some (over q cache (safe[q]?.getD none)) := by
  intro cache
  induction cache with
  | nil => intro safe q hq; show safe[q]? = _; rw [over, List.foldl_nil, List.getElem?_eq_getElem hq]; rfl
  | cons p l ih =>
    intro safe q hq
    show (fold l (safe.set p.1 (some p.2)))[q]? = some (over q l (if p.1 = q then some p.2 else safe[q]?.getD none))
    rw [ih _ q (by rw [List.length_set]; exact hq), List.getElem?_set]
    by_cases h : p.1 = q
    · rw [if_pos h, if_pos h, if_pos (by omega)]; rfl
    · rw [if_neg h, if_neg h]
theorem nowL_at (D : DiskD) {q : Nat} (hq : q < D.safe.length) : (nowL D)[q]? = some (secB (D.look q)) := by
  rw [nowL, List.getElem?_map, fold_look _ _ _ hq]
  rfl
theorem sector_info : (Try.prog.info? 76).map (fun i => (i.zero, i.size)) = some (some (.agg (Array.replicate 64 (.int .u8 0))), 64) := by kernel_rfl
theorem zero_sector : ∃ Z : Value, Z.cells.size = 64 ∧ ∀ w, (zeroValue 76).run Try.prog w = .ok Z w := ⟨_, by simp [Value.cells], (zero_of_info sector_info).1⟩
theorem size_sector : (Try.prog.info? 76).map (·.size) = some 64 := (zero_of_info sector_info).2
theorem wpList_alloc_z {P : Program} {ops : Array Oper} {rest : List Oper} {o : Oper} {a : Act} {w : World} {Q : Exit → Act → World → Prop} (hgd : o.guard = none) (t : TypeId) (ho : o.op = .alloc t) (z : Value) (hz : ∀ w, (zeroValue t).run P w = .ok z w)
    (h : wpList P ops Q rest (a.put o.dst (.pointer (some ⟨w.heap.size, 0, none⟩))) (w.alloc (.cells z.cells t))) : wpList P ops Q (o :: rest) a w := by
  refine wpList_plain hgd fun K hK => ?_
  unfold Oper.wp execOp
  simp only [ho, Sem.run_bind, Instr.alloc, hz, newVar, newRow, run_newObj_alloc, Sem.run_pure, Result.andThen_ok]
  exact hK _ _ h
theorem u8s_all (l : List Nat) : ((u8s l).toArray).all (·.oneCell') = true := all_oneCell_toArray (u8s_one l)

set_option maxHeartbeats 1000000 in
set_option maxRecDepth 100000 in
theorem landRead_any (O : Nat → Prop) (g : Nat) (D : DiskD) (at_ : Int) (w : World) (h : LandAt O g D w) :
    Calls Try.prog 56 #[.pointer (some ⟨g, 0, none⟩), .int .i64 at_] w (ReadEnd D at_ w) := by
  have GH := Lib.hid (landHas_any O g D at_ w h)
  by_cases hin : 0 ≤ at_ ∧ at_ < (D.safe.length : Int)
  · obtain ⟨q, rfl⟩ : ∃ q : Nat, at_ = (q : Int) := ⟨at_.toNat, by omega⟩
    have hq : q < D.safe.length := by omega
    obtain ⟨_, _, bs, sc, bn, nc, cA, cc, cut, l, _, _, _, _, _, _, _, h1, _, hn, _, _⟩ := h
    have c1 : w.cell? ⟨g, 1, none⟩ = some (.slice (some ⟨bn, 0, none⟩) D.safe.length nc) := (h1.cell (i := 1) (by omega)).trans rfl
    obtain ⟨h64, hra⟩ := hn.2.1 q _ (nowL_at D hq)
    clear h1 hn
    obtain ⟨X, HX⟩ : ∃ X, Hid (secB (D.look q) = X) := ⟨_, rfl⟩
    rw [HX.out] at h64 hra
    have HL := Lib.hid h64; have HRA := Lib.hid hra
    clear h64 hra
    obtain ⟨Z, hZs, hZ⟩ := zero_sector
    have HZ := Lib.hid hZ; have HZS := Lib.hid hZs; clear hZ hZs
    rw [decide_eq_true hin] at GH
    go_enter Try.func56, Try.ntmps56
    go_wp2_with fail
    refine GH.out.mono ?_
    rintro e w' ⟨rfl, rfl⟩
    go_wp2_with (first
      | (refine wpList_load_mid rfl 76 (.tmp 16) rfl bn (q * 64) rfl (u8s X) (.array 64 5) HRA.out Try.underlying76 rfl (by rw [size_sector, u8s_length, HL.out]) ?_)
      | (refine wpList_alloc_z rfl 76 rfl Z HZ.out ?_)
      | (refine wpList_store_row rfl 76 (.tmp 6) (.tmp 17) rfl w.heap.size (u8s X).toArray rfl rfl 76 Z.cells (heap_alloc_new w _) (by rw [size_sector, List.size_toArray, u8s_length, HL.out]) (by rw [HZS.out, List.size_toArray, u8s_length, HL.out]) (u8s_all X) ?_
         rw [World.setRow_alloc_new]))
    go_ret2
    refine .inr ⟨q, some ⟨w.heap.size, 0, none⟩, 64, rfl, hq, ?_, ?_, (Below.refl _ _).alloc (Nat.le_refl _) _⟩
    · rw [HX.out, HL.out]; rfl
    · rw [HX.out]
      refine BytesAt.lit (fun j x hj => ?_) rfl
      rw [List.getElem?_toArray, u8s, List.getElem?_map, hj]
      rfl
  · rw [decide_eq_false hin] at GH
    clear h
    go_enter Try.func56, Try.ntmps56
    go_wp2_with fail
    refine GH.out.mono ?_
    rintro e w' ⟨rfl, rfl⟩
    go_wp2
    go_ret2
    exact .inl ⟨by omega, rfl, rfl⟩

/-! slices.Clone of sectors; the disk on which they are safe. -/
theorem sector_info3 : (Try.prog.info? 76).map (fun i => (i.zero, i.size, i.bytes)) = some (some (.agg (Array.replicate 64 (.int .u8 0))), 64, 64) := by kernel_rfl
theorem SecRow.cells {w : World} {b : Nat} {s : List (List Nat)} (h : SecRow w b s) : CellsAt w (some ⟨b, 0, none⟩) (s.flatMap u8s) := by
  have hg : ∀ x ∈ s, (u8s x).length = 64 := fun x hx => by
    obtain ⟨i, hi⟩ := List.getElem?_of_mem hx
    rw [u8s_length]; exact (h.2.1 i x hi).1
  refine .inr ⟨b, 0, rfl, h.1, fun j v hj => ?_⟩
  have hl : j < s.length * 64 := by rw [← flatm_length u8s 64 s hg]; exact (List.getElem?_eq_some_iff.1 hj).1
  have hi : j / 64 < s.length := by omega
  have e : j = j / 64 * 64 + j % 64 := by omega
  rw [e, flatm_get u8s 64 s hg _ hi _ (Nat.mod_lt _ (by omega))] at hj
  rw [e, Nat.zero_add]
  exact (h.2.1 _ _ (List.getElem?_eq_getElem hi)).2 _ v hj
theorem flat_one (s : List (List Nat)) : ∀ u ∈ s.flatMap u8s, u.oneCell' = true := fun u hu => by
  obtain ⟨x, _, hu⟩ := List.mem_flatMap.1 hu
  exact u8s_one x u hu
theorem SecRow.len {w : World} {b : Nat} {s : List (List Nat)} (h : SecRow w b s) : ∀ x ∈ s, x.length = 64 := fun x hx => by
  obtain ⟨i, hi⟩ := List.getElem?_of_mem hx
  exact (h.2.1 i x hi).1
theorem eql_sectors_nil (A : Option Addr) (n c : Nat) (w : World) : (binOp .eql 54 (.slice A n c) (.slice none 0 0)).run Try.prog w = .ok (.bool A.isNone) w := by
  simp only [binOp]
  simp [run_equal_slice_nil w 54 76 A n c Try.underlying54]
/-- A copy of a row of sectors, in new memory. -/
def NewRow (s : List (List Nat)) (w : World) (e : Ending) (w' : World) : Prop :=
  ∃ b c, e = .returned (.slice (some ⟨b, 0, none⟩) s.length c) ∧ w.heap.size ≤ b ∧ SecRow w' b s ∧ Below w.heap.size w w'
set_option maxRecDepth 100000 in
theorem clone_any (b c : Nat) (s : List (List Nat)) (h0 : 0 < s.length) (h1 : s.length ≤ 65536) (w : World) (h : SecRow w b s) :
    Calls Try.prog 39 #[.slice (some ⟨b, 0, none⟩) s.length c] w (NewRow s w) := by
  have H := Lib.hid h; clear h
  obtain ⟨i0, hi0, hz0, hz1, hz2⟩ := info_parts sector_info3
  have hqn := fun (A : Option Addr) (n c : Nat) (w : World) => eql_sectors_nil A n c w
  have hfl := flatm_length u8s 64 s (fun x hx => by rw [u8s_length]; exact H.out.len x hx)
  have HFL := Lib.hid hfl; clear hfl
  go_enter Try.func39, Try.ntmps39
  go_wp2_with (at_builtin
               refine wpList_append_cells rfl (.tmp 5) (.tmp 6) 54 rfl w.heap.size 76 i0 (.agg (Array.replicate 64 (.int .u8 0))) 64 64 Try.underlying54 hi0 hz0 hz1 hz2 (by simp [Value.cells]) (by omega) (.slice (some ⟨w.heap.size, 0, none⟩) 0 0) 0 [] rfl (World.ownsRow_lit w #[] 0 (Nat.le_refl _) (by simp [maxLen]) rfl) (some ⟨b, 0, none⟩) s.length c (s.flatMap u8s) rfl HFL.out (H.out.cells.alloc _) (flat_one s) (by simp only [maxLen]; omega) (by omega) (by simp) ?_
               intro v1 w1 ho1 hg1
               rw [List.nil_append, Nat.zero_add] at ho1
               obtain ⟨A1, k1, rfl⟩ := own_slice ho1
               have HO1 := Lib.hid ho1
               have HU1 : Hid (Below w.heap.size w w1) := ((Below.refl _ _).alloc (Nat.le_refl _) _).grown hg1 (by simp) (fun k hk => by simp [Value.ownBlock] at hk; omega)
               clear ho1 hg1)
  go_ret
  obtain ⟨b1, c1, hv, hb, _⟩ := HO1.out.form h0
  injection hv with hv _ hc
  subst hv hc
  exact ⟨b1, k1, rfl, hb, SecRow.of_own HO1.out H.out.len rfl, HU1.out⟩
end Go.Proofs.Ytahfkcfbmklfpaa
