/- The contract of journal.unframe: of bytes that begin with a frame, and of bytes that begin with a nought, or are none. Condition: fewer than 2^40 bytes. -/
import Derived.Test.YtahfkcfbmklfpaaJFramed
import Derived.Test.YtahfkcfbmklfpaaJFrame
import Derived.Test.YtahfkcfbmklfpaaNumGet
import Derived.Test.YtahfkcfbmklfpaaHeld
import Derived.BigQuiet
namespace Go.Proofs.Ytahfkcfbmklfpaa
open Go.RowKit Go.Deep

/-- s[i:j]. -/
theorem slice_mid (b off n c i j : Nat) (hi : i ≤ j) (hj : j ≤ c) (hic : i < c) (x y : Int) (hx : x = (i : Int)) (hy : y = (j : Int)) (w : World) : (Instr.slice 31 (.slice (some ⟨b, off, none⟩) n c) (some (.int .i64 x)) (some (.int .i64 y)) none).run Try.prog w = .ok (.slice (some ⟨b, off + i, none⟩) (j - i) (c - i)) w := by
  subst hx hy
  rw [run_slice_lh (P := Try.prog) (w := w) 31 (some ⟨b, off, none⟩) n c (by rw [elem_bytes]; exact Try.underlying31) .i64 .i64 (i : Int) (j : Int) (by omega) (by omega) (by omega), elem_bytes, size_byte]
  simp [Result.andThen, sliced, Addr.add, show ¬c = i by omega]
theorem slice_front (b off n c j : Nat) (hj : j ≤ c) (hc : 0 < c) (y : Int) (hy : y = (j : Int)) (w : World) : (Instr.slice 31 (.slice (some ⟨b, off, none⟩) n c) none (some (.int .i64 y)) none).run Try.prog w = .ok (.slice (some ⟨b, off, none⟩) j c) w := by
  subst hy
  rw [slice_high _ n c j hj w, addrHigh, if_neg (by omega)]
  simp [Addr.add]
theorem slice_rest (b off n c i : Nat) (hi : i ≤ n) (hc : i < c) (x : Int) (hx : x = (i : Int)) (w : World) : (Instr.slice 31 (.slice (some ⟨b, off, none⟩) n c) (some (.int .i64 x)) none none).run Try.prog w = .ok (.slice (some ⟨b, off + i, none⟩) (n - i) (c - i)) w := by
  subst hx
  rw [slice_low _ n c i hi w, addrLow, if_neg (by omega)]
  simp [Addr.add]
theorem BytesAt.part {w : World} {b off : Nat} {l x y z : List Nat} (h : BytesAt w (some ⟨b, off, none⟩) l) (e : l = x ++ (y ++ z)) : BytesAt w (some ⟨b, off + x.length, none⟩) y := by
  have h1 := (h.drop x.length).take y.length
  rw [e, List.drop_left, List.take_left] at h1
  exact h1
theorem bor32 (a b i : Nat) (ha : a % 2 ^ i = 0) (hb : b < 2 ^ i) (hab : a + b < 4294967296) (x y : Int) (hx : x = (a : Int)) (hy : y = (b : Int)) : bits BinOp.or IntKind.u32 x y = ((a + b : Nat) : Int) := by
  subst hx hy
  have h1 : (BitVec.ofInt 32 (a : Int)).toNat = a := by rw [BitVec.ofInt_natCast, BitVec.toNat_ofNat]; omega
  have h2 : (BitVec.ofInt 32 (b : Int)).toNat = b := by rw [BitVec.ofInt_natCast, BitVec.toNat_ofNat]; omega
  show IntKind.u32.wrap ((BitVec.ofInt 32 (a : Int) ||| BitVec.ofInt 32 (b : Int)).toNat : Int) = _
  have e : a ||| b = a + b := by
    have h3 : a = (a / 2 ^ i) <<< i := by
      rw [Nat.shiftLeft_eq]
      have := Nat.div_add_mod a (2 ^ i)
      rw [ha, Nat.add_zero, Nat.mul_comm] at this
      exact this.symm
    rw [h3, ← Nat.shiftLeft_add_eq_or_of_lt hb]
  rw [BitVec.toNat_or, h1, h2, e]
  generalize a + b = z at hab
  unfold IntKind.wrap
  simp [IntKind.bits, IntKind.signed]
  omega

set_option maxHeartbeats 1000000 in
set_option maxRecDepth 100000 in
theorem unframe_no (b off c : Nat) (l : List Nat) (hl : l.length ≤ maxLen) (hb : ∀ x ∈ l, x < 256) (h0 : l = [] ∨ l[0]? = some 0) (w : World) (h : BytesAt w (some ⟨b, off, none⟩) l) :
    Calls Try.prog 45 #[.slice (some ⟨b, off, none⟩) l.length c] w fun e w' => e = .returned (.tuple #[.slice none 0 0, .int .i64 0]) ∧ w = w' := by
  have hcell : ∀ j c : Nat, l[j]? = some c → w.cell? ⟨b, off + j, none⟩ = some (.int .u8 (c : Int)) := by
    intro j c hj
    obtain ⟨hjl, e⟩ := List.getElem?_eq_some_iff.1 hj
    rw [← e]
    exact h.cell hjl
  have GG := Lib.hid (numGet_any b off c l hl hb w hcell)
  have GL := Lib.hid (framed_less (-1) rfl w)
  have hz : ng 0 0 l = (0, 0, 2) ∨ ng 0 0 l = (0, 1, 0) := by
    cases l with
    | nil => exact .inl rfl
    | cons x t =>
      rcases h0 with h0 | h0
      · cases h0
      · injection h0 with h0
        subst h0
        exact .inr (by rw [ng, if_neg (by omega), if_neg (by omega), if_pos (by omega)])
  clear hcell hb h h0
  rcases hz with hz | hz
  all_goals
    rw [hz] at GG
    go_enter Try.func45, Try.ntmps45
    go_wp2_with fail
    refine GG.out.mono ?_
    rintro e w' ⟨rfl, rfl⟩
    go_wp2_with fail
    refine GL.out.mono ?_
    rintro e w' ⟨rfl, rfl⟩
    go_wp2
    go_ret2
    exact ⟨rfl, rfl⟩

set_option maxHeartbeats 1000000 in
set_option maxRecDepth 100000 in
theorem unframe_yes (b off c : Nat) (p rest : List Nat) (hp : p.length ≤ 1000000) (hl : (frm p ++ rest).length ≤ c) (hc : c ≤ maxLen) (hb : ∀ x ∈ frm p ++ rest, x < 256) (w : World) (h : BytesAt w (some ⟨b, off, none⟩) (frm p ++ rest)) :
    Calls Try.prog 45 #[.slice (some ⟨b, off, none⟩) (frm p ++ rest).length c] w fun e w' => (∃ A' c', e = .returned (.tuple #[.slice A' p.length c', .int .i64 ((flen p.length : Nat) : Int)]) ∧ BytesAt w A' p ∧ (p ≠ [] → ∃ off', A' = some ⟨b, off', none⟩) ∧ p.length ≤ c') ∧ Below w.heap.size w w' := by
  have hcell : ∀ j c : Nat, (frm p ++ rest)[j]? = some c → w.cell? ⟨b, off + j, none⟩ = some (.int .u8 (c : Int)) := by
    intro j c hj
    obtain ⟨hjl, e⟩ := List.getElem?_eq_some_iff.1 hj
    rw [← e]
    exact h.cell hjl
  have GG := Lib.hid (numGet_any b off c _ (by omega) hb w hcell)
  have e0 : frm p ++ rest = nput (p.length + 1) ++ (p ++ (sum4 (sm (hed p)) ++ rest)) := by rw [frm, hed, List.append_assoc, List.append_assoc]
  have eg : ng 0 0 (frm p ++ rest) = (p.length + 1, nsz (p.length + 1), 0) := by rw [e0, ng_nput _ (by omega)]
  rw [eg] at GG
  have GF := Lib.hid (fun w => framed_any p.length (by omega) ((p.length + 1 : Nat) - 1 : Int) (by omega) w)
  have hsum : ∀ x ∈ sum4 (sm (hed p)), x < 256 := sum4_bytes _
  have HS := Lib.hid (sm_lt (hed p))
  have HHB : Hid (∀ x ∈ hed p, x < 256) := fun x hx => hb x (List.mem_append_left _ (List.mem_append_left _ hx))
  have HAT : Hid (BytesAt w (some ⟨b, off, none⟩) (hed p)) := by
    have := h.part (x := []) (y := hed p) (z := sum4 (sm (hed p)) ++ rest) (by rw [frm, List.append_assoc]; rfl)
    rwa [List.length_nil, Nat.add_zero] at this
  have HSU : Hid (BytesAt w (some ⟨b, off + (hed p).length, none⟩) (sum4 (sm (hed p)))) := h.part (x := hed p) (y := sum4 (sm (hed p))) (z := rest) (by rw [frm, List.append_assoc])
  have HPA : Hid (BytesAt w (some ⟨b, off + nsz (p.length + 1), none⟩) p) := by
    have := h.part (x := nput (p.length + 1)) (y := p) (z := sum4 (sm (hed p)) ++ rest) e0
    rwa [nput_length] at this
  have hn6 := nsz_le (p.length + 1)
  have hn0 := nsz_pos (p.length + 1)
  have hhl := hed_length p
  have hfl : flen p.length = (hed p).length + 4 := by rw [hhl]; rfl
  have hl2 := hl
  rw [List.length_append, frm_length] at hl2
  obtain ⟨X, HX⟩ : ∃ X, Hid ((hed p).length = X) := ⟨_, rfl⟩
  obtain ⟨x, HXX⟩ : ∃ x, Hid (flen p.length = x) := ⟨_, rfl⟩
  obtain ⟨m, HM⟩ : ∃ m, Hid (nsz (p.length + 1) = m) := ⟨_, rfl⟩
  obtain ⟨n, HN⟩ : ∃ n, Hid ((frm p ++ rest).length = n) := ⟨_, rfl⟩
  rw [HX.out] at hhl hfl HSU
  rw [HXX.out] at hfl hl2 GF
  rw [HM.out] at hn6 hn0 hhl GG HPA
  rw [HN.out] at hl GG
  rw [HN.out, HXX.out]
  have hxn : x ≤ n := by have := HN.out; rw [List.length_append, frm_length, HXX.out] at this; omega
  have hcm : c ≤ 9223372036854775807 := hc
  have s1 := slice_front b off n c X (by omega) (by omega) ((x : Int) - 4) (by omega)
  have s2 := slice_mid b off n c X x (by omega) (by omega) (by omega) ((x : Int) - 4) (x : Int) (by omega) rfl
  have s3 := slice_rest b off X c m (by omega) (by omega) (m : Int) rfl
  rw [show x - X = 4 by omega] at s2
  rw [show X - m = p.length by omega] at s3
  have ecount : (((p.length + 1 : Nat) : Int) == 0) = false := beq_eq_false_iff_ne.2 (by omega)
  clear hcell e0 eg h hb
  obtain ⟨C, HC⟩ : ∃ C, Hid (p.length + 1 = C) := ⟨_, rfl⟩
  have hC1 : 1 ≤ C ∧ C ≤ 1000001 := by have := HC.out; omega
  rw [HC.out] at GG GF ecount
  have hx4 : 4 ≤ x ∧ x ≤ 2000000 := by omega
  have HXB : Hid (X + 4 = x ∧ m + p.length = X ∧ x ≤ c ∧ c ≤ 9223372036854775807) := by show _ ∧ _; omega
  have S1 := Lib.hid s1; have S2 := Lib.hid s2; have S3 := Lib.hid s3
  clear s1 s2 s3 hfl hl2 hhl hn6 hn0 hsum hp hl
  go_enter Try.func45, Try.ntmps45
  go_wp2_with fail
  refine GG.out.mono ?_
  rintro e w' ⟨rfl, rfl⟩
  go_wp2_with fail
  refine (GF.out _).mono ?_
  rintro e w' ⟨rfl, rfl⟩
  go_wp2_with fail
  have s1 := S1.out; have s2 := S2.out
  refine wp_region_held_lit (keepBlocks []) [(0, true), (1, true), (2, true), (3, true), (4, true), (5, true), (6, true), (7, true), (8, true), (9, true), (10, true)] (by kernel_rfl) (by kernel_rfl) (fun _ _ d _ _ h => by cases d <;> exact h) ?_
  simp only [picked, List.map_cons, List.map_nil, List.getElem?_cons_succ, List.getElem?_cons_zero, Option.getD_some]
  repeat (refine wpH_quiet (by rfl) (fun K hK => ?_); go_big_quiet_op; refine hK _ ?_; clear hK K)
  clear s1 s2
  refine wpH_nil ?_
  have hbl : b < w.heap.size := by
    obtain ⟨b', off', e, hlt⟩ := HSU.out.form (by show 0 < 4; omega)
    injection e with e
    injection e with e
    subst e
    exact hlt
  have HBL := Lib.hid hbl; clear hbl
  have HC4 : Hid (∀ e : ExtK (keepBlocks [b]) w.drew.drew, ∀ j y : Nat, (sum4 (sm (hed p)))[j]? = some y → e.val.cell? ⟨b, off + X + j, none⟩ = some (.int .u8 (y : Int))) := fun e j y hy => by
    obtain ⟨hjl, ey⟩ := List.getElem?_eq_some_iff.1 hy
    rw [← ey]
    exact (cell_of_block (e.property.2 b (by simp)) _).trans (HSU.out.cell hjl)
  obtain ⟨y0, H0⟩ : ∃ y0, Hid (sm (hed p) / 16777216 % 256 = y0) := ⟨_, rfl⟩
  obtain ⟨y1, H1⟩ : ∃ y1, Hid (sm (hed p) / 65536 % 256 = y1) := ⟨_, rfl⟩
  obtain ⟨y2, H2⟩ : ∃ y2, Hid (sm (hed p) / 256 % 256 = y2) := ⟨_, rfl⟩
  obtain ⟨y3, H3⟩ : ∃ y3, Hid (sm (hed p) % 256 = y3) := ⟨_, rfl⟩
  have e0 : ∀ e : ExtK (keepBlocks [b]) w.drew.drew, e.val.cell? ⟨b, off + X, none⟩ = some (.int .u8 (y0 : Int)) := fun e => HC4.out e 0 y0 (by rw [← H0.out]; rfl)
  have e1 : ∀ e : ExtK (keepBlocks [b]) w.drew.drew, e.val.cell? ⟨b, off + X + 1, none⟩ = some (.int .u8 (y1 : Int)) := fun e => HC4.out e 1 y1 (by rw [← H1.out]; rfl)
  have e2 : ∀ e : ExtK (keepBlocks [b]) w.drew.drew, e.val.cell? ⟨b, off + X + 2, none⟩ = some (.int .u8 (y2 : Int)) := fun e => HC4.out e 2 y2 (by rw [← H2.out]; rfl)
  have e3 : ∀ e : ExtK (keepBlocks [b]) w.drew.drew, e.val.cell? ⟨b, off + X + 3, none⟩ = some (.int .u8 (y3 : Int)) := fun e => HC4.out e 3 y3 (by rw [← H3.out]; rfl)
  have h0 : y0 < 256 := by rw [← H0.out]; omega
  have h1 : y1 < 256 := by rw [← H1.out]; omega
  have h2 : y2 < 256 := by rw [← H2.out]; omega
  have h3 : y3 < 256 := by rw [← H3.out]; omega
  have HSM : Hid (y0 * 16777216 + y1 * 65536 + y2 * 256 + y3 = sm (hed p)) := by
    show y0 * 16777216 + y1 * 65536 + y2 * 256 + y3 = sm (hed p)
    rw [← H0.out, ← H1.out, ← H2.out, ← H3.out]
    exact sum4_back HS.out
  have o1 := bor32 (y0 * 16777216) (y1 * 65536) 24 (by omega) (by omega) (by omega) ((y0 : Int) * 16777216) ((y1 : Int) * 65536) (by omega) (by omega)
  obtain ⟨z1, HZ1⟩ : ∃ z1, Hid (y0 * 16777216 + y1 * 65536 = z1) := ⟨_, rfl⟩
  rw [HZ1.out] at o1 HSM
  have o2 := bor32 z1 (y2 * 256) 16 (by rw [← HZ1.out]; omega) (by omega) (by rw [← HZ1.out]; omega) (z1 : Int) ((y2 : Int) * 256) rfl (by omega)
  obtain ⟨z2, HZ2⟩ : ∃ z2, Hid (z1 + y2 * 256 = z2) := ⟨_, rfl⟩
  rw [HZ2.out] at o2 HSM
  have o3 := bor32 z2 y3 8 (by rw [← HZ2.out, ← HZ1.out]; omega) (by omega) (by rw [← HZ2.out, ← HZ1.out]; omega) (z2 : Int) (y3 : Int) rfl rfl
  rw [HSM.out] at o3
  obtain ⟨SS, HSS⟩ : ∃ SS, Hid (sm (hed p) = SS) := ⟨_, Lib.hid rfl⟩
  rw [HSS.out] at o3
  have GM := Lib.hid (crcSame_at (A := some ⟨b, off, none⟩) (l := hed p) SS c (by rw [HX.out]; show X ≤ 9223372036854775807; have := HXB.out; omega) HHB.out w.drew.drew HAT.out)
  rw [HX.out, HSS.out, decide_eq_true rfl] at GM
  go_wp2_with fail
  refine wp_region_held_lit (keepBlocks [b]) [(0, true), (1, true), (2, true), (3, true), (4, true), (5, true), (6, true), (7, true), (8, true), (9, true), (10, true), (11, true), (12, true), (13, true), (14, true), (15, true), (16, true), (17, true), (18, true), (19, true), (20, true), (21, true), (22, true), (23, false), (24, true)] (by kernel_rfl) (by kernel_rfl) (fun _ _ d _ _ h => by cases d <;> exact h) ?_
  simp only [picked, List.map_cons, List.map_nil, List.getElem?_cons_succ, List.getElem?_cons_zero, Option.getD_some]
  repeat (refine wpH_quiet (by rfl) (fun K hK => ?_); go_big_quiet_op; refine hK _ ?_; clear hK K)
  clear e0 e1 e2 e3 o1 o2 o3
  refine wpH_one (by rfl) (fun K hK => ?_)
  go_simp
  refine GM.out.mono ?_
  rintro e w3 ⟨rfl, hb3⟩
  have HB3 : Hid (Below w.heap.size w w3) := ((Below.refl w.heap.size w).drew.drew).trans hb3
  refine hK _ _ (keep_one hb3.size (hb3.block b HBL.out)) ?_
  clear hK K hb3
  repeat (refine wpH_quiet (by rfl) (fun K hK => ?_); go_big_quiet_op; refine hK _ ?_; clear hK K)
  refine wpH_nil ?_
  have s3 := S3.out
  go_wp2
  go_ret2
  exact ⟨⟨_, _, rfl, HPA.out, fun _ => ⟨_, rfl⟩, by have := HXB.out; omega⟩, HB3.out⟩
end Go.Proofs.Ytahfkcfbmklfpaa
