/- The statements' own 'awake' answers true. No condition. (Merged of 5 texts.) -/
import Derived.Test.YtahfkcfbmklfpaaHJOpen
import Derived.Test.YtahfkcfbmklfpaaBlocks
import Derived.Lib.SlBytesConst
/- The contract of Append: one more record behind the others, or no room, and nothing changed. Condition: fewer than 2^38 acts and turns. -/
namespace Go.Proofs.Ytahfkcfbmklfpaa
open Go.RowKit Go.Deep

/-- A record more in a half. -/
theorem Halves.append {n : Nat} {B : List Nat} {o : Nat → Option RollV} (h : Halves n B o) (hB : B.length = 64 * n) {i : Nat} (hi : i < 2) {r : RollV} (hr : o i = some r) {b : List Nat} (hb : b.length ≤ 60000 ∧ ∀ x ∈ b, x < 256) (hl : r.bytes.length + flen b.length ≤ 64 * (n / 2)) :
    Halves n (patch B (64 * (i * (n / 2)) + r.bytes.length) (frm b)) (fun j => if j = i then some ⟨r.turn, r.base, r.recs ++ [b]⟩ else o j) := by
  obtain ⟨h8, h2⟩ := h
  obtain ⟨s, hs⟩ : ∃ s, n / 2 = s := ⟨_, rfl⟩
  rw [hs] at h2 hl ⊢
  have hsn : 2 * s ≤ n := by omega
  have hfl := frm_length b
  have hin : i * s + s ≤ n := by rcases (show i = 0 ∨ i = 1 by omega) with rfl | rfl <;> omega
  refine ⟨h8, fun j hj => ?_⟩
  show seg _ (j * (n / 2)) (n / 2) = halfB (64 * (n / 2)) (if j = i then some ⟨r.turn, r.base, r.recs ++ [b]⟩ else o j) ∧ FitsIn (64 * (n / 2)) (if j = i then some ⟨r.turn, r.base, r.recs ++ [b]⟩ else o j)
  rw [hs]
  by_cases e : j = i
  · subst e
    rw [if_pos rfl]
    obtain ⟨h3, h4⟩ := h2 j hi
    rw [hr] at h3 h4
    have hlen : (⟨r.turn, r.base, r.recs ++ [b]⟩ : RollV).bytes = r.bytes ++ frm b := bytes_snoc r.turn r.base r.recs b
    refine ⟨?_, ⟨h4.1.turn, h4.1.base, fun x hx => (List.mem_append.1 hx).elim (h4.1.recs x) (fun h => by rw [List.mem_singleton.1 h]; exact hb)⟩, by rw [hlen, List.length_append, hfl]; exact hl⟩
    rw [seg_in (by omega) (by omega), h3]
    show patch (padN (64 * s) r.bytes) r.bytes.length (frm b) = padN (64 * s) _
    rw [hlen, padN, patch, List.take_left, List.drop_append, List.drop_eq_nil_of_le (by omega), List.nil_append, List.drop_replicate, padN, List.length_append]
    congr 2
    omega
  · rw [if_neg e, seg_out (by omega) ?_]
    · exact h2 j hj
    · rcases (show i = 0 ∨ i = 1 by omega) with rfl | rfl <;> rcases (show j = 0 ∨ j = 1 by omega) with rfl | rfl <;> omega
/-- A disk that holds a roll, or none, all of it in blocks J. -/
def Disk1 (J : Nat → Prop) (g n k : Nat) (x : Option RollV) (w : World) : Prop :=
  ∃ (O : Nat → Prop) (B : List Nat) (o : Nat → Option RollV), (∀ b, O b → J b) ∧ JDisk O g n B 0 k w ∧ Halves n B o ∧ match x with
    | none => o 0 = none ∧ o 1 = none
    | some r => ∃ inn, inn < 2 ∧ o inn = some r ∧ turnOf (o (1 - inn)) < r.turn ∧ r.turn ≤ k + 1
/-- A journal that holds a roll, and its disk, all of both in blocks J. -/
def Jo (J : Nat → Prop) (gj g n k : Nat) (r : RollV) (w : World) : Prop :=
  ∃ (O Q : Nat → Prop) (B : List Nat) (o : Nat → Option RollV) (inn : Nat), (∀ x, O x → J x ∧ ¬Q x) ∧ (∀ x, Q x → J x) ∧ JDisk O g n B 0 k w ∧ JMem Q gj g inn r.turn r.base r.recs r.bytes.length w ∧ Halves n B o ∧ inn < 2 ∧ o inn = some r ∧ turnOf (o (1 - inn)) < r.turn ∧ r.turn ≤ k + 1
theorem Jo.disk {J : Nat → Prop} {gj g n k : Nat} {r : RollV} {w : World} (h : Jo J gj g n k r w) : Disk1 J g n k (some r) w := by
  obtain ⟨O, Q, B, o, inn, h1, h2, h3, h4, h5, h6, h7, h8, h9⟩ := h
  exact ⟨O, B, o, fun b hb => (h1 b hb).1, h3, h5, inn, h6, h7, h8, h9⟩
theorem Jo.kept {J : Nat → Prop} {gj g n k : Nat} {r : RollV} {w w' : World} (h : Jo J gj g n k r w) (hs : w.heap.size ≤ w'.heap.size) (hk : ∀ b, J b → b < w.heap.size → w'.heap[b]? = w.heap[b]?) : Jo J gj g n k r w' := by
  obtain ⟨O, Q, B, o, inn, h1, h2, h3, h4, h5⟩ := h
  exact ⟨O, Q, B, o, inn, h1, h2, h3.kept hs fun b hb => hk b (h1 b hb).1 (h3.lt.2 b hb), h4.kept hs fun b hb => hk b (h2 b hb) (h4.2.1 b hb), h5⟩
theorem Jo.below {J : Nat → Prop} {gj g n k : Nat} {r : RollV} {w w' : World} (h : Jo J gj g n k r w) (hb : Below w.heap.size w w') : Jo J gj g n k r w' := h.kept hb.size fun b _ hlt => hb.block b hlt
theorem Jo.good {J : Nat → Prop} {gj g n k : Nat} {r : RollV} {w : World} (h : Jo J gj g n k r w) : r.Good ∧ r.bytes.length ≤ 64 * (n / 2) ∧ 8 ≤ n ∧ n ≤ 65536 ∧ r.recs.length ≤ 4194304 ∧ gj < w.heap.size := by
  obtain ⟨O, Q, B, o, inn, h1, h2, h3, h4, h5, h6, h7, h8⟩ := h
  have := (h5.2 inn h6).2
  rw [h7] at this
  have h9 := enK_ge r (Nat.le_refl r.recs.length)
  rw [enK_all] at h9
  have h10 := h3.size.2.2
  have h11 := this.2
  exact ⟨this.1, h11, h5.1, h10, by omega, h4.2.1 _ h4.1⟩
theorem Disk1.kept {J : Nat → Prop} {g n k : Nat} {x : Option RollV} {w w' : World} (h : Disk1 J g n k x w) (hs : w.heap.size ≤ w'.heap.size) (hk : ∀ b, J b → b < w.heap.size → w'.heap[b]? = w.heap[b]?) : Disk1 J g n k x w' := by
  obtain ⟨O, B, o, h1, h3, h5⟩ := h
  exact ⟨O, B, o, h1, h3.kept hs fun b hb => hk b (h1 b hb) (h3.lt.2 b hb), h5⟩
def joS0 : Sched Nat := .one 9 (.quiet 10 (.quiet 11 (.quiet 12 (.one 13 .done))))
def joS1 : Sched Nat := .one 8 joS0
def joS : Sched Nat := .quiet 0 (.quiet 1 (.quiet 2 (.quiet 3 (.quiet 4 (.quiet 6 (.two 5 (.one 7 joS1) 7 (.two 5 joS1 8 (.one 5 joS0))))))))

set_option maxHeartbeats 4000000 in
set_option maxRecDepth 100000 in
theorem append_any {J : Nat → Prop} {gj g n k : Nat} {r : RollV} {w : World} (h : Jo J gj g n k r w) (hk : k ≤ 274877906944) (A : Option Addr) (b : List Nat) (c : Nat) (hb : b.length ≤ 60000) (hbb : ∀ x ∈ b, x < 256) (hat : BytesAt w A b) (hA : ∀ a, A = some a → ¬J a.block) :
    Calls Try.prog 17 #[.pointer (some ⟨gj, 0, none⟩), .slice A b.length c] w fun e w' =>
      (64 * (n / 2) < r.bytes.length + flen b.length ∧ e = .returned (.int .i64 4) ∧ Below w.heap.size w w') ∨
      (r.bytes.length + flen b.length ≤ 64 * (n / 2) ∧ e = .returned (.int .i64 0) ∧ ∃ J' : Nat → Prop, (∀ x, J' x → J x ∨ w.heap.size ≤ x) ∧ Jo J' gj g n (k + 100000) ⟨r.turn, r.base, r.recs ++ [b]⟩ w' ∧ Off J w w') := by
  have hgd := h.good
  obtain ⟨O, Q, B, o, inn, hO, hQ, hd, hm, hH, hi, hoi, htl, htk⟩ := h
  obtain ⟨hB, _, hn2⟩ := hd.size
  have HGD := Lib.hid hgd; clear hgd
  have HD := Lib.hid hd; have HM := Lib.hid hm; have HH := Lib.hid hH; have HOI := Lib.hid hoi; have HTL := Lib.hid htl; have HTK := Lib.hid htk; have HOJ := Lib.hid hO; have HQJ := Lib.hid hQ; have HAT := Lib.hid hat; have HAJ := Lib.hid hA; have HBB := Lib.hid hbb
  have GD := Lib.hid (dead_any hm)
  have GRM := Lib.hid (room_any hd hm hi HGD.out.2.1)
  have GF := Lib.hid (fun w (h : BytesAt w A b) => frame_any A b c (by omega) hbb w h)
  have GH := Lib.hid (fun w (hd : JDisk O g n B 0 k w) (hm : JMem Q gj g inn r.turn r.base r.recs r.bytes.length w) => half_any hd hm inn hi (inn : Int) rfl)
  have HFL := Lib.hid (frm_length b)
  have HFB : Hid (∀ x ∈ frm b, x < 256) := frm_bytes hbb
  have hfb := flen_bounds b.length
  obtain ⟨q, HQ⟩ : ∃ q, Hid (inn * (n / 2) = q) := ⟨_, rfl⟩
  obtain ⟨s, HS⟩ : ∃ s, Hid (n / 2 = s) := ⟨_, rfl⟩
  have hqs : q + s ≤ n := by
    have h1 := HQ.out
    have h2 := HS.out
    rcases (show inn = 0 ∨ inn = 1 by omega) with rfl | rfl <;> omega
  rw [HQ.out, HS.out] at GH
  rw [HS.out] at GRM ⊢
  obtain ⟨fl, HFLN⟩ : ∃ fl, Hid (flen b.length = fl) := ⟨_, rfl⟩
  rw [HFLN.out] at hfb HFL ⊢
  obtain ⟨E, HE⟩ : ∃ E, Hid (r.bytes.length = E) := ⟨_, rfl⟩
  rw [HE.out] at GRM GH HM ⊢
  obtain ⟨T, HT⟩ : ∃ T, Hid (r.turn = T) := ⟨_, rfl⟩
  obtain ⟨recs, HRE⟩ : ∃ recs, Hid (r.recs = recs) := ⟨_, Lib.hid rfl⟩
  obtain ⟨bs, HBS⟩ : ∃ bs, Hid (r.base = bs) := ⟨_, Lib.hid rfl⟩
  rw [HT.out, HRE.out, HBS.out] at GH HM
  have HKK : Hid (k + fl ≤ 1099511627776 ∧ fl ≤ 1000000 ∧ k + fl + 1 ≤ k + 100000) := by show _ ∧ _; omega
  clear hd hm hH hoi htl htk hO hQ hat hA hbb hk
  go_enter Try.func17, Try.ntmps17
  go_wp2_with fail
  refine GD.out.mono ?_
  rintro e w' ⟨rfl, rfl⟩
  go_wp2_with fail
  refine GRM.out.mono ?_
  rintro e w1 ⟨⟨R, rfl, hR1, hR2, hR3⟩, hb1⟩
  have HR3 := Lib.hid (hR3 b.length hb); have HB1 := Lib.hid hb1
  clear hR3 hb1
  rw [HFLN.out] at HR3
  by_cases hfit' : 64 * s < E + fl
  · have hgt : R < (b.length : Int) := by have := HR3.out; omega
    go_wp2
    go_ret
    exact .inl ⟨by omega, rfl, HB1.out⟩
  have hfit : E + fl ≤ 64 * s := by omega
  have hle : ¬R < (b.length : Int) := by have := HR3.out; omega
  go_wp2_with fail
  refine (GF.out _ (HAT.out.below HB1.out)).mono ?_
  rintro e w2 ⟨v2, rfl, ho2, hb2⟩
  obtain ⟨fA, fc, rfl⟩ := own_slice ho2
  have HB2 : Hid (Below w.heap.size w w2) := HB1.out.trans (hb2.mono HB1.out.size)
  have HFA : Hid (BytesOff O w2 fA (frm b)) := ⟨BytesAt.of_own ho2 rfl, fun x hx => by
    subst hx
    have h := ho2.lt x.block rfl
    have h2 := HB1.out.size
    exact ⟨fun ho => by have := HD.out.lt.2 _ ho; omega, h.2⟩⟩
  have hcl : (frm b).length ≤ fc ∧ fc ≤ maxLen := by
    rcases ho2.2 with ⟨e, h0⟩ | ⟨g', cap', cur, h', _, _, h1, h2, _⟩
    · injection e with _ _ e
      have := HFL.out
      omega
    · injection h' with _ _ h'
      subst h'
      exact ⟨h1, h2⟩
  have HFC := Lib.hid hcl
  clear ho2 hb2 hcl hle hR1 hR2
  rw [HFL.out]
  go_wp2_with fail
  have HD2 := Lib.hid ((HD.out.below HB2.out).below (Below.refl w2.heap.size w2).drew)
  have HM2 := Lib.hid ((HM.out.below HB2.out).below (Below.refl w2.heap.size w2).drew)
  have GH2 := Lib.hid (GH.out _ HD2.out HM2.out)
  obtain ⟨_, _, bA, bc, rA, rc, hr, hbat, hba, hrows⟩ := HM2.out
  have HRW := Lib.hid hr; have HBAT := Lib.hid hbat; have HBA := Lib.hid hba; have HROWS := Lib.hid hrows
  have e1 : ∀ e : ExtK (keepBlocks [gj]) w2.drew, e.val.cell? ⟨gj, 1, none⟩ = some (.int .i64 (inn : Int)) := fun e => (cell_of_block (e.property.2 gj (by simp)) _).trans (hr.cell (i := 1) (by omega))
  have e5 : ∀ e : ExtK (keepBlocks [gj]) w2.drew, e.val.cell? ⟨gj, 5, none⟩ = some (.int .i64 (E : Int)) := fun e => (cell_of_block (e.property.2 gj (by simp)) _).trans (hr.cell (i := 5) (by omega))
  have HGJ := Lib.hid hr.lt
  clear hr hbat hba hrows
  refine wp_region_held_lit (keepBlocks [gj]) [(0, true), (1, true), (2, true), (3, true), (4, true), (6, true), (7, true), (8, true), (9, true), (10, true), (11, true), (5, false), (12, false), (13, true)] (by kernel_rfl) (by kernel_rfl) (fun _ _ d _ _ h => by cases d <;> exact h) ?_
  simp only [picked, List.map_cons, List.map_nil, List.getElem?_cons_succ, List.getElem?_cons_zero, Option.getD_some]
  repeat (refine wpH_quiet (by rfl) (fun K hK => ?_); go_big_quiet_op; refine hK _ ?_; clear hK K)
  clear e1 e5
  refine wpH_one (by rfl) (fun K hK => ?_)
  go_simp
  refine GH2.out.mono ?_
  rintro e w3 ⟨rfl, hb3⟩
  have HB3 : Hid (Below w2.heap.size w2 w3) := (Below.refl w2.heap.size w2).drew.trans hb3
  refine hK _ _ (keep_one hb3.size (hb3.block _ HGJ.out)) ?_
  clear hK K hb3
  have GP := Lib.hid (hput_any (HD.out.below (HB2.out.trans (HB3.out.mono HB2.out.size))) q s E hqs fA (frm b) fc (by rw [HFL.out]; exact hfit) (by rw [HFL.out]; exact HKK.out.2.1) HFC.out.1 HFC.out.2 (by rw [HFL.out]; exact HKK.out.1) (HFA.out.below HB3.out))
  rw [HFL.out] at GP
  refine wpH_one (by rfl) (fun K hK => ?_)
  go_simp
  refine GP.out.mono ?_
  rintro e w4 ⟨rfl, O1, hO1, hd4, hof4⟩
  have HO1 := Lib.hid hO1; have HD4 := Lib.hid hd4; have HOF4 := Lib.hid hof4
  have HGJO : Hid (¬O gj) := fun h => (HOJ.out gj h).2 HM.out.1
  refine hK _ _ (keep_one hof4.size (hof4.block _ (Nat.lt_of_lt_of_le HGJ.out HB3.out.size) HGJO.out)) ?_
  clear hK K hO1 hd4 hof4
  repeat (refine wpH_quiet (by rfl) (fun K hK => ?_); go_big_quiet_op; refine hK _ ?_; clear hK K)
  refine wpH_nil ?_
  have HB03 : Hid (Below w.heap.size w w3) := HB2.out.trans (HB3.out.mono HB2.out.size)
  have HM4 : Hid (JMem Q gj g inn T bs recs E w4) := (HM.out.below HB03.out).off HOF4.out (fun x hx h => (HOJ.out x h).2 hx)
  have HATA : Hid (BytesAt w4 A b) := bytes_kept (HAT.out.below HB03.out) HOF4.out.size fun a ha hlt => HOF4.out.block _ hlt fun h => HAJ.out a ha (HOJ.out _ h).1
  clear HRW HBAT HBA HROWS HM2 HD2
  obtain ⟨hgjQ, hQlt, bA, bc, rA, rc, hr, hbat, hba, hrows⟩ := HM4.out
  have HRW5' := Lib.hid hr; have HBAT := Lib.hid hbat; have HBA := Lib.hid hba; have HROWS := Lib.hid hrows; have HGQ := Lib.hid hgjQ; have HQLT := Lib.hid hQlt
  obtain ⟨bn, HBN⟩ : ∃ bn, Hid (bs.length = bn) := ⟨_, rfl⟩
  obtain ⟨rn, HRNN⟩ : ∃ rn, Hid (recs.length = rn) := ⟨_, rfl⟩
  have HRW4 : Hid (w4.rowIs gj 59 7 (jCells g inn T bA bn bc rA rn rc E)) := by
    have := HRW5'.out
    rw [HBN.out, HRNN.out] at this
    exact this
  clear hr hbat hba hrows hgjQ hQlt HRW5'
  have HRNL : Hid (rn ≤ 4194304) := by show _ ≤ _; rw [← HRNN.out, ← HRE.out]; exact HGD.out.2.2.2.2.1
  go_upto_region 12 with fail
  go_cut [50] (fun _ w8 => ∃ A7 c7 w6 w7, Below w4.heap.size w4 w6 ∧ Off (fun k => ∃ y, rA = some y ∧ k = y.block) w6 w7 ∧ Only gj w7 w8 ∧ w8.rowIs gj 59 7 (jCells g inn T bA bn bc A7 (rn + 1) c7 E) ∧ RowsL (fun k => (Q k ∨ w4.heap.size ≤ k) ∧ k ≠ gj) w7 A7 c7 (recs ++ [b]) ∧ (∀ a, A7 = some a → (∃ y, rA = some y ∧ a.block = y.block) ∨ w6.heap.size ≤ a.block))
  case first =>
    have HB5 : Hid (Below w4.heap.size w4 w4.drew) := (Below.refl _ _).drew
    have GC2 := Lib.hid (bclone_any A b c (by omega) w4.drew (HATA.out.below HB5.out))
    have HRL5 : Hid (RowsL (fun k => (Q k ∨ w4.heap.size ≤ k) ∧ k ≠ gj) w4 rA rc recs) := HROWS.out.kept (Nat.le_refl _) (fun _ _ _ => rfl) fun k hk _ => ⟨.inl hk.1, hk.2⟩
    have HGA : Hid (∀ j, w4.heap.size ≤ j → j ≠ gj) := fun j hj => by have := HRW4.out.lt; omega
    have HRGG : Hid (∀ y, rA = some y → (Q y.block ∧ y.block ≠ gj) ∧ y.block < w4.heap.size) := fun y hy => by
      obtain ⟨L, _, _, h3, _⟩ := HROWS.out
      exact h3 y hy
    have HRG : Hid (∀ y, rA = some y → gj = y.block → False) := fun y hy e => (HRGG.out y hy).1.2 e.symm
    have HRA : Hid (∀ y, rA = some y → ∀ j, w4.heap.size ≤ j → j = y.block → False) := fun y hy j hj e => by have := (HRGG.out y hy).2; omega
    have HRN : Hid (rn = recs.length ∧ recs.length ≤ 1099511627776) := ⟨HRNN.out.symm, by rw [HRNN.out]; have := HRNL.out; omega⟩
    have d1 : w4.drew.cell? ⟨gj, 4, none⟩ = some (.slice rA rn rc) := HRW4.out.cell (i := 4) (by omega)
    refine Sched.wp_region_branch (keepBlocks []) joS (by kernel_rfl) (by kernel_rfl) (fun _ _ d _ _ h => by cases d <;> exact h) ?_
    simp only [joS, joS1, joS0, Sched.picked, List.getElem?_cons_succ, List.getElem?_cons_zero, Option.getD_some]
    repeat (refine Sched.walkK_quiet (by rfl) (fun K hK => ?_); go_big_quiet_op; refine hK _ ?_; clear hK K)
    refine Sched.walkK_two ?_ ?_
    · refine Sched.walkK_one (by rfl) (fun K hK => ?_)
      go_simp
      refine hK _ _ ((keepBlocks []).refl _) ?_
      clear hK K
      refine Sched.walkK_one (by rfl) (fun K hK => ?_)
      go_simp
      refine GC2.out.mono ?_
      rintro e w6 ⟨⟨v6, rfl, ho6⟩, hb6⟩
      refine hK _ _ (keep_none hb6.size) ?_
      clear hK K
      obtain ⟨nA, nc, rfl⟩ := own_slice ho6
      have HB6 : Hid (Below w4.heap.size w4 w6) := (Below.refl w4.heap.size w4).drew.trans hb6
      have HN6 : Hid (BytesAt w6 nA b ∧ ∀ a, nA = some a → w4.heap.size ≤ a.block ∧ a.block < w6.heap.size) := ⟨BytesAt.of_own ho6 rfl, fun a ha => by subst ha; exact ho6.lt a.block rfl⟩
      have HRL6 := Lib.hid (HRL5.out.below HB6.out)
      have HRW6 : Hid (w6.rowIs gj 59 7 (jCells g inn T bA bn bc rA rn rc E)) := HRW4.out.of_block (HB6.out.block _ HRW4.out.lt)
      clear ho6 hb6
      have hb7 : Below w6.heap.size w6 (w6.alloc (.cells #[.slice nA b.length nc] 31)) := (Below.refl _ _).alloc (Nat.le_refl _) _
      have d2 : w6.cell? ⟨gj, 4, none⟩ = some (.slice rA rn rc) := HRW6.out.cell (i := 4) (by omega)
      have d3 : (w6.alloc (.cells #[.slice nA b.length nc] 31)).cell? ⟨gj, 4, none⟩ = some (.slice rA rn rc) := (HRW6.out.of_block (hb7.block _ HRW6.out.lt)).cell (i := 4) (by omega)
      clear hb7
      refine Sched.walkK_one (by rfl) (fun K hK => ?_)
      go_simp
      refine hK _ _ (keep_none (by simp)) ?_
      clear hK K
      try simp only [Act.put, List.setIfInBounds_toArray, List.set_cons_zero, List.set_cons_succ]
      refine Sched.walkK_one (by rfl) (fun K hK => ?_)
      refine wp_rows_push (.tmp 46) (.tmp 49) rfl rA rc _ HRL6.out HRN.out.2 nA b nc HN6.out.1 (fun a ha => ⟨⟨.inr (HN6.out.2 a ha).1, HGA.out _ (HN6.out.2 a ha).1⟩, (HN6.out.2 a ha).2, fun y hy e => HRA.out y hy _ (HN6.out.2 a ha).1 e⟩) (fun j hj => ⟨.inr (Nat.le_trans HB6.out.size hj), HGA.out _ (Nat.le_trans HB6.out.size hj)⟩) rn HRN.out.1 rfl rfl ?_
      intro A7 c7 w7 hr7 ho7 ha7
      refine hK _ _ (keep_none (by have := ho7.2; simp; omega)) ?_
      have ho7 := ho7.1
      clear hK K
      simp only [Act.put, List.setIfInBounds_toArray, List.set_cons_zero, List.set_cons_succ]
      have HR7 := Lib.hid hr7; have HO7 := Lib.hid ho7; have HA7 := Lib.hid ha7
      clear hr7 ho7 ha7
      have HRW7 : Hid (w7.rowIs gj 59 7 (jCells g inn T bA bn bc rA rn rc E)) := HRW6.out.of_block (HO7.out.block _ HRW6.out.lt (fun ⟨y, hy, e⟩ => HRG.out y hy e))
      have x2 : w7.cell? ⟨gj, 4, none⟩ = some (.slice rA rn rc) := HRW7.out.cell (i := 4) (by omega)
      have f2 := HRW7.out.frozen 4
      have hlk : (recs ++ [b]).length = rn + 1 := by rw [List.length_append, ← HRN.out.1]; rfl
      rw [hlk]
      clear hlk
      repeat (refine Sched.walkK_quiet (by rfl) (fun K hK => ?_); go_big_quiet_op; refine hK _ ?_; clear hK K)
      refine Sched.walkK_one (by rfl) (fun K hK => ?_)
      go_simp
      refine hK _ _ (keep_none (by simp)) ?_
      clear hK K d2 d3
      refine Sched.walkK_done ?_
      have HN8 : Hid ((w7.setCell ⟨gj, 4, none⟩ (.slice A7 (rn + 1) c7)).rowIs gj 59 7 (jCells g inn T bA bn bc A7 (rn + 1) c7 E)) := (HRW7.out.set 4 (.slice A7 (rn + 1) c7)).congr fun i hi => by rcases seven' hi with rfl | rfl | rfl | rfl | rfl | rfl | rfl <;> rfl
      have HO8 : Hid (Only gj w7 (w7.setCell ⟨gj, 4, none⟩ (.slice A7 (rn + 1) c7))) := (Only.refl _ _).set 4 _
      generalize w7.setCell ⟨gj, 4, none⟩ (.slice A7 (rn + 1) c7) = w8 at *
      go_wp2_with fail
      go_meet
      refine ⟨A7, c7, w6, w7, HB6.out, HO7.out, HO8.out, HN8.out, HR7.out, HA7.out⟩
    · refine Sched.walkK_one (by rfl) (fun K hK => ?_)
      go_simp
      refine GC2.out.mono ?_
      rintro e w6 ⟨⟨v6, rfl, ho6⟩, hb6⟩
      refine hK _ _ (keep_none hb6.size) ?_
      clear hK K
      obtain ⟨nA, nc, rfl⟩ := own_slice ho6
      have HB6 : Hid (Below w4.heap.size w4 w6) := (Below.refl w4.heap.size w4).drew.trans hb6
      have HN6 : Hid (BytesAt w6 nA b ∧ ∀ a, nA = some a → w4.heap.size ≤ a.block ∧ a.block < w6.heap.size) := ⟨BytesAt.of_own ho6 rfl, fun a ha => by subst ha; exact ho6.lt a.block rfl⟩
      have HRL6 := Lib.hid (HRL5.out.below HB6.out)
      have HRW6 : Hid (w6.rowIs gj 59 7 (jCells g inn T bA bn bc rA rn rc E)) := HRW4.out.of_block (HB6.out.block _ HRW4.out.lt)
      clear ho6 hb6
      have hb7 : Below w6.heap.size w6 (w6.alloc (.cells #[.slice nA b.length nc] 31)) := (Below.refl _ _).alloc (Nat.le_refl _) _
      have d2 : w6.cell? ⟨gj, 4, none⟩ = some (.slice rA rn rc) := HRW6.out.cell (i := 4) (by omega)
      have d3 : (w6.alloc (.cells #[.slice nA b.length nc] 31)).cell? ⟨gj, 4, none⟩ = some (.slice rA rn rc) := (HRW6.out.of_block (hb7.block _ HRW6.out.lt)).cell (i := 4) (by omega)
      clear hb7
      refine Sched.walkK_two ?_ ?_
      · refine Sched.walkK_one (by rfl) (fun K hK => ?_)
        go_simp
        refine hK _ _ ((keepBlocks []).refl _) ?_
        clear hK K
        refine Sched.walkK_one (by rfl) (fun K hK => ?_)
        go_simp
        refine hK _ _ (keep_none (by simp)) ?_
        clear hK K
        try simp only [Act.put, List.setIfInBounds_toArray, List.set_cons_zero, List.set_cons_succ]
        refine Sched.walkK_one (by rfl) (fun K hK => ?_)
        refine wp_rows_push (.tmp 46) (.tmp 49) rfl rA rc _ HRL6.out HRN.out.2 nA b nc HN6.out.1 (fun a ha => ⟨⟨.inr (HN6.out.2 a ha).1, HGA.out _ (HN6.out.2 a ha).1⟩, (HN6.out.2 a ha).2, fun y hy e => HRA.out y hy _ (HN6.out.2 a ha).1 e⟩) (fun j hj => ⟨.inr (Nat.le_trans HB6.out.size hj), HGA.out _ (Nat.le_trans HB6.out.size hj)⟩) rn HRN.out.1 rfl rfl ?_
        intro A7 c7 w7 hr7 ho7 ha7
        refine hK _ _ (keep_none (by have := ho7.2; simp; omega)) ?_
        have ho7 := ho7.1
        clear hK K
        simp only [Act.put, List.setIfInBounds_toArray, List.set_cons_zero, List.set_cons_succ]
        have HR7 := Lib.hid hr7; have HO7 := Lib.hid ho7; have HA7 := Lib.hid ha7
        clear hr7 ho7 ha7
        have HRW7 : Hid (w7.rowIs gj 59 7 (jCells g inn T bA bn bc rA rn rc E)) := HRW6.out.of_block (HO7.out.block _ HRW6.out.lt (fun ⟨y, hy, e⟩ => HRG.out y hy e))
        have x2 : w7.cell? ⟨gj, 4, none⟩ = some (.slice rA rn rc) := HRW7.out.cell (i := 4) (by omega)
        have f2 := HRW7.out.frozen 4
        have hlk : (recs ++ [b]).length = rn + 1 := by rw [List.length_append, ← HRN.out.1]; rfl
        rw [hlk]
        clear hlk
        repeat (refine Sched.walkK_quiet (by rfl) (fun K hK => ?_); go_big_quiet_op; refine hK _ ?_; clear hK K)
        refine Sched.walkK_one (by rfl) (fun K hK => ?_)
        go_simp
        refine hK _ _ (keep_none (by simp)) ?_
        clear hK K d2 d3
        refine Sched.walkK_done ?_
        have HN8 : Hid ((w7.setCell ⟨gj, 4, none⟩ (.slice A7 (rn + 1) c7)).rowIs gj 59 7 (jCells g inn T bA bn bc A7 (rn + 1) c7 E)) := (HRW7.out.set 4 (.slice A7 (rn + 1) c7)).congr fun i hi => by rcases seven' hi with rfl | rfl | rfl | rfl | rfl | rfl | rfl <;> rfl
        have HO8 : Hid (Only gj w7 (w7.setCell ⟨gj, 4, none⟩ (.slice A7 (rn + 1) c7))) := (Only.refl _ _).set 4 _
        generalize w7.setCell ⟨gj, 4, none⟩ (.slice A7 (rn + 1) c7) = w8 at *
        go_wp2_with fail
        go_meet
        refine ⟨A7, c7, w6, w7, HB6.out, HO7.out, HO8.out, HN8.out, HR7.out, HA7.out⟩
      · refine Sched.walkK_one (by rfl) (fun K hK => ?_)
        go_simp
        refine hK _ _ (keep_none (by simp)) ?_
        clear hK K
        refine Sched.walkK_one (by rfl) (fun K hK => ?_)
        go_simp
        refine hK _ _ ((keepBlocks []).refl _) ?_
        clear hK K
        try simp only [Act.put, List.setIfInBounds_toArray, List.set_cons_zero, List.set_cons_succ]
        refine Sched.walkK_one (by rfl) (fun K hK => ?_)
        refine wp_rows_push (.tmp 46) (.tmp 49) rfl rA rc _ HRL6.out HRN.out.2 nA b nc HN6.out.1 (fun a ha => ⟨⟨.inr (HN6.out.2 a ha).1, HGA.out _ (HN6.out.2 a ha).1⟩, (HN6.out.2 a ha).2, fun y hy e => HRA.out y hy _ (HN6.out.2 a ha).1 e⟩) (fun j hj => ⟨.inr (Nat.le_trans HB6.out.size hj), HGA.out _ (Nat.le_trans HB6.out.size hj)⟩) rn HRN.out.1 rfl rfl ?_
        intro A7 c7 w7 hr7 ho7 ha7
        refine hK _ _ (keep_none (by have := ho7.2; simp; omega)) ?_
        have ho7 := ho7.1
        clear hK K
        simp only [Act.put, List.setIfInBounds_toArray, List.set_cons_zero, List.set_cons_succ]
        have HR7 := Lib.hid hr7; have HO7 := Lib.hid ho7; have HA7 := Lib.hid ha7
        clear hr7 ho7 ha7
        have HRW7 : Hid (w7.rowIs gj 59 7 (jCells g inn T bA bn bc rA rn rc E)) := HRW6.out.of_block (HO7.out.block _ HRW6.out.lt (fun ⟨y, hy, e⟩ => HRG.out y hy e))
        have x2 : w7.cell? ⟨gj, 4, none⟩ = some (.slice rA rn rc) := HRW7.out.cell (i := 4) (by omega)
        have f2 := HRW7.out.frozen 4
        have hlk : (recs ++ [b]).length = rn + 1 := by rw [List.length_append, ← HRN.out.1]; rfl
        rw [hlk]
        clear hlk
        repeat (refine Sched.walkK_quiet (by rfl) (fun K hK => ?_); go_big_quiet_op; refine hK _ ?_; clear hK K)
        refine Sched.walkK_one (by rfl) (fun K hK => ?_)
        go_simp
        refine hK _ _ (keep_none (by simp)) ?_
        clear hK K d2 d3
        refine Sched.walkK_done ?_
        have HN8 : Hid ((w7.setCell ⟨gj, 4, none⟩ (.slice A7 (rn + 1) c7)).rowIs gj 59 7 (jCells g inn T bA bn bc A7 (rn + 1) c7 E)) := (HRW7.out.set 4 (.slice A7 (rn + 1) c7)).congr fun i hi => by rcases seven' hi with rfl | rfl | rfl | rfl | rfl | rfl | rfl <;> rfl
        have HO8 : Hid (Only gj w7 (w7.setCell ⟨gj, 4, none⟩ (.slice A7 (rn + 1) c7))) := (Only.refl _ _).set 4 _
        generalize w7.setCell ⟨gj, 4, none⟩ (.slice A7 (rn + 1) c7) = w8 at *
        go_wp2_with fail
        go_meet
        refine ⟨A7, c7, w6, w7, HB6.out, HO7.out, HO8.out, HN8.out, HR7.out, HA7.out⟩
  case rest =>
    obtain ⟨A7, c7, w6, w7, hb6, ho7, ho8, hr8, hrows8, ha7⟩ := hcut
    have HB6 := Lib.hid hb6; have HO7 := Lib.hid ho7; have HO8 := Lib.hid ho8; have HR8 := Lib.hid hr8; have HROW8 := Lib.hid hrows8; have HA7 := Lib.hid ha7
    clear hb6 ho7 ho8 hr8 hrows8 ha7
    have x5 : wc.cell? ⟨gj, 5, none⟩ = some (.int .i64 (E : Int)) := HR8.out.cell (i := 5) (by omega)
    have f5 := HR8.out.frozen 5
    have HRF : Hid ((wc.setCell ⟨gj, 5, none⟩ (.int .i64 ((E : Int) + (fl : Int)))).rowIs gj 59 7 (jCells g inn T bA bn bc A7 (rn + 1) c7 (E + fl))) := (HR8.out.set 5 (.int .i64 ((E : Int) + (fl : Int)))).congr fun i hi => by
      rcases seven' hi with rfl | rfl | rfl | rfl | rfl | rfl | rfl
      · rfl
      · rfl
      · rfl
      · rfl
      · rfl
      · show Value.int _ _ = Value.int _ _
        congr 1
      · rfl
    have HON : Hid (Only gj w7 (wc.setCell ⟨gj, 5, none⟩ (.int .i64 ((E : Int) + (fl : Int))))) := HO8.out.set 5 _
    have hEs : E + fl ≤ 4194304 := by have := HS.out; omega
    go_wp2
    go_ret
    generalize wc.setCell ⟨gj, 5, none⟩ (.int .i64 ((E : Int) + (fl : Int))) = wf at *
    have hQw : ∀ x, Q x → x < w.heap.size := HM.out.2.1
    have hs03 := HB03.out.size
    have hs34 := HOF4.out.size
    have hs46 := HB6.out.size
    have hs67 := HO7.out.size
    have hs7f := HON.out.size
    have hO1w4 : ∀ x, O1 x → x < w4.heap.size := HD4.out.lt.2
    have hO1Q : ∀ x, O1 x → ¬Q x := fun x hx hq => (HO1.out x hx).elim (fun h => (HOJ.out x h).2 hq) (fun h => by have := hQw x hq; omega)
    have hrAQ : ∀ y, rA = some y → (Q y.block ∧ y.block ≠ gj) ∧ y.block < w4.heap.size := fun y hy => by
      obtain ⟨L, _, _, h3, _⟩ := HROWS.out
      exact h3 y hy
    have key : ∀ x, x < w4.heap.size → (∀ y, rA = some y → x ≠ y.block) → x ≠ gj → wf.heap[x]? = w4.heap[x]? := fun x h1 h2 h3 =>
      ((HON.out.block x (by omega) h3).trans (HO7.out.block x (by omega) (fun ⟨y, hy, e⟩ => h2 y hy e))).trans (HB6.out.block x h1)
    have hQ'w : ∀ x, (Q x ∨ (w4.heap.size ≤ x ∧ x < wf.heap.size)) → x < wf.heap.size := fun x hx => hx.elim (fun h => by have := hQw x h; omega) (fun h => h.2)
    have hgd := HGD.out
    refine .inr ⟨hfit, rfl, fun x => J x ∨ w.heap.size ≤ x, fun x hx => hx, ⟨O1, fun x => Q x ∨ (w4.heap.size ≤ x ∧ x < wf.heap.size), patch B (64 * q + E) (frm b), fun j => if j = inn then some ⟨r.turn, r.base, r.recs ++ [b]⟩ else o j, inn, fun x hx => ⟨(HO1.out x hx).imp (fun h => (HOJ.out x h).1) (fun h => by omega), fun hq => hq.elim (hO1Q x hx) (fun h => by have := hO1w4 x hx; omega)⟩, fun x hx => hx.imp (HQJ.out x) (fun h => by omega), ?_, ?_, ?_, hi, if_pos rfl, ?_, ?_⟩, ?_⟩
    · exact (HD4.out.kept (by omega) fun x hx => key x (hO1w4 x hx) (fun y hy e => hO1Q x hx (by rw [e]; exact (hrAQ y hy).1.1)) (fun e => hO1Q x hx (by rw [e]; exact HGQ.out))).le (Nat.le_refl _) (by have := HKK.out.2.2; omega)
    · have hlen : (⟨r.turn, r.base, r.recs ++ [b]⟩ : RollV).bytes.length = E + fl := by rw [bytes_snoc, List.length_append, HFL.out, ← HE.out]
      show JMem _ gj g inn r.turn r.base (r.recs ++ [b]) _ wf
      rw [hlen, HT.out, HBS.out, HRE.out]
      refine ⟨.inl HGQ.out, hQ'w, bA, bc, A7, c7, ?_, ?_, ?_, ?_⟩
      · rw [HBN.out, List.length_append, HRNN.out]
        exact HRF.out
      · exact bytes_kept HBAT.out (by omega) fun a ha hlt => key _ hlt (HBA.out a ha).2.2 (HBA.out a ha).2.1
      · intro a ha
        obtain ⟨h1, h2, h3⟩ := HBA.out a ha
        refine ⟨.inl h1, h2, fun y hy e => ?_⟩
        rcases HA7.out y hy with ⟨z, hz, e2⟩ | h
        · exact h3 z hz (e.trans e2)
        · have := hQw _ h1; omega
      · exact HROW8.out.kept (by omega) (fun j hj hlt => HON.out.block j hlt hj.2) fun j hj hlt => ⟨hj.1.imp id (fun h => ⟨h, by omega⟩), hj.2⟩
    · have h := HH.out.append hB hi HOI.out (b := b) ⟨hb, HBB.out⟩ (by rw [HE.out, HFLN.out, HS.out]; exact hfit)
      rw [HQ.out, HE.out] at h
      exact h
    · show turnOf (if 1 - inn = inn then _ else o (1 - inn)) < r.turn
      rw [if_neg (by omega)]
      exact HTL.out
    · show r.turn ≤ k + 100000 + 1
      have := HTK.out
      omega
    · have h1 : Off J w w3 := Off.of_below HB03.out
      have h2 := h1.trans HOF4.out (fun x hx => .inl (HOJ.out x hx).1)
      have h3 := h2.trans (Off.of_below (O := fun _ => False) HB6.out) (fun x h => h.elim)
      have h4 := h3.trans HO7.out (fun x ⟨y, hy, e⟩ => .inl (by rw [e]; exact HQJ.out _ (hrAQ y hy).1.1))
      exact h4.trans (Off.of_only HON.out (O := fun x => x = gj) rfl) (fun x hx => .inl (by rw [hx]; exact HQJ.out _ HGQ.out))
end Go.Proofs.Ytahfkcfbmklfpaa

/- The contract of Reset: a new base and no records, or no room, and nothing changed; Open, Base, Records, Room, Dead, Crash over a journal and its disk. Condition: fewer than 2^38 acts and turns. -/
namespace Go.Proofs.Ytahfkcfbmklfpaa
open Go.RowKit Go.Deep

theorem JMem.alive {Q : Nat → Prop} {gj g inn t en : Nat} {base : List Nat} {recs : List (List Nat)} {w : World} (h : JMem Q gj g inn t base recs en w) : JMem Q gj g inn t base recs en (w.setCell ⟨gj, 6, none⟩ (.bool false)) := by
  obtain ⟨h1, h2, bA, bc, rA, rc, h3, h4, h5, h6⟩ := h
  have ho : Only gj w (w.setCell ⟨gj, 6, none⟩ (.bool false)) := (Only.refl _ _).set 6 _
  refine ⟨h1, fun x hx => Nat.lt_of_lt_of_le (h2 x hx) ho.size, bA, bc, rA, rc, (h3.set 6 (.bool false)).congr fun i hi => ?_, bytes_kept h4 ho.size fun a ha hlt => ho.block _ hlt (h5 a ha).2.1, h5, h6.kept ho.size (fun k hk hlt => ho.block k hlt hk.2) fun _ h _ => h⟩
  rcases seven' hi with rfl | rfl | rfl | rfl | rfl | rfl | rfl <;> rfl

set_option maxHeartbeats 2000000 in
set_option maxRecDepth 100000 in
theorem reset_any {J : Nat → Prop} {gj g n k : Nat} {r : RollV} {w : World} (h : Jo J gj g n k r w) (hk : k ≤ 274877906944) (A : Option Addr) (b : List Nat) (c : Nat) (hb : b.length ≤ 60000) (hbb : ∀ x ∈ b, x < 256) (hat : BytesAt w A b) :
    Calls Try.prog 21 #[.pointer (some ⟨gj, 0, none⟩), .slice A b.length c] w fun e w' =>
      (64 * (n / 2) < (⟨r.turn + 1, b, []⟩ : RollV).first.length ∧ e = .returned (.int .i64 4) ∧ Jo J gj g n k r w' ∧ Off J w w') ∨
      ((⟨r.turn + 1, b, []⟩ : RollV).first.length ≤ 64 * (n / 2) ∧ e = .returned (.int .i64 0) ∧ ∃ J' : Nat → Prop, (∀ x, J' x → J x ∨ w.heap.size ≤ x) ∧ Jo J' gj g n (k + 200000) ⟨r.turn + 1, b, []⟩ w' ∧ Off J w w') := by
  have HJO := Lib.hid h
  obtain ⟨O, Q, B, o, inn, hO, hQ, hd, hm, hH, hi, hoi, htl, htk⟩ := h
  have HM := Lib.hid hm; have HOI := Lib.hid hoi; have HTL := Lib.hid htl; have HTK := Lib.hid htk; have HOJ := Lib.hid hO; have HQJ := Lib.hid hQ
  have GD := Lib.hid (dead_any hm)
  have hz : (1 : Int) - (inn : Int) = ((1 - inn : Nat) : Int) := by omega
  have GB := Lib.hid (begin_any hd hm (fun x hx => (hO x hx).2) hH (1 - inn) (by omega) (by omega) (by omega) A b c hb hbb hat (1 - (inn : Int)) hz)
  obtain ⟨_, _, bA, bc, rA, rc, hr, _⟩ := hm
  have c1 : w.cell? ⟨gj, 1, none⟩ = some (.int .i64 (inn : Int)) := hr.cell (i := 1) (by omega)
  have HBL := Lib.hid hb
  clear hr hz hd hH hoi htl htk hO hQ hat hbb hk
  go_enter Try.func21, Try.ntmps21
  go_wp2_with fail
  refine GD.out.mono ?_
  rintro e w' ⟨rfl, rfl⟩
  go_wp2_with fail
  refine GB.out.mono ?_
  rintro e w1 (⟨hbig, rfl, hb1⟩ | ⟨hfit, rfl, O', Q', B', h1, h2, h3, h4, h5, h6, h7⟩)
  · have HM1 := Lib.hid (HM.out.below hb1)
    have HB1 := Lib.hid hb1
    obtain ⟨_, _, bA, bc, rA, rc, hr, _⟩ := HM1.out
    have c6 : w1.cell? ⟨gj, 6, none⟩ = some (.bool false) := hr.cell (i := 6) (by omega)
    have f6 := hr.frozen 6
    clear hr hb1 c1
    go_wp2
    go_ret
    refine .inl ⟨hbig, rfl, ?_, ?_⟩
    · obtain ⟨O, Q, B, o, inn, hO, hQ, hd, hm, hH, hi, hrest⟩ := HJO.out
      have hon : Only gj w1 (w1.setCell ⟨gj, 6, none⟩ (.bool false)) := (Only.refl _ _).set 6 _
      exact ⟨O, Q, B, o, inn, hO, hQ, (hd.below HB1.out).only hon (fun h => (hO gj h).2 hm.1), (hm.below HB1.out).alive, hH, hi, hrest⟩
    · exact (Off.of_below (O := J) HB1.out).trans (Off.of_only ((Only.refl gj w1).set 6 (.bool false)) (O := fun x => x = gj) rfl) (fun x hx => .inl (by rw [hx]; exact HQJ.out _ HM.out.1))
  · have H1 := Lib.hid h1; have H2 := Lib.hid h2; have H3 := Lib.hid h3; have H4 := Lib.hid h4; have H5 := Lib.hid h5; have H6 := Lib.hid h6; have H7 := Lib.hid h7
    obtain ⟨_, _, bA, bc, rA, rc, hr, _⟩ := h5
    have c6 : w1.cell? ⟨gj, 6, none⟩ = some (.bool false) := hr.cell (i := 6) (by omega)
    have f6 := hr.frozen 6
    clear hr h1 h2 h3 h4 h6 h7 c1
    go_wp2
    go_ret
    have hfb : (⟨r.turn + 1, b, []⟩ : RollV).bytes.length = (⟨r.turn + 1, b, []⟩ : RollV).first.length := by simp [RollV.bytes]
    have hon : Only gj w1 (w1.setCell ⟨gj, 6, none⟩ (.bool false)) := (Only.refl _ _).set 6 _
    refine .inr ⟨hfit, rfl, fun x => J x ∨ w.heap.size ≤ x, fun x hx => hx, ⟨O', Q', B', _, 1 - inn, fun x hx => ⟨(H1.out x hx).imp (fun h => (HOJ.out x h).1) id, H3.out x hx⟩, fun x hx => (H2.out x hx).imp (HQJ.out x) id, H4.out.only hon (fun h => H3.out gj h H5.out.1), ?_, H6.out, by omega, if_pos rfl, ?_, ?_⟩, ?_⟩
    · show JMem Q' gj g (1 - inn) (r.turn + 1) b [] _ _
      rw [hfb]
      exact H5.out.alive
    · show turnOf (if 1 - (1 - inn) = 1 - inn then _ else o (1 - (1 - inn))) < r.turn + 1
      rw [if_neg (by omega), show 1 - (1 - inn) = inn by omega, HOI.out]
      exact Nat.lt_succ_self _
    · show r.turn + 1 ≤ k + 200000 + 1
      have := HTK.out
      omega
    · exact (H7.out.trans (O := fun x => O x ∨ Q x) (Off.of_only hon (O := fun x => x = gj) rfl) (fun x hx => .inl (.inr (by rw [hx]; exact HM.out.1)))) |> fun h => ⟨h.os, h.tape, h.output, h.size, fun x hx hn => h.block x hx fun hq => hn (hq.elim (fun h => (HOJ.out x h).1) (HQJ.out x))⟩
/-- Open, of a disk. -/
theorem jopen_any {J : Nat → Prop} {g n k : Nat} {x : Option RollV} {w : World} (h : Disk1 J g n k x w) (hk : k ≤ 274877906944) :
    Calls Try.prog 9 #[.pointer (some ⟨g, 0, none⟩)] w fun e w' => ∃ (gj : Nat) (J' : Nat → Prop), e = .returned (.tuple #[.pointer (some ⟨gj, 0, none⟩), .int .i64 0]) ∧ (∀ x, J' x → J x ∨ w.heap.size ≤ x) ∧ Jo J' gj g n (k + 300000) (x.getD ⟨1, [], []⟩) w' ∧ Off J w w' := by
  obtain ⟨O, B, o, hO, hd, hH, hx⟩ := h
  refine (open_any hd hH hk).mono ?_
  rintro e w' ⟨gj, O', Q', B', o', inn, r, rfl, h1, h2, h3, h4, h5, h6, h7, h8⟩
  have hoff : Off J w w' := ⟨h7.os, h7.tape, h7.output, h7.size, fun y hy hn => h7.block y hy fun hq => hn (hO y hq)⟩
  refine ⟨gj, fun y => J y ∨ w.heap.size ≤ y, rfl, fun y hy => hy, ?_, hoff⟩
  have hA : ∀ y, O' y → (J y ∨ w.heap.size ≤ y) ∧ ¬Q' y := fun y hy => ⟨(h1 y hy).imp (hO y) id, h3 y hy⟩
  have hQ : ∀ y, Q' y → J y ∨ w.heap.size ≤ y := fun y hy => .inr (h2 y hy)
  cases x with
  | none =>
    obtain ⟨h0, h1'⟩ := hx
    rcases h8 with ⟨hb, _⟩ | ⟨_, rfl, rfl, rfl⟩
    · rw [best_none h0 h1'] at hb
      injection hb with _ hb
      cases hb
    · exact ⟨O', Q', B', _, 0, hA, hQ, h4, h5, h6, by omega, if_pos rfl, by show turnOf (if (1 - 0 : Nat) = 0 then _ else o (1 - 0)) < 1; rw [if_neg (by omega), h1']; exact Nat.one_pos, by show 1 ≤ _; omega⟩
  | some r0 =>
    obtain ⟨inn0, hi0, ho0, hlt, htk⟩ := hx
    have hg := (hH.2 inn0 hi0).2
    rw [ho0] at hg
    have hb0 := best_some hi0 ho0 hg.1.turn.1 hlt
    rcases h8 with ⟨hb, rfl⟩ | ⟨hb, _⟩
    · rw [hb0] at hb
      injection hb with e1 e2
      injection e2 with e2
      subst e1 e2
      exact ⟨O', Q', B', _, inn0, hA, hQ, h4, h5, h6, hi0, ho0, hlt, by show r0.turn ≤ _; omega⟩
    · rw [hb0] at hb
      cases hb
theorem jcrash1_any {J : Nat → Prop} {g n k : Nat} {x : Option RollV} {w : World} (h : Disk1 J g n k x w) (A : Option Addr) (l : List Int) (c : Nat) (hat : IntsAt w A l) :
    Calls Try.prog 18 #[.pointer (some ⟨g, 0, none⟩), .slice A l.length c] w fun e w' => ∃ g' J', e = .returned (.pointer (some ⟨g', 0, none⟩)) ∧ Disk1 J' g' n k x w' ∧ (∀ y, J' y → w.heap.size ≤ y) ∧ Below w.heap.size w w' := by
  obtain ⟨O, B, o, hO, hd, hH, hx⟩ := h
  refine (jcrash_any hd A l c hat).mono ?_
  rintro e w' ⟨g', O', rfl, h1, h2, h3⟩
  exact ⟨g', O', rfl, ⟨O', B, o, fun _ h => h, h1.le (Nat.le_refl _) (Nat.zero_le _), hH, hx⟩, h2, h3⟩
theorem jnew1_any {n : Nat} (h1 : 8 ≤ n) (h2 : n ≤ 65536) (w : World) : Calls Try.prog 8 #[.int .i64 (n : Int)] w fun e w' => ∃ g J, e = .returned (.tuple #[.pointer (some ⟨g, 0, none⟩), .int .i64 0]) ∧ Disk1 J g n 0 none w' ∧ (∀ y, J y → w.heap.size ≤ y) ∧ Below w.heap.size w w' := by
  refine (jnew_any (by omega) h2 w).mono ?_
  rintro e w' ⟨g, O, rfl, hd, hO, hb⟩
  refine ⟨g, O, rfl, ⟨O, _, fun _ => none, fun _ h => h, hd, ⟨h1, fun i hi => ⟨?_, trivial⟩⟩, rfl, rfl⟩, hO, hb⟩
  refine List.ext_getElem? fun j => ?_
  rw [seg_get]
  show _ = (padN (64 * (n / 2)) [])[j]?
  rw [show padN (64 * (n / 2)) [] = zeros (64 * (n / 2)) from rfl]
  by_cases hj : j < 64 * (n / 2)
  · rw [if_pos hj, zeros_get hj, List.getElem?_replicate, if_pos]
    rcases (show i = 0 ∨ i = 1 by omega) with rfl | rfl <;> omega
  · rw [if_neg hj, List.getElem?_eq_none (by rw [zeros_length]; omega)]
theorem jdead_any {J : Nat → Prop} {gj g n k : Nat} {r : RollV} {w : World} (h : Jo J gj g n k r w) : Calls Try.prog 15 #[.pointer (some ⟨gj, 0, none⟩)] w fun e w' => e = .returned (.bool false) ∧ w = w' := by
  obtain ⟨O, Q, B, o, inn, hO, hQ, hd, hm, _⟩ := h
  exact dead_any hm
theorem jroom_any {J : Nat → Prop} {gj g n k : Nat} {r : RollV} {w : World} (h : Jo J gj g n k r w) :
    Calls Try.prog 10 #[.pointer (some ⟨gj, 0, none⟩)] w fun e w' => (∃ R : Int, e = .returned (.int .i64 R) ∧ -1 ≤ R ∧ R ≤ 60000 ∧ ∀ m : Nat, m ≤ 60000 → ((m : Int) ≤ R ↔ r.bytes.length + flen m ≤ 64 * (n / 2))) ∧ Below w.heap.size w w' := by
  have hg := h.good
  obtain ⟨O, Q, B, o, inn, hO, hQ, hd, hm, hH, hi, _⟩ := h
  exact room_any hd hm hi hg.2.1
theorem jbase_any {J : Nat → Prop} {gj g n k : Nat} {r : RollV} {w : World} (h : Jo J gj g n k r w) :
    Calls Try.prog 19 #[.pointer (some ⟨gj, 0, none⟩)] w fun e w' => (∃ v, e = .returned v ∧ w'.ownsRow w.heap.size 5 1 v r.base.length (u8s r.base)) ∧ Below w.heap.size w w' := by
  have hg := h.good
  obtain ⟨O, Q, B, o, inn, hO, hQ, hd, hm, _⟩ := h
  exact base_any hm (by have := hg.1.base.1; omega)
theorem jrecords_any {J : Nat → Prop} {gj g n k : Nat} {r : RollV} {w : World} (h : Jo J gj g n k r w) :
    Calls Try.prog 20 #[.pointer (some ⟨gj, 0, none⟩)] w fun e w' => (∃ A c, e = .returned (.slice A r.recs.length c) ∧ RowsL (fun k => w.heap.size ≤ k) w' A c r.recs) ∧ Below w.heap.size w w' := by
  have hg := h.good
  obtain ⟨O, Q, B, o, inn, hO, hQ, hd, hm, _⟩ := h
  exact records_any hm (by have := hg.2.2.2.2.1; omega) (fun x hx => by have := (hg.1.recs x hx).1; omega)
end Go.Proofs.Ytahfkcfbmklfpaa

/- What the statements' own functions answer: data, alike.Lists. Condition: no list is longer than memory. -/
namespace Go.Proofs.Ytahfkcfbmklfpaa
open Go.RowKit Go.Deep

/-- The blocks of a journal, after a call. -/
theorem Jo.tidy {J J' : Nat → Prop} {gj g n k base : Nat} {r : RollV} {w w' : World} (h : Jo J' gj g n k r w') (hJ' : ∀ x, J' x → J x ∨ w.heap.size ≤ x) (hoff : Off J w w') (hap : ∀ x, J x → base ≤ x ∧ x < w.heap.size) (hb : base ≤ w.heap.size) :
    ∃ J2 : Nat → Prop, Jo J2 gj g n k r w' ∧ (∀ x, J2 x → base ≤ x ∧ x < w'.heap.size) ∧ (∀ x, J2 x → J x ∨ w.heap.size ≤ x) ∧ Below base w w' := by
  obtain ⟨O, Q, B, o, inn, h1, h2, h3, h4, h5⟩ := h
  refine ⟨fun x => J' x ∧ x < w'.heap.size, ⟨O, Q, B, o, inn, fun x hx => ⟨⟨(h1 x hx).1, h3.lt.2 x hx⟩, (h1 x hx).2⟩, fun x hx => ⟨h2 x hx, h4.2.1 x hx⟩, h3, h4, h5⟩, fun x hx => ⟨(hJ' x hx.1).elim (fun h => (hap x h).1) (by omega), hx.2⟩, fun x hx => hJ' x hx.1, ⟨hoff.os, hoff.tape, hoff.output, hoff.size, fun x hx => hoff.block x (by omega) fun h => by have := (hap x h).1; omega⟩⟩
theorem Disk1.tidy {J : Nat → Prop} {g n k base : Nat} {x : Option RollV} {w : World} (h : Disk1 J g n k x w) (hJ : ∀ y, J y → base ≤ y) : ∃ J2 : Nat → Prop, Disk1 J2 g n k x w ∧ (∀ y, J2 y → base ≤ y ∧ y < w.heap.size) ∧ ∀ y, J2 y → J y := by
  obtain ⟨O, B, o, h1, h3, h5⟩ := h
  exact ⟨fun y => J y ∧ y < w.heap.size, ⟨O, B, o, fun y hy => ⟨h1 y hy, h3.lt.2 y hy⟩, h3, h5⟩, fun y hy => ⟨hJ y hy.1, hy.2⟩, fun y hy => hy.1⟩
theorem Disk1.below {J : Nat → Prop} {g n k : Nat} {x : Option RollV} {w w' : World} (h : Disk1 J g n k x w) (hb : Below w.heap.size w w') : Disk1 J g n k x w' := h.kept hb.size fun b _ hlt => hb.block b hlt

/-- The bytes of a step. -/
def dataL (n k : Int) : List Nat := blks (rnd n 300) k
theorem dataL_length (n k : Int) : (dataL n k).length = rnd n 300 ∧ rnd n 300 < 300 := ⟨blks_length _ _, rnd_lt n (by omega)⟩
theorem dataL_lt (n k : Int) : ∀ x ∈ dataL n k, x < 256 := fun x hx => by have := (blks_lt _ _ x hx).1; omega
set_option maxHeartbeats 1000000 in
set_option maxRecDepth 100000 in
theorem data_any (kd n k : Int) (w : World) :
    Calls Try.prog 12 #[.agg #[.int .i64 kd, .int .i64 n, .int .i64 k]] w fun e w' => (∃ a c, e = .returned (.slice (some ⟨a, 0, none⟩) (dataL n k).length c) ∧ BytesAt w' (some ⟨a, 0, none⟩) (dataL n k) ∧ w.heap.size ≤ a) ∧ Below w.heap.size w w' := by
  have GR := Lib.hid (fun w => alikeRound_any n 300 (by omega) (by omega) w)
  have hrl := rnd_lt n (n := 300) (by omega)
  have HDL : Hid (dataL n k = blks (rnd n 300) k) := rfl
  have HLT := Lib.hid (dataL_lt n k)
  have HLEN := Lib.hid (dataL_length n k).1
  obtain ⟨m, HM⟩ : ∃ m, Hid (rnd n 300 = m) := ⟨_, Lib.hid rfl⟩
  rw [HM.out] at GR hrl HDL HLEN
  have GB := Lib.hid (fun w => blocks_any m (by omega) k w)
  rw [← HDL.out] at GB
  obtain ⟨D, HD⟩ : ∃ D, Hid (dataL n k = D) := ⟨_, Lib.hid rfl⟩
  rw [HD.out] at GB HLT HLEN ⊢
  have GC := Lib.hid (fun w => conv_str_cap D HLT.out w)
  go_enter Try.func12, Try.ntmps12
  go_wp2_with fail
  have HB0 : Hid (Below w.heap.size w (w.alloc (.cells #[.int .i64 kd, .int .i64 n, .int .i64 k] 36))) := (Below.refl _ _).alloc (Nat.le_refl _) _
  have HCE : Hid (∀ e : ExtK (keepBlocks [w.heap.size]) (w.alloc (.cells #[.int .i64 kd, .int .i64 n, .int .i64 k] 36)).drew, ∀ j v, (#[Value.int .i64 kd, .int .i64 n, .int .i64 k] : Array Value)[j]? = some v → e.val.cell? ⟨w.heap.size, j, none⟩ = some v) := fun e j v hj =>
    (cell_of_block (e.property.2 w.heap.size (by simp)) _).trans (by rw [show (w.alloc (.cells #[.int .i64 kd, .int .i64 n, .int .i64 k] 36)).drew.cell? ⟨w.heap.size, j, none⟩ = _ from cell_of_row _ _ _ _ _ _ (heap_alloc_new w _)]; exact hj)
  have e1 : ∀ e : ExtK (keepBlocks [w.heap.size]) (w.alloc (.cells #[.int .i64 kd, .int .i64 n, .int .i64 k] 36)).drew, e.val.cell? ⟨w.heap.size, 1, none⟩ = some (.int .i64 n) := fun e => HCE.out e 1 _ rfl
  have e2 : ∀ e : ExtK (keepBlocks [w.heap.size]) (w.alloc (.cells #[.int .i64 kd, .int .i64 n, .int .i64 k] 36)).drew, e.val.cell? ⟨w.heap.size, 2, none⟩ = some (.int .i64 k) := fun e => HCE.out e 2 _ rfl
  have hlt0 : w.heap.size < (w.alloc (.cells #[.int .i64 kd, .int .i64 n, .int .i64 k] 36)).heap.size := by simp
  clear HCE
  generalize w.alloc (.cells #[.int .i64 kd, .int .i64 n, .int .i64 k] 36) = w0 at *
  refine wp_region_held_lit (keepBlocks [w.heap.size]) [(0, true), (1, true), (3, true), (4, true), (2, false), (5, false), (6, false), (7, true)] (by kernel_rfl) (by kernel_rfl) (fun _ _ d _ _ h => by cases d <;> exact h) ?_
  simp only [picked, List.map_cons, List.map_nil, List.getElem?_cons_succ, List.getElem?_cons_zero, Option.getD_some]
  repeat (refine wpH_quiet (by rfl) (fun K hK => ?_); go_big_quiet_op; refine hK _ ?_; clear hK K)
  clear e1 e2
  refine wpH_one (by rfl) (fun K hK => ?_)
  go_simp
  refine (GR.out _).mono ?_
  rintro e w' ⟨rfl, rfl⟩
  refine hK _ _ ((keepBlocks [w.heap.size]).refl _) ?_
  clear hK K
  refine wpH_one (by rfl) (fun K hK => ?_)
  go_simp
  refine (GB.out _).mono ?_
  rintro e w1 ⟨rfl, hb1⟩
  have HB1 : Hid (Below w.heap.size w w1) := HB0.out.drew.trans (hb1.mono HB0.out.size)
  refine hK _ _ (keep_one hb1.size (hb1.block _ hlt0)) ?_
  have hlt1 : w.heap.size < w1.heap.size := Nat.lt_of_lt_of_le hlt0 hb1.size
  clear hK K hb1
  obtain ⟨cap, w2, hcv, hat, hb2, hcap⟩ := GC.out w1
  refine wpH_one (by rfl) (fun K hK => ?_)
  go_simp
  refine hK _ _ (keep_one hb2.size (hb2.block _ hlt1)) ?_
  clear hK K hcv
  repeat (refine wpH_quiet (by rfl) (fun K hK => ?_); go_big_quiet_op; refine hK _ ?_; clear hK K)
  refine wpH_nil ?_
  have HAT := Lib.hid hat; have HB2 : Hid (Below w.heap.size w w2) := HB1.out.trans (hb2.mono HB1.out.size)
  clear hat hb2
  go_wp2
  go_ret
  exact ⟨⟨_, _, rfl, HAT.out, HB1.out.size⟩, HB2.out⟩
def blkOf (A : Option Addr) : Nat := match A with | some a => a.block | none => 0
/-- A list of bytes, wherever it lies. -/
def ListAt (w : World) (A : Option Addr) (l : List (List Nat)) : Prop := ∀ i (hi : i < l.length), ∃ b off x cx, A = some ⟨b, off, none⟩ ∧ w.cell? ⟨b, off + i, none⟩ = some (.slice x (l[i]).length cx) ∧ BytesAt w x l[i]
theorem RowsL.list {P : Nat → Prop} {w : World} {A : Option Addr} {c : Nat} {l : List (List Nat)} (h : RowsL P w A c l) : ListAt w A l := fun i hi => by
  obtain ⟨b, x, cx, h1, h2, h3, _⟩ := h.cell hi
  exact ⟨b, 0, x, cx, h1, by rw [Nat.zero_add]; exact h2, h3⟩
set_option maxHeartbeats 2000000 in
set_option maxRecDepth 100000 in
theorem lists_same (A B : Option Addr) (l : List (List Nat)) (c d : Nat) (hl : l.length ≤ 1099511627776) (w : World) (h1 : ListAt w A l) (h2 : ListAt w B l) :
    Calls Try.prog 34 #[.slice A l.length c, .slice B l.length d] w fun e w' => e = .returned (.bool true) ∧ Off (fun _ => False) w w' := by
  have H1 := Lib.hid h1; have H2 := Lib.hid h2
  clear h1 h2
  go_enter Try.func34, Try.ntmps34
  go_wp2_with fail
  go_loopw [4, 5] (fun v4 vi wr => ∃ k : Nat, k ≤ l.length ∧ v4 = .bool false ∧ vi = .int .i64 (k : Int) ∧ Hid (Off (fun _ => False) w wr)) (fun _ vi _ => l.length - (intOf vi).toNat)
  case atStart => exact ⟨0, Nat.zero_le _, rfl, rfl, Off.refl _ _⟩
  case round =>
    obtain ⟨k, hk, rfl, rfl, HO⟩ := hrel
    by_cases hlt : k < l.length
    · obtain ⟨b1, o1, x1, cx1, rfl, hc1, ha1⟩ := H1.out k hlt
      obtain ⟨b2, o2, x2, cx2, rfl, hc2, ha2⟩ := H2.out k hlt
      have kk : ∀ {A : Addr} {v : Value}, w.cell? A = some v → wr.drew.cell? A = some v := fun {A v} h => by
        have hb : A.block < w.heap.size := World.block_lt_of_cell? w A h
        have e := HO.out.block A.block hb (fun h => h)
        rw [← h]
        show World.cell? wr A = w.cell? A
        simp only [World.cell?, e]
      have hc1' := kk hc1
      have hc2' := kk hc2
      have hat1 := (bytes_kept ha1 HO.out.size fun a _ hlt => HO.out.block _ hlt (fun h => h)).drew
      have hat2 := (bytes_kept ha2 HO.out.size fun a _ hlt => HO.out.block _ hlt (fun h => h)).drew
      obtain ⟨q, HQ⟩ : ∃ q, Hid (l[k] = q) := ⟨_, Lib.hid rfl⟩
      rw [HQ.out] at hc1' hc2' hat1 hat2
      have e1 : ∀ e : ExtK (keepBlocks [b1, b2, blkOf x1, blkOf x2]) wr.drew, e.val.cell? ⟨b1, o1 + k, none⟩ = some (.slice x1 q.length cx1) := fun e => (cell_of_block (e.property.2 b1 (by simp)) _).trans hc1'
      have e2 : ∀ e : ExtK (keepBlocks [b1, b2, blkOf x1, blkOf x2]) wr.drew, e.val.cell? ⟨b2, o2 + k, none⟩ = some (.slice x2 q.length cx2) := fun e => (cell_of_block (e.property.2 b2 (by simp)) _).trans hc2'
      have v1 : ∀ e : ExtK (keepBlocks [b1, b2, blkOf x1, blkOf x2]) wr.drew, (convert 31 9 (.slice x1 q.length cx1)).run Try.prog e.val = .ok (.string (bstr q)) e.val := fun e =>
        (bytes_kept hat1 e.property.1 (fun a ha _ => e.property.2 _ (by subst ha; simp [blkOf]))).conv cx1 9 Try.underlying9
      have v2 : ∀ e : ExtK (keepBlocks [b1, b2, blkOf x1, blkOf x2]) wr.drew, (convert 31 9 (.slice x2 q.length cx2)).run Try.prog e.val = .ok (.string (bstr q)) e.val := fun e =>
        (bytes_kept hat2 e.property.1 (fun a ha _ => e.property.2 _ (by subst ha; simp [blkOf]))).conv cx2 9 Try.underlying9
      clear hc1 hc2 ha1 ha2 kk hat1 hat2 hc1' hc2'
      go_wp2_with fail
      refine wp_region_held_lit (keepBlocks [b1, b2, blkOf x1, blkOf x2]) [(0, true), (1, true), (2, true), (3, true), (4, true), (5, true), (6, true), (7, true), (8, true), (9, true), (10, true)] (by kernel_rfl) (by kernel_rfl) (fun _ _ d _ _ h => by cases d <;> exact h) ?_
      simp only [picked, List.map_cons, List.map_nil, List.getElem?_cons_succ, List.getElem?_cons_zero, Option.getD_some]
      repeat (refine wpH_quiet (by rfl) (fun K hK => ?_); go_big_quiet_op; refine hK _ ?_; clear hK K)
      clear e1 e2 v1 v2
      refine wpH_nil ?_
      have HON := Lib.hid HO.out.drew
      generalize wr.drew = wd at *
      go_wp2
      go_roundw
      case measure => simp [intOf]; omega
      exact ⟨k + 1, by omega, rfl, by go_num, HON.out⟩
    · have hke : k = l.length := by omega
      go_wp2
      go_ret
      exact ⟨rfl, HO.out⟩
end Go.Proofs.Ytahfkcfbmklfpaa

/- What shows answers of a journal and of what it holds: true. No condition. -/
namespace Go.Proofs.Ytahfkcfbmklfpaa
open Go.RowKit Go.Deep

theorem ListAt.below {w w' : World} {A : Option Addr} {l : List (List Nat)} (h : ListAt w A l) (hb : Below w.heap.size w w') : ListAt w' A l := fun i hi => by
  obtain ⟨b, off, x, cx, h1, h2, h3⟩ := h i hi
  exact ⟨b, off, x, cx, h1, (hb.cell (p := ⟨b, off + i, none⟩) (World.block_lt_of_cell? w ⟨b, off + i, none⟩ h2)).trans h2, h3.below hb⟩
set_option maxHeartbeats 2000000 in
set_option maxRecDepth 100000 in
theorem shows_yes {J : Nat → Prop} {gj g n k : Nat} {r : RollV} {w : World} (h : Jo J gj g n k r w) (bA : Option Addr) (bc : Nat) (lA : Option Addr) (lc : Nat) (hb : BytesAt w bA r.base) (hl : ListAt w lA r.recs) :
    Calls Try.prog 14 #[.pointer (some ⟨gj, 0, none⟩), .agg #[.slice bA r.base.length bc, .slice lA r.recs.length lc]] w fun e w' => e = .returned (.bool true) ∧ Below w.heap.size w w' := by
  have hg := h.good
  have H := Lib.hid h; have HLA := Lib.hid hl; have HBA := Lib.hid hb
  have hrl := hg.2.2.2.2.1
  have hbl0 := hg.1.base.1
  clear h hl hb hg
  obtain ⟨bs, HBS⟩ : ∃ bs, Hid (r.base = bs) := ⟨_, Lib.hid rfl⟩
  obtain ⟨bn, HBN⟩ : ∃ bn, Hid (bs.length = bn) := ⟨_, rfl⟩
  obtain ⟨rn, HRN⟩ : ∃ rn, Hid (r.recs.length = rn) := ⟨_, rfl⟩
  rw [HBS.out] at HBA hbl0 ⊢
  rw [HBN.out] at hbl0 ⊢
  rw [HRN.out] at hrl ⊢
  go_enter Try.func14, Try.ntmps14
  go_wp2_with fail
  have HB0 : Hid (Below w.heap.size w (w.alloc (.cells #[.slice bA bn bc, .slice lA rn lc] 34))) := (Below.refl _ _).alloc (Nat.le_refl _) _
  have HB0d : Hid (Below w.heap.size w (w.alloc (.cells #[.slice bA bn bc, .slice lA rn lc] 34)).drew) := HB0.out.drew
  have HC0 : Hid (∀ j v, (#[Value.slice bA bn bc, Value.slice lA rn lc] : Array Value)[j]? = some v → (w.alloc (.cells #[.slice bA bn bc, .slice lA rn lc] 34)).drew.cell? ⟨w.heap.size, j, none⟩ = some v) := fun j v hj => by
    rw [show (w.alloc (.cells #[.slice bA bn bc, .slice lA rn lc] 34)).drew.cell? ⟨w.heap.size, j, none⟩ = _ from cell_of_row _ _ _ _ _ _ (heap_alloc_new w _)]; exact hj
  have hlt0 : w.heap.size < (w.alloc (.cells #[.slice bA bn bc, .slice lA rn lc] 34)).heap.size := by simp
  generalize w.alloc (.cells #[.slice bA bn bc, .slice lA rn lc] 34) = w0 at *
  obtain ⟨kb, hkb, hkeep⟩ : ∃ kb, kb < w0.drew.heap.size ∧ ∀ x : World, w0.drew.heap.size ≤ x.heap.size → x.heap[kb]? = w0.drew.heap[kb]? → BytesAt x bA bs := by
    rcases HBA.out.below HB0d.out with h | ⟨b, off, hA, hlt, hc⟩
    · exact ⟨w.heap.size, hlt0, fun _ _ _ => .inl h⟩
    · exact ⟨b, hlt, fun x hx e => bytes_kept (.inr ⟨b, off, hA, hlt, hc⟩) hx fun a ha _ => by rw [hA] at ha; injection ha with ha; rw [← ha]; exact e⟩
  have HKB := Lib.hid hkb
  have e0 : ∀ e : ExtK (keepBlocks [w.heap.size, kb]) w0.drew, e.val.cell? ⟨w.heap.size, 0, none⟩ = some (.slice bA bn bc) := fun e => (cell_of_block (e.property.2 w.heap.size (by simp)) _).trans (HC0.out 0 _ rfl)
  have v1 : ∀ e : ExtK (keepBlocks [w.heap.size, kb]) w0.drew, (convert 31 9 (.slice bA bn bc)).run Try.prog e.val = .ok (.string (bstr bs)) e.val := fun e => by
    have := (hkeep e.val e.property.1 (e.property.2 kb (by simp))).conv bc 9 Try.underlying9
    rw [HBN.out] at this
    exact this
  clear hkb
  refine wp_region_held_lit (keepBlocks [w.heap.size, kb]) [(0, true), (1, true), (2, true), (3, true), (6, true), (7, true), (8, true), (4, false), (5, false), (9, true), (10, true), (11, true), (12, true), (14, true), (15, true), (13, false), (16, false), (17, true), (18, true)] (by kernel_rfl) (by kernel_rfl) (fun _ _ d _ _ h => by cases d <;> exact h) ?_
  simp only [picked, List.map_cons, List.map_nil, List.getElem?_cons_succ, List.getElem?_cons_zero, Option.getD_some]
  repeat (refine wpH_quiet (by rfl) (fun K hK => ?_); go_big_quiet_op; refine hK _ ?_; clear hK K)
  clear e0 v1 hkeep
  have HLT0 := Lib.hid hlt0; clear hlt0
  have GB := Lib.hid (jbase_any (H.out.below HB0d.out))
  rw [HBS.out, HBN.out] at GB
  refine wpH_one (by rfl) (fun K hK => ?_)
  go_simp
  refine GB.out.mono ?_
  rintro e w1 ⟨⟨v1, rfl, ho1⟩, hb1⟩
  obtain ⟨cA, cc, rfl⟩ := own_slice ho1
  have HB1 : Hid (Below w.heap.size w w1) := HB0d.out.trans (hb1.mono HB0d.out.size)
  have HB01 := Lib.hid hb1
  refine hK _ _ (keep_two hb1.size (hb1.block _ HLT0.out) (hb1.block _ HKB.out)) ?_
  clear hK K
  have cv : (convert 31 9 (.slice cA bn cc)).run Try.prog w1 = .ok (.string (bstr bs)) w1 := by
    have := (BytesAt.of_own ho1 HBN.out.symm).conv cc 9 Try.underlying9
    rw [HBN.out] at this
    exact this
  clear ho1 hb1
  refine wpH_one (by rfl) (fun K hK => ?_)
  go_simp
  refine hK _ _ ((keepBlocks _).refl _) ?_
  clear hK K cv
  have c1 : w1.cell? ⟨w.heap.size, 1, none⟩ = some (.slice lA rn lc) := (HB01.out.cell (p := ⟨w.heap.size, 1, none⟩) HLT0.out).trans (HC0.out 1 _ rfl)
  have e1 : ∀ e : ExtK (keepBlocks [w.heap.size, kb]) w1, e.val.cell? ⟨w.heap.size, 1, none⟩ = some (.slice lA rn lc) := fun e => (cell_of_block (e.property.2 w.heap.size (by simp)) _).trans c1
  clear c1
  repeat (refine wpH_quiet (by rfl) (fun K hK => ?_); go_big_quiet_op; refine hK _ ?_; clear hK K)
  clear e1
  have GR := Lib.hid (jrecords_any (H.out.below HB1.out))
  rw [HRN.out] at GR
  refine wpH_one (by rfl) (fun K hK => ?_)
  go_simp
  refine GR.out.mono ?_
  rintro e w2 ⟨⟨rA, rc, rfl, hrows⟩, hb2⟩
  have HB2 : Hid (Below w.heap.size w w2) := HB1.out.trans (hb2.mono HB1.out.size)
  have HS1 := HB01.out.size
  have hl1 : w.heap.size < w1.heap.size := Nat.lt_of_lt_of_le HLT0.out HS1
  have hl2 : kb < w1.heap.size := Nat.lt_of_lt_of_le HKB.out HS1
  refine hK _ _ (keep_two hb2.size (hb2.block _ hl1) (hb2.block _ hl2)) ?_
  clear hK K
  have GL := Lib.hid (lists_same rA lA r.recs rc lc (by rw [HRN.out]; omega) w2 hrows.list (HLA.out.below HB2.out))
  rw [HRN.out] at GL
  have hl3 : w.heap.size < w2.heap.size := Nat.lt_of_lt_of_le hl1 hb2.size
  have hl4 : kb < w2.heap.size := Nat.lt_of_lt_of_le hl2 hb2.size
  clear hrows hb2
  refine wpH_one (by rfl) (fun K hK => ?_)
  go_simp
  refine GL.out.mono ?_
  rintro e w3 ⟨rfl, ho3⟩
  have HB3 : Hid (Below w.heap.size w w3) := HB2.out.trans ⟨ho3.os, ho3.tape, ho3.output, ho3.size, fun k hk => ho3.block k (Nat.lt_of_lt_of_le hk HB2.out.size) (fun h => h)⟩
  refine hK _ _ (keep_two ho3.size (ho3.block _ hl3 (fun h => h)) (ho3.block _ hl4 (fun h => h))) ?_
  clear hK K ho3
  repeat (refine wpH_quiet (by rfl) (fun K hK => ?_); go_big_quiet_op; refine hK _ ?_; clear hK K)
  refine wpH_nil ?_
  go_wp2
  go_ret
  exact ⟨rfl, HB3.out⟩
end Go.Proofs.Ytahfkcfbmklfpaa

/- The statements' own 'awake' answers true. No condition. -/
namespace Go.Proofs.Ytahfkcfbmklfpaa
open Go.RowKit Go.Deep

theorem len_begun : (⟨1, [], []⟩ : RollV).bytes.length = 6 := by
  have h : (⟨1, [], []⟩ : RollV).bytes.length = (⟨1, [], []⟩ : RollV).first.length := by simp [RollV.bytes]
  rw [h, first_length]
  rfl
theorem len_more (r : RollV) (b : List Nat) : (⟨r.turn, r.base, r.recs ++ [b]⟩ : RollV).bytes.length = r.bytes.length + flen b.length := by
  rw [bytes_snoc, List.length_append, frm_length]
theorem jconv_const (w : World) (C : Array Value) (n c g : Nat) (hg : g = w.heap.size) :
    (convert 31 31 (.slice (some ⟨g, 0, none⟩) n c)).run Try.prog (w.alloc (.cells C 5)) = .ok (.slice (some ⟨g, 0, none⟩) n c) (w.alloc (.cells C 5 (C.size, C.size + 1))) := by
  subst hg
  exact Lib.run_convert_bytes_const (P := Try.prog) w 31 5 C n c Try.underlying31 Try.underlying5
theorem one_at (w : World) (x : Nat) (t : TypeId) (fr : Nat × Nat) (g : Nat) (hg : g = w.heap.size) : BytesAt (w.alloc (.cells #[.int .u8 (x : Int)] t fr)) (some ⟨g, 0, none⟩) [x] := BytesAt.lit (fun j y hj => by
  match j, hj with
  | 0, hj => cases hj; rfl) hg

theorem list_two {w : World} {A B : Option Addr} {l m : List Nat} (hA : BytesAt w A l) (hB : BytesAt w B m) (c d g : Nat) (hg : g = w.heap.size) (t : TypeId) : ListAt (w.alloc (.cells #[.slice A l.length c, .slice B m.length d] t)) (some ⟨g, 0, none⟩) [l, m] := by
  subst hg
  intro i hi
  have hc : ∀ j, (w.alloc (.cells #[.slice A l.length c, .slice B m.length d] t)).cell? ⟨w.heap.size, 0 + j, none⟩ = (#[Value.slice A l.length c, Value.slice B m.length d] : Array Value)[j]? := fun j => by
    rw [Nat.zero_add, cell_of_row _ _ _ _ _ _ (heap_alloc_new w _)]
  match i, hi with
  | 0, _ => exact ⟨_, 0, A, c, rfl, (hc 0).trans rfl, hA.alloc _⟩
  | 1, _ => exact ⟨_, 0, B, d, rfl, (hc 1).trans rfl, hB.alloc _⟩
set_option maxHeartbeats 4000000 in
set_option maxRecDepth 100000 in
theorem awake_any (w : World) : Calls Try.prog 7 #[] w fun e w' => e = .returned (.bool true) ∧ Below w.heap.size w w' := by
  have GN := Lib.hid (jnew1_any (n := 64) (by omega) (by omega))
  go_enter Try.func7, Try.ntmps7
  go_wp2_with fail
  refine (GN.out w).mono ?_
  rintro e w1 ⟨g, J0, rfl, hd0, hJ0, hb1⟩
  obtain ⟨J1, hd1, hJ1, _⟩ := hd0.tidy hJ0
  have HD1 := Lib.hid hd1; have HJ1 := Lib.hid hJ1; have HB1 := Lib.hid hb1
  clear hd0 hJ0 hb1 hd1 hJ1
  go_wp2_with fail
  refine (jopen_any HD1.out (by omega)).mono ?_
  rintro e w2 ⟨gj, J2', rfl, hJ2', hjo', hoff⟩
  obtain ⟨J2, hjo, hap, _, hb2⟩ := hjo'.tidy hJ2' hoff HJ1.out HB1.out.size
  have HJO2 := Lib.hid hjo; have HAP2 := Lib.hid hap
  have HB2 : Hid (Below w.heap.size w w2) := HB1.out.trans hb2
  clear hjo' hJ2' hoff hjo hap hb2
  go_wp2_with fail
  refine (open_nil _).mono ?_
  rintro e w' ⟨rfl, rfl⟩
  have k1 := jconv_const w2 #[.int .u8 97] 1 1 w2.heap.size rfl
  go_wp2_with fail
  have HA1 := Lib.hid (one_at w2 97 5 (1, 1 + 1) w2.heap.size rfl)
  have hb23 : Below w2.heap.size w2 (w2.alloc (.cells #[.int .u8 97] 5 (1, 1 + 1))) := (Below.refl _ _).alloc (Nat.le_refl _) _
  have HJO3 := Lib.hid (HJO2.out.below hb23)
  have HAP3 : Hid (∀ x, J2 x → w.heap.size ≤ x ∧ x < (w2.alloc (.cells #[.int .u8 97] 5 (1, 1 + 1))).heap.size) := fun x hx => ⟨(HAP2.out x hx).1, Nat.lt_of_lt_of_le (HAP2.out x hx).2 hb23.size⟩
  have HB3 : Hid (Below w.heap.size w (w2.alloc (.cells #[.int .u8 97] 5 (1, 1 + 1)))) := HB2.out.trans (hb23.mono HB2.out.size)
  have HN3 : Hid (∀ a : Addr, some (⟨w2.heap.size, 0, none⟩ : Addr) = some a → ¬J2 a.block) := fun a ha h => by
    injection ha with ha
    subst ha
    exact Nat.lt_irrefl _ (HAP2.out _ h).2
  clear k1 hb23
  generalize w2.alloc (.cells #[.int .u8 97] 5 (1, 1 + 1)) = w3 at *
  refine (append_any HJO3.out (by omega) (some ⟨w2.heap.size, 0, none⟩) [97] 1 (by simp) (by simp) HA1.out HN3.out).mono ?_
  rintro e w4 (⟨hbad, _⟩ | ⟨_, rfl, J4', hJ4', hjo4', hoff4⟩)
  · rw [show (none : Option RollV).getD ⟨1, [], []⟩ = ⟨1, [], []⟩ from rfl, len_begun] at hbad
    exact absurd hbad (by decide)
  obtain ⟨J4, hjo4, hap4, _, hb4⟩ := hjo4'.tidy hJ4' hoff4 HAP3.out HB3.out.size
  have HJO4 : Hid (Jo J4 gj g 64 (0 + 300000 + 100000) ⟨1, [], [[97]]⟩ w4) := hjo4
  have HAP4 := Lib.hid hap4
  have HB4 : Hid (Below w.heap.size w w4) := HB3.out.trans hb4
  clear hjo4' hJ4' hoff4 hjo4 hap4 hb4
  have k1 := jconv_const w4 #[.int .u8 98] 1 1 w4.heap.size rfl
  go_wp2_with fail
  have HA2 := Lib.hid (one_at w4 98 5 (1, 1 + 1) w4.heap.size rfl)
  have hb45 : Below w4.heap.size w4 (w4.alloc (.cells #[.int .u8 98] 5 (1, 1 + 1))) := (Below.refl _ _).alloc (Nat.le_refl _) _
  have HJO5 := Lib.hid (HJO4.out.below hb45)
  have HAP5 : Hid (∀ x, J4 x → w.heap.size ≤ x ∧ x < (w4.alloc (.cells #[.int .u8 98] 5 (1, 1 + 1))).heap.size) := fun x hx => ⟨(HAP4.out x hx).1, Nat.lt_of_lt_of_le (HAP4.out x hx).2 hb45.size⟩
  have HB5 : Hid (Below w.heap.size w (w4.alloc (.cells #[.int .u8 98] 5 (1, 1 + 1)))) := HB4.out.trans (hb45.mono HB4.out.size)
  have HN5 : Hid (∀ a : Addr, some (⟨w4.heap.size, 0, none⟩ : Addr) = some a → ¬J4 a.block) := fun a ha h => by
    injection ha with ha
    subst ha
    exact Nat.lt_irrefl _ (HAP4.out _ h).2
  clear k1 hb45
  generalize w4.alloc (.cells #[.int .u8 98] 5 (1, 1 + 1)) = w5 at *
  have hl2 : (⟨1, [], [[97]]⟩ : RollV).bytes.length = 12 := by
    have := len_more ⟨1, [], []⟩ [97]
    rw [len_begun] at this
    exact this
  refine (append_any HJO5.out (by omega) (some ⟨w4.heap.size, 0, none⟩) [98] 1 (by simp) (by simp) HA2.out HN5.out).mono ?_
  rintro e w6 (⟨hbad, _⟩ | ⟨_, rfl, J6', hJ6', hjo6', hoff6⟩)
  · rw [hl2] at hbad
    exact absurd hbad (by decide)
  obtain ⟨J6, hjo6, hap6, _, hb6⟩ := hjo6'.tidy hJ6' hoff6 HAP5.out HB5.out.size
  have HJO6 : Hid (Jo J6 gj g 64 (0 + 300000 + 100000 + 100000) ⟨1, [], [[97], [98]]⟩ w6) := hjo6
  have HAP6 := Lib.hid hap6
  have HB6 : Hid (Below w.heap.size w w6) := HB5.out.trans hb6
  have HL3 : Hid ((⟨1, [], [[97], [98]]⟩ : RollV).bytes.length = 18) := by
    have := len_more ⟨1, [], [[97]]⟩ [98]
    rw [hl2] at this
    exact this
  clear hjo6' hJ6' hoff6 hjo6 hap6 hb6 hl2
  go_wp2_with fail
  refine (jcrash1_any HJO6.out.disk none [] 0 (.inl rfl)).mono ?_
  rintro e w7 ⟨g7, J7', rfl, hd7', hJ7', hb7⟩
  obtain ⟨J7, hd7, hJ7, _⟩ := hd7'.tidy hJ7'
  have HD7 := Lib.hid hd7; have HJ7 := Lib.hid hJ7
  have HB7 : Hid (Below w.heap.size w w7) := HB6.out.trans (hb7.mono HB6.out.size)
  have HJO7 := Lib.hid (HJO6.out.below hb7)
  have HS67 : Hid (w6.heap.size ≤ w7.heap.size) := hb7.size
  clear hd7' hJ7' hb7 hd7 hJ7
  go_wp2_with fail
  refine (jopen_any HD7.out (by omega)).mono ?_
  rintro e w8 ⟨g8, J8', rfl, hJ8', hjo8', hoff8⟩
  obtain ⟨J8, hjo8, hap8, _, hb8⟩ := hjo8'.tidy hJ8' hoff8 HJ7.out HS67.out
  have HJO8 : Hid (Jo J8 g8 g7 64 _ ⟨1, [], [[97], [98]]⟩ w8) := hjo8
  have HAP8 := Lib.hid hap8
  have HB8 : Hid (Below w.heap.size w w8) := HB7.out.trans (hb8.mono HB6.out.size)
  have HJJ := Lib.hid (HJO7.out.kept hb8.size fun b hb _ => hb8.block b (HAP6.out b hb).2)
  clear hjo8' hJ8' hoff8 hjo8 hap8 hb8
  have k1 := jconv_const w8 #[.int .u8 97] 1 1 w8.heap.size rfl
  have k2 := jconv_const (w8.alloc (.cells #[.int .u8 97] 5 (1, 1 + 1))) #[.int .u8 98] 1 1 (w8.heap.size + 1) (by simp)
  have ha := (one_at w8 97 5 (1, 1 + 1) w8.heap.size rfl).alloc (.cells #[.int .u8 98] 5 (1, 1 + 1))
  have hb := one_at (w8.alloc (.cells #[.int .u8 97] 5 (1, 1 + 1))) 98 5 (1, 1 + 1) (w8.heap.size + 1) (by simp)
  have HLI := Lib.hid (list_two ha hb 1 1 (w8.heap.size + 1 + 1) (by simp) 31)
  have hb9 : Below w8.heap.size w8 ((((w8.alloc (.cells #[.int .u8 97] 5 (1, 1 + 1))).alloc (.cells #[.int .u8 98] 5 (1, 1 + 1))).alloc (.cells #[.slice (some ⟨w8.heap.size, 0, none⟩) 1 1, .slice (some ⟨w8.heap.size + 1, 0, none⟩) 1 1] 31))) := (((Below.refl _ _).alloc (Nat.le_refl _) _).alloc (by simp) _).alloc (by simp; omega) _
  have HB9 := Lib.hid hb9
  clear ha hb hb9
  go_wp2_with fail
  clear k1 k2
  refine (shows_yes (HJO8.out.below HB9.out) none 0 (some ⟨w8.heap.size + 1 + 1, 0, none⟩) 2 (.inl rfl) HLI.out).mono ?_
  rintro e wa ⟨rfl, hba⟩
  have HBA : Hid (Below w8.heap.size w8 wa) := HB9.out.trans (hba.mono HB9.out.size)
  clear hba HB9 HLI
  go_wp2_with fail
  refine (jroom_any (HJJ.out.below HBA.out)).mono ?_
  rintro e wb ⟨⟨R, rfl, hR1, hR2, hR3⟩, hbb⟩
  have hR0 : 0 ≤ R := by
    have h := (hR3 0 (by omega)).2 (by rw [HL3.out]; decide)
    omega
  have HBB : Hid (Below w8.heap.size w8 wb) := HBA.out.trans (hbb.mono HBA.out.size)
  clear hR3 hbb hR1 hR2
  go_wp2_with fail
  refine (jdead_any (HJJ.out.below HBB.out)).mono ?_
  rintro e w' ⟨rfl, rfl⟩
  go_wp2
  go_ret
  exact ⟨rfl, HB8.out.trans (HBB.out.mono HB8.out.size)⟩
end Go.Proofs.Ytahfkcfbmklfpaa
