/- The statement's own 'both': how many of n characters neither of two edits deletes. Condition: checked edits of n characters. -/
import Derived.Test.YtakdcfjlhpponaaKXk
import Derived.Test.YtakdcfjlhpponaaKKm
import Derived.Deep.OwnRows
/- The statement's own 'both': how many of n characters neither of two edits deletes. Condition: checked edits of n characters. -/
namespace Go.Proofs.Ytakdcfjlhpponaa
open Go.RowKit Go.Deep

theorem msk_append : ∀ (a b : List CompV), msk (a ++ b) = msk a ++ msk b
  | [], b => by rw [List.nil_append, msk_nil, List.nil_append]
  | c :: a, b => by rw [List.cons_append, msk, msk, msk_append a b, List.append_assoc]
/-- What is gone behind an edit that keeps the ones and deletes the others. -/
def gm (G : Nat → Bool) (M : List Bool) (j : Nat) : Bool := G j || !(M.getD j true)
theorem gm_nil (G : Nat → Bool) : gm G [] = G := by
  funext j
  simp [gm]
theorem gm_at (G : Nat → Bool) (M : List Bool) : gm G M M.length = G M.length := by simp [gm]
theorem gm_snoc (G : Nat → Bool) (M : List Bool) (p : Bool) (j : Nat) : gm G (M ++ [p]) j = if j = M.length then (G j || !p) else gm G M j := by
  unfold gm
  by_cases h : j = M.length
  · subst h
    simp
  · rw [if_neg h]
    by_cases h2 : j < M.length
    · rw [List.getD_eq_getElem?_getD, List.getD_eq_getElem?_getD, List.getElem?_append_left h2]
    · rw [List.getD_eq_getElem?_getD, List.getD_eq_getElem?_getD, List.getElem?_eq_none (by rw [List.length_append, List.length_singleton]; omega), List.getElem?_eq_none (by omega)]
/-- What is gone behind none, one, and both of two edits. -/
def gt (a b : List CompV) : Nat → Nat → Bool
  | 0 => fun _ => false
  | 1 => gm (fun _ => false) (msk a)
  | _ => gm (gm (fun _ => false) (msk a)) (msk b)
/-- How many of the first ones are not gone. -/
def cntN (G : Nat → Bool) : Nat → Nat
  | 0 => 0
  | k + 1 => cntN G k + (if G k = true then 0 else 1)
theorem cntN_le (G : Nat → Bool) : ∀ k, cntN G k ≤ k
  | 0 => Nat.le_refl _
  | k + 1 => by
    have := cntN_le G k
    rw [cntN]
    split <;> omega
theorem cnt_kb (x y : List Bool) (h : x.length = y.length) : ∀ k, k ≤ x.length → cntN (gm (gm (fun _ => false) x) y) k = kb (x.take k) (y.take k)
  | 0, _ => by rw [List.take_zero, List.take_zero]; rfl
  | k + 1, hk => by
    have h1 : k < x.length := by omega
    have h2 : k < y.length := by omega
    rw [cntN, cnt_kb x y h k (by omega), List.take_succ_eq_append_getElem h1, List.take_succ_eq_append_getElem h2, kb_append (by rw [List.length_take, List.length_take, h])]
    have e : kb [x[k]] [y[k]] = if (x[k] && y[k]) = true then 1 else 0 := kb_rep 1 x[k] y[k]
    have e2 : gm (gm (fun _ => false) x) y k = !(x[k] && y[k]) := by
      unfold gm
      rw [List.getD_eq_getElem?_getD, List.getElem?_eq_getElem h1, List.getD_eq_getElem?_getD, List.getElem?_eq_getElem h2]
      cases x[k] <;> cases y[k] <;> rfl
    rw [e, e2]
    cases x[k] <;> cases y[k] <;> rfl
theorem cnt_all {a b : List CompV} {n : Nat} (ha : (msk a).length = n) (hb : (msk b).length = n) : cntN (gt a b 2) n = kb (msk a) (msk b) := by
  have := cnt_kb (msk a) (msk b) (by rw [ha, hb]) n (by omega)
  rw [List.take_of_length_le (by omega), List.take_of_length_le (by omega)] at this
  exact this
theorem bool_info : (Try.prog.info? 4).map (fun i => (i.zero, i.size, i.bytes)) = some (some (.bool false), 1, 1) := by kernel_rfl
attribute [irreducible] gm cntN

set_option maxHeartbeats 8000000 in
set_option maxRecDepth 100000 in
theorem xfGone_any (n : Nat) (hn : n ≤ 200) (A : Option Addr) (ca : Nat) (a : List CompV) (B : Option Addr) (cb : Nat) (b : List CompV) (oka : Ok a) (okb : Ok b) (hna : inS a = n) (hnb : inS b = n) (w : World) (hA : CompsC w A ca a) (hB : CompsC w B cb b) :
    Calls Try.prog 22 #[.int .i64 (n : Int), .slice A a.length ca, .slice B b.length cb] w fun e w' => e = .returned (.int .i64 (kb (msk a) (msk b) : Int)) ∧ Below w.heap.size w w' := by
  have hmk : ∀ w : World, (Instr.makeSlice 82 (.int .i64 (n : Int)) (.int .i64 (n : Int))).run Try.prog w = .ok (.slice (some ⟨w.heap.size, 0, none⟩) n n) (w.alloc (.cells (madeCells #[.bool false] n) 4)) := run_make_row' (P := Try.prog) 82 4 (.bool false) 1 Try.underlying82 bool_info rfl .i64 .i64 n (by omega) (by omega)
  have HR0 : Hid ((w.alloc (.cells (madeCells #[.bool false] n) 4)).rowIs w.heap.size 4 n (fun j => .bool (gt a b 0 j))) := World.rowIs_made w (.bool false) n 4
  have HB0 : Hid (Below w.heap.size w (w.alloc (.cells (madeCells #[.bool false] n) 4))) := (Below.refl _ _).alloc (Nat.le_refl _) _
  have HA := Lib.hid hA
  have HBB := Lib.hid hB
  have HOA := Lib.hid oka
  have HOB := Lib.hid okb
  have HIA := Lib.hid hna
  have HIB := Lib.hid hnb
  have HLA : Hid (a.length ≤ 100) := oka.len
  have HLB : Hid (b.length ≤ 100) := okb.len
  have HCN : Hid (cntN (gt a b 2) n = kb (msk a) (msk b)) := cnt_all (by rw [msk_length _ oka.wh, hna]) (by rw [msk_length _ okb.wh, hnb])
  have hla := HLA.out
  have hlb := HLB.out
  obtain ⟨g, HG⟩ : ∃ x, Hid (w.heap.size = x) := ⟨_, rfl⟩
  clear hA hB oka okb hna hnb
  go_enter Try.func22, Try.ntmps22
  go_wp2
  clear hmk
  generalize w.alloc (.cells (madeCells #[.bool false] n) 4) = w1 at HR0 HB0 ⊢
  rw [HG.out] at HR0 ⊢
  go_loopw [8] (fun tv wr => ∃ t : Nat, t ≤ 2 ∧ tv = .int .i64 t ∧ wr.rowIs g 4 n (fun j => .bool (gt a b t j)) ∧ Below w.heap.size w wr) (fun tv _ => 2 - (intOf tv).toNat)
  case atStart => exact ⟨0, by omega, rfl, HR0.out, HB0.out⟩
  case round =>
    obtain ⟨wq, hwq⟩ : ∃ x, x = wr := ⟨wr, rfl⟩
    subst hwq
    obtain ⟨t, ht, rfl, hr, hb⟩ := hrel
    have HR := Lib.hid hr
    have HB := Lib.hid hb
    clear hr hb
    rcases (show t = 0 ∨ t = 1 ∨ t = 2 by omega) with rfl | rfl | rfl
    · obtain ⟨G, HGG⟩ : ∃ G : Nat → Bool, Hid (gt a b 0 = G) := ⟨_, rfl⟩
      have HNX : Hid (gt a b 1 = gm G (msk a)) := by show _ = _; rw [← HGG.out]; rfl
      rw [HGG.out] at HR
      go_wp2
      go_loopw [10, 11] (fun av i wr => ∃ m : Nat, m ≤ a.length ∧ i = .int .i64 m ∧ av = .int .i64 ((msk (a.take m)).length : Int) ∧ wr.rowIs g 4 n (fun j => .bool (gm G (msk (a.take m)) j)) ∧ Below w.heap.size w wr) (fun _ i _ => a.length - (intOf i).toNat)
      case atStart => exact ⟨0, Nat.zero_le _, rfl, by rw [List.take_zero, msk_nil]; rfl, by rw [List.take_zero, msk_nil, gm_nil]; exact HR.out, HB.out⟩
      case round =>
        obtain ⟨w2, hw2⟩ : ∃ x, x = wr := ⟨wr, rfl⟩
        subst hw2
        obtain ⟨m, hm, rfl, rfl, hr, hb⟩ := hrel
        have HR2 := Lib.hid hr
        have HB2 := Lib.hid hb
        clear hr hb
        by_cases hlt : m < a.length
        · obtain ⟨b0, off, hA0, _⟩ := HA.out.1.form (by omega)
          subst hA0
          obtain ⟨x0, x1, _⟩ := (HA.out.1.below HB2.out).at_ hlt
          have HXX := Lib.hid (fun wr (h : Below w.heap.size w wr) => (HA.out.1.below h).at_ hlt)
          have HMS : Hid (msk (a.take (m + 1)) = msk (a.take m) ++ msk [a[m]]) := by show _ = _; rw [List.take_succ_eq_append_getElem hlt, msk_append]
          have HWH := Lib.hid (HOA.out.wh _ (List.getElem_mem hlt))
          have HLE : Hid ((msk (a.take (m + 1))).length ≤ n) := by
            show _ ≤ _
            have h1 : (msk a).length = n := by rw [msk_length _ HOA.out.wh, HIA.out]
            have h2 : msk a = msk (a.take (m + 1)) ++ msk (a.drop (m + 1)) := by rw [← msk_append, List.take_append_drop]
            rw [h2, List.length_append] at h1
            omega
          rw [HMS.out] at HLE
          generalize a[m] = c at x0 x1 HXX HMS HWH HLE
          obtain ⟨kd, N, tx⟩ := c
          simp only at x0 x1 HXX
          generalize msk (a.take m) = M at HR2 HMS HLE ⊢
          by_cases hk2 : kd = 2
          · subst hk2
            rw [msk_two rfl, msk_nil, List.append_nil] at HMS
            go_wp2
            go_roundw
            case rel => exact ⟨m + 1, by omega, by go_num, by rw [HMS.out], by rw [HMS.out]; exact HR2.out, HB2.out⟩
            case measure => simp [intOf]; omega
          · have g2 : (kd == 2) = false := beq_eq_false_iff_ne.2 hk2
            obtain ⟨p, hp, q, hq, hmq⟩ : ∃ p : Bool, (kd == 3) = !p ∧ ∃ q : Nat, N = (q : Int) ∧ msk [⟨kd, N, tx⟩] = List.replicate q p := by
              rcases HWH.out.cases with ⟨g, gn, _⟩ | ⟨g, gn, _⟩ | ⟨g, _⟩
              · simp only at g gn
                exact ⟨true, by rw [g]; rfl, N.toNat, by omega, by rw [msk_one g, msk_nil, List.append_nil]⟩
              · simp only at g gn
                exact ⟨false, by rw [g]; rfl, N.toNat, by omega, by rw [msk_three g, msk_nil, List.append_nil]⟩
              · exact absurd g hk2
            subst hq
            rw [hmq] at HMS HLE
            have hle : M.length + q ≤ n := by have := HLE.out; rw [List.length_append, List.length_replicate] at this; exact this
            obtain ⟨L, HL⟩ : ∃ x, Hid (M.length = x) := ⟨_, rfl⟩
            rw [HL.out] at hle ⊢
            clear hmq hk2 HWH x1 x0
            have x0 := (HXX.out w2 HB2.out).1
            go_wp2
            clear x0
            go_loopw [10, 12] (fun av kv wr => ∃ k : Nat, k ≤ q ∧ kv = .int .i64 k ∧ av = .int .i64 ((L + k : Nat) : Int) ∧ wr.rowIs g 4 n (fun j => .bool (gm G (M ++ List.replicate k p) j)) ∧ Below w.heap.size w wr) (fun _ kv _ => q - (intOf kv).toNat)
            case atStart => exact ⟨0, Nat.zero_le _, rfl, by rw [Nat.add_zero], by rw [List.replicate_zero, List.append_nil]; exact HR2.out, HB2.out⟩
            case round =>
              obtain ⟨k, hk, rfl, rfl, hr, hb⟩ := hrel
              have HR3 := Lib.hid hr
              have HB3 := Lib.hid hb
              obtain ⟨x0, x1, _⟩ := HXX.out wr hb
              clear hr hb
              by_cases hkq : k < q
              · have hc := HR3.out.cell (i := L + k) (by omega)
                have hfz := HR3.out.frozen (L + k)
                have hval : gm G (M ++ List.replicate k p) (L + k) = G (L + k) := by
                  have : (M ++ List.replicate k p).length = L + k := by rw [List.length_append, List.length_replicate, HL.out]
                  rw [← this, gm_at]
                simp only [hval] at hc
                have hset := fun v (hv : v = (G (L + k) || !p)) => (HR3.out.set (L + k) (.bool v)).congr (g := fun j => .bool (gm G (M ++ List.replicate (k + 1) p) j)) (fun j hj => by
                  have e : M ++ List.replicate (k + 1) p = (M ++ List.replicate k p) ++ [p] := by rw [List.replicate_succ', List.append_assoc]
                  have hl2 : (M ++ List.replicate k p).length = L + k := by rw [List.length_append, List.length_replicate, HL.out]
                  rw [e, gm_snoc, hl2]
                  by_cases hj2 : j = L + k
                  · rw [if_pos hj2, if_pos hj2, hv, hj2]
                  · rw [if_neg hj2, if_neg hj2])
                have HSET := Lib.hid hset
                have HGE : Hid (w.heap.size ≤ g) := by show _ ≤ _; have := HG.out; omega
                clear hset hval
                obtain ⟨u, HU⟩ : ∃ u, Hid (G (L + k) = u) := ⟨_, rfl⟩
                rw [HU.out] at hc HSET
                cases u with
                | true =>
                  have HR4 := Lib.hid (HSET.out true rfl)
                  have HB4 : Hid (Below w.heap.size w (wr.setCell ⟨g, L + k, none⟩ (.bool true))) := HB3.out.setCell (p := ⟨g, L + k, none⟩) HGE.out _
                  go_wp2
                  go_roundw
                  case rel => exact ⟨k + 1, by omega, by go_num, by go_num, HR4.out, HB4.out⟩
                  case measure => simp [intOf]; omega
                | false =>
                  have HR4 := Lib.hid (HSET.out (!p) rfl)
                  have HB4 : Hid (Below w.heap.size w (wr.setCell ⟨g, L + k, none⟩ (.bool (!p)))) := HB3.out.setCell (p := ⟨g, L + k, none⟩) HGE.out _
                  obtain ⟨np, HNP⟩ : ∃ x, Hid ((!p) = x) := ⟨_, rfl⟩
                  rw [HNP.out] at hp HR4 HB4
                  go_wp2
                  go_roundw
                  case rel => exact ⟨k + 1, by omega, by go_num, by go_num, HR4.out, HB4.out⟩
                  case measure => simp [intOf]; omega
              · have hke : k = q := by omega
                subst hke
                have HLM : Hid ((msk (a.take (m + 1))).length = L + k) := by show _ = _; rw [HMS.out, List.length_append, List.length_replicate, HL.out]
                clear x0
                go_wp2
                go_roundw
                case rel => exact ⟨m + 1, by omega, by go_num, by rw [HLM.out], by rw [HMS.out]; exact HR3.out, HB3.out⟩
                case measure => simp [intOf]; omega
        · have hml : a.take m = a := List.take_of_length_le (by omega)
          rw [hml] at HR2 ⊢
          clear hml
          go_wp2
          go_roundw
          case rel => exact ⟨1, by omega, by go_num, by rw [HNX.out]; exact HR2.out, HB2.out⟩
          case measure => simp [intOf]
    · obtain ⟨G, HGG⟩ : ∃ G : Nat → Bool, Hid (gt a b 1 = G) := ⟨_, rfl⟩
      have HNX : Hid (gt a b 2 = gm G (msk b)) := by show _ = _; rw [← HGG.out]; rfl
      rw [HGG.out] at HR
      go_wp2
      go_loopw [10, 11] (fun av i wr => ∃ m : Nat, m ≤ b.length ∧ i = .int .i64 m ∧ av = .int .i64 ((msk (b.take m)).length : Int) ∧ wr.rowIs g 4 n (fun j => .bool (gm G (msk (b.take m)) j)) ∧ Below w.heap.size w wr) (fun _ i _ => b.length - (intOf i).toNat)
      case atStart => exact ⟨0, Nat.zero_le _, rfl, by rw [List.take_zero, msk_nil]; rfl, by rw [List.take_zero, msk_nil, gm_nil]; exact HR.out, HB.out⟩
      case round =>
        obtain ⟨w2, hw2⟩ : ∃ x, x = wr := ⟨wr, rfl⟩
        subst hw2
        obtain ⟨m, hm, rfl, rfl, hr, hb⟩ := hrel
        have HR2 := Lib.hid hr
        have HB2 := Lib.hid hb
        clear hr hb
        by_cases hlt : m < b.length
        · obtain ⟨b0, off, hA0, _⟩ := HBB.out.1.form (by omega)
          subst hA0
          obtain ⟨x0, x1, _⟩ := (HBB.out.1.below HB2.out).at_ hlt
          have HXX := Lib.hid (fun wr (h : Below w.heap.size w wr) => (HBB.out.1.below h).at_ hlt)
          have HMS : Hid (msk (b.take (m + 1)) = msk (b.take m) ++ msk [b[m]]) := by show _ = _; rw [List.take_succ_eq_append_getElem hlt, msk_append]
          have HWH := Lib.hid (HOB.out.wh _ (List.getElem_mem hlt))
          have HLE : Hid ((msk (b.take (m + 1))).length ≤ n) := by
            show _ ≤ _
            have h1 : (msk b).length = n := by rw [msk_length _ HOB.out.wh, HIB.out]
            have h2 : msk b = msk (b.take (m + 1)) ++ msk (b.drop (m + 1)) := by rw [← msk_append, List.take_append_drop]
            rw [h2, List.length_append] at h1
            omega
          rw [HMS.out] at HLE
          generalize b[m] = c at x0 x1 HXX HMS HWH HLE
          obtain ⟨kd, N, tx⟩ := c
          simp only at x0 x1 HXX
          generalize msk (b.take m) = M at HR2 HMS HLE ⊢
          by_cases hk2 : kd = 2
          · subst hk2
            rw [msk_two rfl, msk_nil, List.append_nil] at HMS
            go_wp2
            go_roundw
            case rel => exact ⟨m + 1, by omega, by go_num, by rw [HMS.out], by rw [HMS.out]; exact HR2.out, HB2.out⟩
            case measure => simp [intOf]; omega
          · have g2 : (kd == 2) = false := beq_eq_false_iff_ne.2 hk2
            obtain ⟨p, hp, q, hq, hmq⟩ : ∃ p : Bool, (kd == 3) = !p ∧ ∃ q : Nat, N = (q : Int) ∧ msk [⟨kd, N, tx⟩] = List.replicate q p := by
              rcases HWH.out.cases with ⟨g, gn, _⟩ | ⟨g, gn, _⟩ | ⟨g, _⟩
              · simp only at g gn
                exact ⟨true, by rw [g]; rfl, N.toNat, by omega, by rw [msk_one g, msk_nil, List.append_nil]⟩
              · simp only at g gn
                exact ⟨false, by rw [g]; rfl, N.toNat, by omega, by rw [msk_three g, msk_nil, List.append_nil]⟩
              · exact absurd g hk2
            subst hq
            rw [hmq] at HMS HLE
            have hle : M.length + q ≤ n := by have := HLE.out; rw [List.length_append, List.length_replicate] at this; exact this
            obtain ⟨L, HL⟩ : ∃ x, Hid (M.length = x) := ⟨_, rfl⟩
            rw [HL.out] at hle ⊢
            clear hmq hk2 HWH x1 x0
            have x0 := (HXX.out w2 HB2.out).1
            go_wp2
            clear x0
            go_loopw [10, 12] (fun av kv wr => ∃ k : Nat, k ≤ q ∧ kv = .int .i64 k ∧ av = .int .i64 ((L + k : Nat) : Int) ∧ wr.rowIs g 4 n (fun j => .bool (gm G (M ++ List.replicate k p) j)) ∧ Below w.heap.size w wr) (fun _ kv _ => q - (intOf kv).toNat)
            case atStart => exact ⟨0, Nat.zero_le _, rfl, by rw [Nat.add_zero], by rw [List.replicate_zero, List.append_nil]; exact HR2.out, HB2.out⟩
            case round =>
              obtain ⟨k, hk, rfl, rfl, hr, hb⟩ := hrel
              have HR3 := Lib.hid hr
              have HB3 := Lib.hid hb
              obtain ⟨x0, x1, _⟩ := HXX.out wr hb
              clear hr hb
              by_cases hkq : k < q
              · have hc := HR3.out.cell (i := L + k) (by omega)
                have hfz := HR3.out.frozen (L + k)
                have hval : gm G (M ++ List.replicate k p) (L + k) = G (L + k) := by
                  have : (M ++ List.replicate k p).length = L + k := by rw [List.length_append, List.length_replicate, HL.out]
                  rw [← this, gm_at]
                simp only [hval] at hc
                have hset := fun v (hv : v = (G (L + k) || !p)) => (HR3.out.set (L + k) (.bool v)).congr (g := fun j => .bool (gm G (M ++ List.replicate (k + 1) p) j)) (fun j hj => by
                  have e : M ++ List.replicate (k + 1) p = (M ++ List.replicate k p) ++ [p] := by rw [List.replicate_succ', List.append_assoc]
                  have hl2 : (M ++ List.replicate k p).length = L + k := by rw [List.length_append, List.length_replicate, HL.out]
                  rw [e, gm_snoc, hl2]
                  by_cases hj2 : j = L + k
                  · rw [if_pos hj2, if_pos hj2, hv, hj2]
                  · rw [if_neg hj2, if_neg hj2])
                have HSET := Lib.hid hset
                have HGE : Hid (w.heap.size ≤ g) := by show _ ≤ _; have := HG.out; omega
                clear hset hval
                obtain ⟨u, HU⟩ : ∃ u, Hid (G (L + k) = u) := ⟨_, rfl⟩
                rw [HU.out] at hc HSET
                cases u with
                | true =>
                  have HR4 := Lib.hid (HSET.out true rfl)
                  have HB4 : Hid (Below w.heap.size w (wr.setCell ⟨g, L + k, none⟩ (.bool true))) := HB3.out.setCell (p := ⟨g, L + k, none⟩) HGE.out _
                  go_wp2
                  go_roundw
                  case rel => exact ⟨k + 1, by omega, by go_num, by go_num, HR4.out, HB4.out⟩
                  case measure => simp [intOf]; omega
                | false =>
                  have HR4 := Lib.hid (HSET.out (!p) rfl)
                  have HB4 : Hid (Below w.heap.size w (wr.setCell ⟨g, L + k, none⟩ (.bool (!p)))) := HB3.out.setCell (p := ⟨g, L + k, none⟩) HGE.out _
                  obtain ⟨np, HNP⟩ : ∃ x, Hid ((!p) = x) := ⟨_, rfl⟩
                  rw [HNP.out] at hp HR4 HB4
                  go_wp2
                  go_roundw
                  case rel => exact ⟨k + 1, by omega, by go_num, by go_num, HR4.out, HB4.out⟩
                  case measure => simp [intOf]; omega
              · have hke : k = q := by omega
                subst hke
                have HLM : Hid ((msk (b.take (m + 1))).length = L + k) := by show _ = _; rw [HMS.out, List.length_append, List.length_replicate, HL.out]
                clear x0
                go_wp2
                go_roundw
                case rel => exact ⟨m + 1, by omega, by go_num, by rw [HLM.out], by rw [HMS.out]; exact HR3.out, HB3.out⟩
                case measure => simp [intOf]; omega
        · have hml : b.take m = b := List.take_of_length_le (by omega)
          rw [hml] at HR2 ⊢
          clear hml
          go_wp2
          go_roundw
          case rel => exact ⟨2, by omega, by go_num, by rw [HNX.out]; exact HR2.out, HB2.out⟩
          case measure => simp [intOf]
    · go_wp2
      go_loopw [13, 14] (fun kv jv wr => ∃ q : Nat, q ≤ n ∧ jv = .int .i64 q ∧ kv = .int .i64 (cntN (gt a b 2) q : Int) ∧ wq = wr) (fun _ jv _ => n - (intOf jv).toNat)
      case atStart => exact ⟨0, Nat.zero_le _, rfl, by rw [show cntN (gt a b 2) 0 = 0 by unfold cntN; rfl]; rfl, rfl⟩
      case round =>
        obtain ⟨q, hq, rfl, rfl, rfl⟩ := hrel
        by_cases hlt : q < n
        · have hc : wq.cell? ⟨g, q, none⟩ = some (.bool (gt a b 2 q)) := HR.out.cell (i := q) hlt
          have HS : Hid (cntN (gt a b 2) (q + 1) = cntN (gt a b 2) q + (if gt a b 2 q = true then 0 else 1)) := by show _ = _; rw [cntN]
          have hle := cntN_le (gt a b 2) q
          generalize cntN (gt a b 2) q = z at HS hle ⊢
          generalize gt a b 2 q = u at hc HS
          cases u with
          | true =>
            have HS2 : Hid (cntN (gt a b 2) (q + 1) = z) := HS.out
            go_wp2
            go_roundw
            case rel => exact ⟨q + 1, by omega, by go_num, by rw [HS2.out], trivial⟩
            case measure => simp [intOf]; omega
          | false =>
            have HS2 : Hid (cntN (gt a b 2) (q + 1) = z + 1) := HS.out
            go_wp2
            go_roundw
            case rel => exact ⟨q + 1, by omega, by go_num, by rw [HS2.out]; rfl, trivial⟩
            case measure => simp [intOf]; omega
        · have hqn : q = n := by omega
          subst hqn
          rw [HCN.out]
          go_wp2
          go_ret
          exact ⟨rfl, HB.out⟩
end Go.Proofs.Ytakdcfjlhpponaa
