/- The document's own disk: the contract of Crash. Condition: fewer than 2^20 sectors and writes in the cache; each write of the cache is of a sector that there is. -/
import Derived.Test.YtnjgjkfdblpddaaCrashMath
import Derived.Deep.DeepCutAuto
namespace Go.Proofs.Ytnjgjkfdblpddaa
open Go.RowKit Go.Deep

/-- What the first loop holds behind k rounds: the kept writes in a row of its own. -/
def KeptRel (w2 : World) (rs : List (Nat × Value)) (p : Int) (k : Nat) (v : Value) (wr : World) : Prop :=
  wr.ownsRow w2.heap.size 76 2 v (keptN p rs k).length ((keptN p rs k).flatMap recCells) ∧ Below w2.heap.size w2 wr

/-- A sector's slice lies in none of the blocks G, and not in block b. -/
def Sec2 (G : Nat → Prop) (b : Nat) (w : World) (v : Value) (o : Option (List Nat)) : Prop := SecV G w v o ∧ ∀ x off n c, v = .slice (some ⟨x, off, none⟩) n c → x ≠ b
theorem Sec2.only {G : Nat → Prop} {b : Nat} {w w' : World} {v : Value} {o : Option (List Nat)} (h : Sec2 G b w v o) (ho : Only b w w') : Sec2 G b w' v o := by
  refine ⟨?_, h.2⟩
  rcases h.1 with h1 | ⟨l, x, off, c, h1, h2, h3, h4⟩
  · exact .inl h1
  · exact .inr ⟨l, x, off, c, h1, h2, h3.only ho (h.2 _ _ _ _ h2), h4⟩
theorem SecV.up {F G : Nat → Prop} {b : Nat} {w w' : World} {v : Value} {o : Option (List Nat)} (h : SecV F w v o) (hb : Below w.heap.size w w') (h1 : ∀ x, G x → F x ∨ w.heap.size ≤ x) (h2 : w.heap.size ≤ b) : Sec2 G b w' v o := by
  rcases h with ⟨e1, e2⟩ | ⟨l, x, off, c, e1, e2, hat, hf, h64, hby, hc⟩
  · exact ⟨.inl ⟨e1, e2⟩, fun x off n c e => by rw [e2] at e; cases e⟩
  · have hx : x < w.heap.size := by
      obtain ⟨x', off', e, hlt⟩ := hat.form (by omega)
      injection e with e
      injection e with e
      subst e
      exact hlt
    refine ⟨.inr ⟨l, x, off, c, e1, e2, hat.below hb, fun hG => (h1 x hG).elim hf (by omega), h64, hby, hc⟩, fun x' off' n' c' e => ?_⟩
    rw [e2] at e
    injection e with e
    injection e with e
    injection e with e
    omega
theorem SecV.less {F G : Nat → Prop} {w : World} {v : Value} {o : Option (List Nat)} (h : SecV G w v o) (hF : ∀ b, F b → G b) : SecV F w v o :=
  h.kept (Nat.le_refl _) (fun _ _ _ => rfl) fun b hb => .inl (hF b hb)
theorem own_ne_row {w : World} {base gm : Nat} {e t : TypeId} {size sz m c : Nat} {A : Option Addr} {n : Nat} {xs : List Value} {f : Nat → Value} (h : w.ownsRow base e size (.slice A m c) n xs) (hr : w.rowIs gm t sz f) (he : e ≠ t) : ∀ a, A = some a → a.block ≠ gm := by
  intro a ha e0
  subst ha
  rcases h.2 with ⟨h0, _⟩ | ⟨g', cap, cur, hv, hgb, hh, _⟩
  · cases h0
  · injection hv with hv _ _
    injection hv with hv
    subst hv
    simp only at e0
    subst e0
    obtain ⟨c, hc, _⟩ := hr
    rw [hh] at hc
    injection hc with hc
    injection hc with _ hc
    exact he hc
/-- What the second loop holds behind k rounds. -/
def LaidRel (G : Nat → Prop) (base b1 S k1 : Nat) (wr : World) (T : Int) (t : Nat) (Lf : List (Nat × List Nat)) (safe : List (Option (List Nat))) (k : Nat) (w' : World) : Prop :=
  Only b1 wr w' ∧ ∃ us, w'.ownsRow base 41 1 (.slice (some ⟨b1, 0, none⟩) S k1) S us ∧ Match (Sec2 G b1 w') us (laidN T t Lf safe k)

set_option maxHeartbeats 4000000 in
set_option maxRecDepth 100000 in
theorem refDiskCrash_any (F : Nat → Prop) (g : Nat) (D : DiskD) (hc : D.cache.length ≤ 1048576) (hs : D.safe.length ≤ 1048576) (hwf : D.WF) (A : Option Addr) (l : List Int) (c : Nat) (w : World) (hat : IntsAt w A l) (h : DiskAt F g D w) :
    Calls Try.prog 14 #[.pointer (some ⟨g, 0, none⟩), .slice A l.length c] w fun e w' => ∃ g', e = .returned (.pointer (some ⟨g', 0, none⟩)) ∧ w.heap.size ≤ g' ∧ g' < w'.heap.size ∧ (∀ F' : Nat → Prop, F' g' → (∀ b, F' b → F b ∨ b = g') → DiskAt F' g' (D.crash l) w') ∧ Below w.heap.size w w' := by
  have HAT := Lib.hid hat; clear hat
  have HWF := Lib.hid hwf; clear hwf
  have GP := Lib.hid (fun (w1 : World) (h : IntsAt w1 A l) (k : Nat) => refPick_any A l c k w1 h)
  obtain ⟨hfg, hfl, sA, sc, cA, cc, vs, rs, hr, hcs, hms, hcc, hmc⟩ := h
  have HFG := Lib.hid hfg; have HFL := Lib.hid hfl
  clear hfg hfl
  have HR := Lib.hid hr; have HCS := Lib.hid hcs; have HMS := Lib.hid hms; have HCC := Lib.hid hcc; have HMC := Lib.hid hmc
  have c0' : (w.alloc (.cells #[] 41)).cell? ⟨g, 0, none⟩ = some (.slice sA D.safe.length sc) := ((HR.out.alloc _).cell (i := 0) (by omega)).trans rfl
  have HGL : Hid (g < w.heap.size) := HR.out.lt
  obtain ⟨i0, hi0, hz0, hz1, hz2⟩ := info_parts bytes_info
  obtain ⟨i1, hj0, hj1, hj2, hj3⟩ := info_parts write_info
  clear hr hcs hms hcc hmc
  obtain ⟨p, HP⟩ : ∃ p, Hid (pk l 0 = p) := ⟨_, rfl⟩
  go_enter Try.func14, Try.ntmps14
  go_wp2_with (at_builtin
               refine wpList_append_cells rfl (.tmp 13) (.tmp 17) 56 rfl w.heap.size 41 i0 (.slice none 0 0) 1 24 Try.underlying56 hi0 hz0 hz1 hz2 rfl (by omega) (.slice (some ⟨w.heap.size, 0, none⟩) 0 0) 0 [] rfl (World.ownsRow_lit w #[] 0 (Nat.le_refl _) (by simp [maxLen]) rfl) sA D.safe.length sc vs rfl (by rw [HMS.out.1, Nat.mul_one]) (HCS.out.at_.alloc _) (vs_one HMS.out) (by simp only [maxLen]; omega) (by omega) (by simp) ?_
               intro v1 w1 ho1 hg1
               rw [List.nil_append, Nat.zero_add] at ho1
               obtain ⟨A1, k1, rfl⟩ := own_slice ho1
               have HO1 := Lib.hid ho1
               have HU1 : Hid (Below w.heap.size w w1) := ((Below.refl _ _).alloc (Nat.le_refl _) _).grown hg1 (by simp) (fun k hk => by simp [Value.ownBlock] at hk; omega)
               clear ho1 hg1 c0')
  have HD2 : Hid ((w1.alloc (.cells #[.slice A1 D.safe.length k1, .slice none 0 0, .int .i64 (-1), .bool false, .int .i64 0] 59)).rowIs w1.heap.size 59 5 (diskCells A1 D.safe.length k1 none 0 0 (-1) false 0)) :=
    (World.rowIs_alloc w1 #[.slice A1 D.safe.length k1, .slice none 0 0, .int .i64 (-1), .bool false, .int .i64 0] 59) _ fun i hi => by
      have : i = 0 ∨ i = 1 ∨ i = 2 ∨ i = 3 ∨ i = 4 := by simp at hi; omega
      rcases this with rfl | rfl | rfl | rfl | rfl <;> rfl
  have HB2 : Hid (Below w.heap.size w (w1.alloc (.cells #[.slice A1 D.safe.length k1, .slice none 0 0, .int .i64 (-1), .bool false, .int .i64 0] 59))) := HU1.out.alloc HU1.out.size _
  have HO2 := Lib.hid (HO1.out.alloc (.cells #[.slice A1 D.safe.length k1, .slice none 0 0, .int .i64 (-1), .bool false, .int .i64 0] 59))
  have HG2 : Hid (w.heap.size ≤ w1.heap.size ∧ w1.heap.size < (w1.alloc (.cells #[.slice A1 D.safe.length k1, .slice none 0 0, .int .i64 (-1), .bool false, .int .i64 0] 59)).heap.size) := ⟨HU1.out.size, by simp⟩
  generalize w1.alloc (.cells #[.slice A1 D.safe.length k1, .slice none 0 0, .int .i64 (-1), .bool false, .int .i64 0] 59) = w2 at HD2 HB2 HO2 HG2 ⊢
  generalize w1.heap.size = g2 at HD2 HG2 ⊢
  go_loopw [6, 7] (fun v i wr => ∃ k : Nat, k ≤ D.cache.length ∧ i = .int .i64 k ∧ KeptRel w2 rs p k v wr) (fun _ i _ => D.cache.length - (intOf i).toNat)
  case atStart => exact ⟨0, Nat.zero_le _, rfl, ⟨by simp [keptN_zero], .inl ⟨rfl, by simp [keptN_zero]⟩⟩, Below.refl _ _⟩
  case round =>
    obtain ⟨k, hk, rfl, hown, hbl⟩ := hrel
    have HOWN := Lib.hid hown; have HBL := Lib.hid hbl
    clear hown hbl
    have HBR : Hid (Below w.heap.size w wr) := HB2.out.trans (HBL.out.mono HB2.out.size)
    have HRW : Hid (wr.rowIs g 59 5 (diskCells sA D.safe.length sc cA D.cache.length cc D.left D.off D.ops)) := HR.out.of_block (HBR.out.block g HGL.out)
    have c1 : wr.cell? ⟨g, 1, none⟩ = some (.slice cA D.cache.length cc) := (HRW.out.cell (i := 1) (by omega)).trans rfl
    by_cases hlt : k < D.cache.length
    · obtain ⟨r, hrk, hr1, hr2⟩ := HMC.out.get hlt
      obtain ⟨cb, co, rfl, hcb⟩ := HCC.out.at_.form' (by rw [flat_length recCells 2 recCells_length, HMC.out.1]; omega)
      obtain ⟨q0, q1⟩ := rec_cells (HCC.out.only (Only.of_below HBR.out) HFG.out).at_ hrk
      have hrl : k < rs.length := by rw [HMC.out.1]; exact hlt
      have HRK : Hid (rs[k] = r) := (List.getElem?_eq_some_iff.1 hrk).2
      obtain ⟨r1, r2⟩ := r
      simp only at hr1 hr2 q0 q1
      clear hr1 hrk
      obtain ⟨A3, n3, c3, rfl⟩ : ∃ A n c, r2 = Value.slice A n c := by
        rcases hr2 with ⟨e, _⟩ | ⟨l, b, off, c, e, e2, _⟩
        · cases e
        · exact ⟨_, _, _, e2⟩
      clear hr2
      go_wp2_with fail
      refine (GP.out wr (HAT.out.below HBR.out) 0).mono ?_
      rintro e w' ⟨rfl, rfl⟩
      rw [HP.out]
      obtain ⟨Av, kv, rfl⟩ := own_slice HOWN.out
      have HLE := Lib.hid (keptN_le p rs k)
      cases hb : bitAt p k
      · have HN := Lib.hid (keptN_no (l := rs) hb)
        have hbb : (bits BinOp.and IntKind.i64 (p / 2 ^ (k % 30)) 1 == 1) = false := by rw [band1]; exact hb
        clear hb
        go_wp2
        go_roundw
        case measure => simp [intOf]; omega
        refine ⟨k + 1, by omega, rfl, ?_, HBL.out⟩
        rw [HN.out]
        exact HOWN.out
      · have HN := Lib.hid (keptN_yes hb hrl)
        have hbb : (bits BinOp.and IntKind.i64 (p / 2 ^ (k % 30)) 1 == 1) = true := by rw [band1]; exact hb
        clear hb
        rw [HRK.out] at HN
        have HFL : Hid (((keptN p rs k).flatMap recCells).length = (keptN p rs k).length * 2) := flat_length recCells 2 recCells_length _
        obtain ⟨n, hn⟩ : ∃ n, (keptN p rs k).length = n := ⟨_, rfl⟩
        rw [hn] at HOWN HLE HFL
        have HNL := Lib.hid hn
        rw [hn]
        have hle := HLE.out
        clear hn
        go_wp2_with (at_builtin
                     refine wpList_append_cells rfl (.tmp 37) (.tmp 45) 57 rfl w2.heap.size 76 i1 (.agg #[.int .i64 0, .slice none 0 0]) 2 32 Try.underlying57 hj0 hj1 hj2 hj3 rfl (by omega) (.slice Av n kv) n ((keptN p rs k).flatMap recCells) rfl (HOWN.out.alloc _) (some ⟨w'.heap.size, 0, none⟩) 1 1 [.int .i64 (r1 : Int), .slice A3 n3 c3] rfl rfl (.inr ⟨w'.heap.size, 0, rfl, by simp, fun j u hj => by rw [Nat.zero_add, cell_of_row _ _ _ _ _ _ (heap_alloc_new w' _)]; simpa using hj⟩) (fun u hu => by simp at hu; rcases hu with rfl | rfl <;> rfl) (by simp only [maxLen]; omega) (by omega) (by have := HBL.out.size; simp; omega) ?_
                     intro v4 w4 ho4 hg4
                     have HO4 := Lib.hid ho4
                     have HB4 : Hid (Below w2.heap.size w2 w4) := (HBL.out.alloc HBL.out.size _).grown hg4 (by have := HBL.out.size; simp; omega) (fun k hk => (HOWN.out.lt k hk).1)
                     clear ho4 hg4)
        go_wp2
        go_roundw
        case measure => simp [intOf]; omega
        refine ⟨k + 1, by omega, rfl, ?_, HB4.out⟩
        rw [HN.out, List.length_append, HNL.out, List.flatMap_append]
        exact HO4.out
    · obtain rfl : k = D.cache.length := by omega
      obtain ⟨Av, kv, rfl⟩ := own_slice HOWN.out
      have HKM := Lib.hid (HMC.out.kept p D.cache.length)
      have HLE := Lib.hid (keptN_le p D.cache D.cache.length)
      have HKW : Hid (∀ x ∈ keptN p D.cache D.cache.length, x.1 < D.safe.length) := fun x hx => HWF.out x (keptN_mem hx)
      have HCR : Hid (D.crash l = ⟨laidN (tornAt l (keptN p D.cache D.cache.length).length) (rnd (pk l 2) 65) (keptN p D.cache D.cache.length) D.safe (keptN p D.cache D.cache.length).length, [], -1, false, 0⟩) := by
        show _ = _
        rw [DiskD.crash, HP.out]
      have HTO : Hid (tornAt l (keptN p D.cache D.cache.length).length = if 0 < (keptN p D.cache D.cache.length).length ∧ 0 < pk l 1 then ((rnd (pk l 1) (keptN p D.cache D.cache.length).length : Nat) : Int) else -1) := rfl
      have hlen := HKM.out.1
      rw [hlen] at HOWN
      rw [hlen]
      clear hlen
      generalize keptN p D.cache D.cache.length = Lf at *
      generalize keptN p rs D.cache.length = ks at *
      have hlf := HLE.out
      obtain ⟨T, HT⟩ : ∃ T, Hid (tornAt l Lf.length = T) := ⟨_, rfl⟩
      rw [HT.out] at HCR HTO
      obtain ⟨n, HN⟩ : ∃ n, Hid (Lf.length = n) := ⟨_, rfl⟩
      rw [HN.out] at HTO HOWN HCR hlf
      rw [HN.out]
      obtain ⟨q1, HQ1⟩ : ∃ q, Hid (pk l 1 = q) := ⟨_, rfl⟩
      rw [HQ1.out] at HTO
      go_upto_region 9 with fail
      go_cut [54] (fun s54 wc => s54 = .bool (decide (0 < n ∧ 0 < q1)) ∧ wc = wr)
      case first =>
        by_cases h1 : 0 < n
        · go_wp2_with fail
          refine (GP.out wr (HAT.out.below HBR.out) 1).mono ?_
          rintro e w' ⟨rfl, rfl⟩
          rw [HQ1.out]
          go_wp2_with fail
          go_meet
          case rel => exact ⟨by simp [h1], rfl⟩
        · go_wp2_with fail
          go_meet
          case rel => exact ⟨by simp [h1], rfl⟩
      case rest =>
        obtain ⟨rfl, hwc⟩ := hcut
        subst wc
        go_upto_if 54 with fail
        go_cut [8] (fun s8 wc => s8 = .int .i64 T ∧ wc = wr)
        case first =>
          by_cases hT : 0 < n ∧ 0 < q1
          · rw [if_pos hT] at HTO
            have hq0 := hT.1
            rw [show decide (0 < n ∧ 0 < q1) = true from decide_eq_true hT]
            go_wp2_with fail
            refine (GP.out wr (HAT.out.below HBR.out) 1).mono ?_
            rintro e w' ⟨rfl, rfl⟩
            rw [HQ1.out]
            go_wp2_with fail
            refine (refRound_any q1 n hq0 (by omega) w').mono ?_
            rintro e w'' ⟨rfl, rfl⟩
            rw [← HTO.out]
            go_wp2_with fail
            go_meet
            case rel => exact ⟨rfl, rfl⟩
          · rw [if_neg hT] at HTO
            rw [show decide (0 < n ∧ 0 < q1) = false from decide_eq_false hT]
            have HT1 : Hid (T = -1) := HTO
            go_wp2_with fail
            go_meet
            case rel => exact ⟨by rw [HT1.out], rfl⟩
        case rest =>
          obtain ⟨rfl, hwc⟩ := hcut
          subst wc
          go_wp2_with fail
          have HGU : Hid (w.heap.size ≤ g2 ∧ g2 < w2.heap.size ∧ w2.heap.size ≤ wr.heap.size) := ⟨HG2.out.1, HG2.out.2, HBL.out.size⟩
          by_cases hn0 : n = 0
          · subst hn0
            go_loopw [9] (fun i w' => i = .int .i64 0 ∧ w' = wr) (fun _ _ => 0)
            case atStart => exact ⟨rfl, rfl⟩
            case round =>
              obtain ⟨rfl, rfl⟩ := hrel
              go_wp2
              go_ret
              rw [HCR.out, laidN_zero]
              have ho := own_below HO2.out HBL.out
              have hsz : g2 < wr.heap.size := Nat.lt_of_lt_of_le HG2.out.2 HBL.out.size
              refine ⟨g2, rfl, HG2.out.1, hsz, fun F' hg' hF' => ⟨hg', fun b hb => ?_, A1, k1, none, 0, vs, [], HD2.out.of_block (HBL.out.block g2 HG2.out.2), CellsAt.off (CellsAt.of_own ho) (fun a ha hf => ?_), HMS.out.mono fun x y h => (h.up (b := g2) HBR.out (fun b hb => (hF' b hb).imp id (fun e => Nat.le_trans HG2.out.1 (Nat.le_of_eq e.symm))) HG2.out.1).1, .inl rfl, Match.nil⟩, HBR.out⟩
              · rcases hF' b hb with h | h
                · exact Nat.lt_of_lt_of_le (HFL.out b h) HBR.out.size
                · exact h ▸ hsz
              · rcases hF' _ hf with h | h
                · subst ha
                  have h1 := (HO2.out.lt a.block rfl).1
                  have h2 := HFL.out _ h
                  omega
                · exact own_ne_row HO2.out HD2.out (by decide) a ha h
          obtain ⟨x0, hx0⟩ : ∃ x, Lf[0]? = some x := ⟨Lf[0]'(by have := HN.out; omega), List.getElem?_eq_getElem _⟩
          have hS : 0 < D.safe.length := by
            have := HKW.out x0 (List.mem_of_getElem? hx0)
            omega
          clear hx0 x0
          obtain ⟨b1, cb1, hv1, hge1, hlt1⟩ := HO2.out.form hS
          injection hv1 with hA1 _ hc1
          subst hA1 hc1
          have HB1 : Hid (w.heap.size ≤ b1 ∧ b1 < w2.heap.size ∧ b1 ≠ g2) := ⟨hge1, hlt1, own_ne_row HO2.out HD2.out (by decide) _ rfl⟩
          clear hge1 hlt1
          have HOW := Lib.hid (own_below HO2.out HBL.out)
          obtain ⟨W3, rfl⟩ : ∃ x, x = wr := ⟨_, rfl⟩
          have HD3 : Hid (W3.rowIs g2 59 5 (diskCells (some ⟨b1, 0, none⟩) D.safe.length k1 none 0 0 (-1) false 0)) := HD2.out.of_block (HBL.out.block g2 HG2.out.2)
          go_loopw [9] (fun i w' => ∃ k : Nat, k ≤ n ∧ i = .int .i64 k ∧ LaidRel (fun x => F x ∨ x = g2) w.heap.size b1 D.safe.length k1 W3 T (rnd (pk l 2) 65) Lf D.safe k w') (fun i _ => n - (intOf i).toNat)
          case atStart => exact ⟨0, Nat.zero_le _, rfl, Only.refl _ _, vs, HOW.out, by rw [laidN_zero]; exact HMS.out.mono fun x y h => h.up HBR.out (fun b hb => Or.imp id (fun e => Nat.le_trans HGU.out.1 (Nat.le_of_eq (Eq.symm e))) hb) HB1.out.1⟩
          case round =>
            obtain ⟨k, hk, rfl, hon, us, how, hmu⟩ := hrel
            have HON := Lib.hid hon; have HOU := Lib.hid how; have HMU := Lib.hid hmu
            clear hon how hmu
            have HBW : Hid (Below w.heap.size w wr) := HON.out.below HBR.out HB1.out.1
            have HD4 : Hid (wr.rowIs g2 59 5 (diskCells (some ⟨b1, 0, none⟩) D.safe.length k1 none 0 0 (-1) false 0)) := HD3.out.of_block (HON.out.block g2 (by have := HGU.out; omega) (Ne.symm HB1.out.2.2))
            by_cases hlt : k < n
            · have hlt' : k < Lf.length := by rw [HN.out]; exact hlt
              obtain ⟨r, hrk, hr1, hr2⟩ := HKM.out.get hlt'
              have hbl : ks.length = n := by rw [HKM.out.1, HN.out]
              obtain ⟨bv, cbv, hv2, hge2, hlt2⟩ := HOWN.out.form (by omega)
              injection hv2 with hA2 _ hc2
              subst hA2 hc2
              obtain ⟨q0, q1⟩ := rec_cells (((CellsAt.of_own HOWN.out).off (F := fun x => x = b1) (fun a ha => by injection ha with ha; subst ha; have := HB1.out; show ¬bv = b1; omega)).only HON.out rfl).at_ hrk
              rw [Nat.zero_add] at q0 q1
              have HBV : Hid (g2 ≠ b1 ∧ bv ≠ b1) := ⟨Ne.symm HB1.out.2.2, by have := HB1.out; omega⟩
              have HQ := Lib.hid (HKW.out _ (List.getElem_mem hlt'))
              have HLN := Lib.hid (laidN_next (torn := T) (t := rnd (pk l 2) 65) (s := D.safe) hlt')
              have HS1 := Lib.hid (hr2.up (G := fun x => F x ∨ x = g2) (b := b1) HBW.out (fun b hb => Or.imp id (fun e => Nat.le_trans HGU.out.1 (Nat.le_of_eq (Eq.symm e))) hb) HB1.out.1)
              obtain ⟨r1, r2⟩ := r
              simp only at hr1 hr2 q0 q1
              rw [← hr1] at HQ HLN
              obtain ⟨rb, ro, rc, rfl⟩ : ∃ rb ro rc, r2 = Value.slice (some ⟨rb, ro, none⟩) Lf[k].2.length rc := by
                rcases hr2 with ⟨e, _⟩ | ⟨l, b, off, c, e, e2, _⟩
                · cases e
                · injection e with e
                  rw [e]
                  exact ⟨_, _, _, e2⟩
              have HR1 := Lib.hid hr1
              clear hr1 hr2 hrk
              have HQ0 := Lib.hid q0
              clear q0
              go_upto_if 73 with fail
              go_cut [10] (fun s10 wc => Below wr.heap.size wr wc ∧ Sec2 (fun x => F x ∨ x = g2) b1 wc s10 (some (laidB T (rnd (pk l 2) 65) (laidN T (rnd (pk l 2) 65) Lf D.safe k) k Lf[k])))
              case first =>
                by_cases hkt : (k : Int) = T
                · have hkb : ((k : Int) == T) = true := by rw [hkt]; exact beq_self_eq_true T
                  have HKT := Lib.hid hkt
                  clear hkt
                  obtain ⟨uo, huo, hso⟩ := HMU.out.get (i := r1) (by rw [laidN_length]; exact HQ.out)
                  generalize hoo : (laidN T (rnd (pk l 2) 65) Lf D.safe k)[r1]'(by rw [laidN_length]; exact HQ.out) = o at hso
                  have HOO : Hid ((laidN T (rnd (pk l 2) 65) Lf D.safe k)[r1]? = some o) := by
                    show _ = _
                    rw [← hoo]; exact List.getElem?_eq_getElem _
                  clear hoo
                  have HSO := Lib.hid hso
                  have q2 : wr.cell? ⟨b1, 0 + r1, none⟩ = some uo := (CellsAt.of_own HOU.out).cell huo
                  rw [Nat.zero_add] at q2
                  have hoc : uo.oneCell' = true := by
                    rcases hso.1 with ⟨_, e⟩ | ⟨_, _, _, _, _, e, _⟩
                    · rw [e]; rfl
                    · rw [e]; rfl
                  clear hso huo
                  have hq1 := HQ.out
                  have c0 : wr.cell? ⟨g2, 0, none⟩ = some (.slice (some ⟨b1, 0, none⟩) D.safe.length k1) := (HD4.out.cell (i := 0) (by omega)).trans rfl
                  have q0 := HQ0.out
                  have e0 : ∀ e : ExtK (keepBlocks [g2, bv, b1]) wr.drew, e.val.cell? ⟨g2, 0, none⟩ = some (.slice (some ⟨b1, 0, none⟩) D.safe.length k1) := fun e => (cell_of_block (e.property.2 g2 (by simp)) 0).trans c0
                  have e2 : ∀ e : ExtK (keepBlocks [g2, bv, b1]) wr.drew, e.val.cell? ⟨bv, k * 2, none⟩ = some (.int .i64 (r1 : Int)) := fun e => (cell_of_block (e.property.2 bv (by simp)) _).trans q0
                  have e3 : ∀ e : ExtK (keepBlocks [g2, bv, b1]) wr.drew, e.val.cell? ⟨b1, r1, none⟩ = some uo := fun e => (cell_of_block (e.property.2 b1 (by simp)) _).trans q2
                  clear c0 q0 q1 q2
                  go_wp2_with fail
                  refine wp_region_held_lit (keepBlocks [g2, bv, b1]) [(0, true), (1, true), (2, true), (3, true), (4, true), (5, true), (6, true), (7, true), (8, true), (9, true), (10, true), (11, true)] (by kernel_rfl) (by kernel_rfl) (fun _ _ d _ _ h => by cases d <;> exact h) ?_
                  simp only [picked, List.map_cons, List.map_nil, List.getElem?_cons_succ, List.getElem?_cons_zero, Option.getD_some]
                  repeat (first | (refine wpH_quiet (by rfl) (fun K hK => ?_); go_big_quiet_op; refine hK _ ?_; clear hK K) | (refine wpH_skip (by rfl) ?_; simp only [Act.put, List.setIfInBounds_toArray, List.set_cons_zero, List.set_cons_succ]))
                  refine wpH_nil ?_
                  clear e0 e2 e3 hq1
                  have hqn := fun (A : Option Addr) (n c : Nat) (w : World) => eql_bytes_nil A n c w
                  have hmk : ∀ w : World, (Instr.makeSlice 41 (.int .i64 64) (.int .i64 64)).run Try.prog w = .ok (.slice (some ⟨w.heap.size, 0, none⟩) 64 64) (w.alloc (.cells (madeCells #[.int .u8 0] 64) 5)) := run_make_row' (P := Try.prog) 41 5 (.int .u8 0) 1 Try.underlying41 u8_info rfl .i64 .i64 64 (by omega) (by omega)
                  go_upto_region 17 with fail
                  go_cut [86] (fun s86 wc => s86 = .bool o.isNone ∧ wc = wr.drew)
                  case first =>
                    rcases HSO.out.1 with ⟨rfl, rfl⟩ | ⟨l2, x, off, c2, rfl, rfl, -⟩
                    all_goals
                      go_wp2_with fail
                      go_meet
                      case rel => exact ⟨rfl, rfl⟩
                  case rest =>
                    obtain ⟨rfl, hwc⟩ := hcut
                    subst wc
                    go_upto_if 86 with fail
                    go_cut [11] (fun s11 wc => Below wr.heap.size wr wc ∧ ∃ A2 c2, s11 = .slice A2 64 c2 ∧ BytesAt wc A2 (secB o) ∧ 64 ≤ c2)
                    case first =>
                      rcases HSO.out.1 with ⟨rfl, rfl⟩ | ⟨l2, x, off, c2, rfl, rfl, hat2, _, h64, _, hc2⟩
                      · go_wp2_with fail
                        go_meet
                        case rel =>
                          have hrow := World.rowIs_made wr (.int .u8 0) 64 5
                          refine ⟨⟨rfl, rfl, rfl, by simp, fun b hb => ((Below.refl wr.heap.size wr).alloc (Nat.le_refl _) _).block b hb⟩, _, 64, rfl, .inr ⟨wr.heap.size, 0, rfl, hrow.lt, fun j c hj => ?_⟩, Nat.le_refl _⟩
                          have hj64 : j < 64 := by have := (List.getElem?_eq_some_iff.1 hj).1; simpa [secB, noughts] using this
                          rw [Nat.zero_add]
                          have hc0 : (noughts)[j]? = some c := hj
                          rw [noughts, List.getElem?_replicate, if_pos hj64] at hc0
                          injection hc0 with hc0
                          rw [← hc0]
                          exact hrow.cell hj64
                      · have HA2 := Lib.hid hat2; have HC2 := Lib.hid hc2; have H64 := Lib.hid h64
                        clear hat2 hc2 h64
                        go_wp2_with fail
                        go_meet
                        case rel => exact ⟨⟨rfl, rfl, rfl, Nat.le_refl _, fun _ _ => rfl⟩, _, c2, by rw [H64.out], HA2.out, HC2.out⟩
                    case rest =>
                      obtain ⟨hbc, A2, c2, rfl, hat2, hc2⟩ := hcut
                      have HBC := Lib.hid hbc; have HA2 := Lib.hid hat2
                      have HBWC : Hid (Below w.heap.size w wc) := HBW.out.trans (HBC.out.mono HBW.out.size)
                      clear hbc hat2
                      obtain ⟨q2, HQ2⟩ : ∃ q, Hid (pk l 2 = q) := ⟨_, rfl⟩
                      go_wp2_with fail
                      refine (GP.out wc (HAT.out.below HBWC.out) 2).mono ?_
                      rintro e w' ⟨rfl, rfl⟩
                      rw [HQ2.out]
                      go_wp2_with fail
                      refine (refRound_any q2 65 (by omega) (by omega) w').mono ?_
                      rintro e w'' ⟨rfl, rfl⟩
                      have ht := rnd_lt q2 (n := 65) (by omega)
                      obtain ⟨t, HTT⟩ : ∃ t, Hid (rnd q2 65 = t) := ⟨_, rfl⟩
                      rw [HTT.out] at ht ⊢
                      have HH64 : Hid (Lf[k].2.length = 64 ∧ 64 ≤ rc ∧ (∀ x ∈ Lf[k].2, x < 256) ∧ BytesAt wr (some ⟨rb, ro, none⟩) Lf[k].2) := by
                        rcases HS1.out.1 with ⟨e, _⟩ | ⟨l2, x, off, c3, e1, e2, h1, _, h2, h3, h4⟩
                        · cases e
                        · injection e1 with e1
                          injection e2 with e2 _ e4
                          injection e2 with e2
                          injection e2 with e2 e3
                          subst e2 e3 e4
                          rw [e1]
                          exact ⟨h2, h4, h3, h1⟩
                      have hsh : ∀ w : World, (Instr.slice 41 (.slice (some ⟨rb, ro, none⟩) Lf[k].2.length rc) none (some (.int .i64 (t : Int))) none).run Try.prog w = .ok (.slice (addrHigh (some ⟨rb, ro, none⟩) rc) t rc) w := fun w => slice_high _ _ _ t (by have := HH64.out.2.1; omega) w
                      have hsl : ∀ w : World, (Instr.slice 41 (.slice A2 64 c2) (some (.int .i64 (t : Int))) none none).run Try.prog w = .ok (.slice (addrLow A2 t c2) (64 - t) (c2 - t)) w := fun w => slice_low _ _ _ t (by omega) w
                      go_wp2_with fail
                      refine wp_region_held_lit (keepBlocks []) [(1, true), (2, true), (3, true), (5, true), (6, true), (7, true), (0, false), (4, false), (8, false), (9, true)] (by kernel_rfl) (by kernel_rfl) (fun _ _ d _ _ h => by cases d <;> exact h) ?_
                      simp only [picked, List.map_cons, List.map_nil, List.getElem?_cons_succ, List.getElem?_cons_zero, Option.getD_some]
                      repeat (first | (refine wpH_quiet (by rfl) (fun K hK => ?_); go_big_quiet_op; refine hK _ ?_; clear hK K) | (refine wpH_skip (by rfl) ?_; simp only [Act.put, List.setIfInBounds_toArray, List.set_cons_zero, List.set_cons_succ]))
                      refine wpH_one (by rfl) (fun K hK => ?_)
                      go_simp
                      refine hK _ _ ⟨by simp, fun b hb => by simp at hb⟩ ?_
                      clear hK K
                      have htl : (Lf[k].2.take t).length = t := by rw [List.length_take, HH64.out.1]; omega
                      have hs64 : (secB o).length = 64 := by
                        rcases HSO.out.1 with ⟨rfl, _⟩ | ⟨l2, x, off, c3, rfl, _, _, _, h64, _⟩
                        · simp [secB, noughts]
                        · exact h64
                      have hdl : ((secB o).drop t).length = 64 - t := by rw [List.length_drop, hs64]
                      have HW5 : Hid (Below wr.heap.size wr (w''.alloc (.cells #[] 5)).drew) := ⟨HBC.out.os, HBC.out.tape, HBC.out.output, by have := HBC.out.size; simp; omega, fun b hb => (HBC.out.alloc HBC.out.size (.cells #[] 5)).block b hb⟩
                      have HO5 : Hid ((w''.alloc (.cells #[] 5)).drew.ownsRow wr.heap.size 5 1 (.slice (some ⟨w''.heap.size, 0, none⟩) 0 0) 0 (u8s [])) := own_base (World.ownsRow_lit w'' #[] 0 (Nat.le_refl _) (by simp [maxLen]) rfl) HBC.out.size
                      have HT1 : Hid (BytesAt (w''.alloc (.cells #[] 5)).drew (addrHigh (some ⟨rb, ro, none⟩) rc) (Lf[k].2.take t)) := (HH64.out.2.2.2.below HW5.out).high rc t
                      have HA5 : Hid (BytesAt (w''.alloc (.cells #[] 5)).drew A2 (secB o)) := HA2.out.alloc (.cells #[] 5)
                      have HV5 : Hid (Below w''.heap.size w'' (w''.alloc (.cells #[] 5)).drew) := ⟨rfl, rfl, rfl, by simp, fun b hb => ((Below.refl w''.heap.size w'').alloc (Nat.le_refl _) (.cells #[] 5)).block b hb⟩
                      generalize (w''.alloc (.cells #[] 5)).drew = W5 at HW5 HV5 HO5 HT1 HA5 ⊢
                      refine wpH_one (by rfl) (fun K hK => ?_)
                      refine wp_append_bytes (.tmp 91) (.tmp 94) rfl wr.heap.size (.slice (some ⟨w''.heap.size, 0, none⟩) 0 0) 0 [] rfl HO5.out (addrHigh (some ⟨rb, ro, none⟩) rc) (Lf[k].2.take t) rc (by rw [htl]; rfl) HT1.out (by omega) HW5.out.size ?_
                      intro v6 W6 hap6
                      have HB6 := Lib.hid (hap6.below HW5.out HW5.out.size (fun k hk => (HO5.out.lt k hk).1)).1
                      have HO6 := Lib.hid hap6.1
                      have HR6 := Lib.hid hap6.2.1
                      have HB56 : Hid (W5.heap.size ≤ W6.heap.size) := hap6.2.1.size
                      have HV6 := Lib.hid (hap6.below HV5.out HV5.out.size (fun k hk => by simp [Value.ownBlock] at hk; omega)).1
                      clear hap6
                      rw [List.nil_append, Nat.zero_add, htl] at HO6
                      have HA6 : Hid (BytesAt W6 (addrLow A2 t c2) ((secB o).drop t)) := (HA2.out.below HV6.out).low c2 t (by omega)
                      refine hK _ _ ⟨HB56.out, fun b hb => by simp at hb⟩ ?_
                      clear hK K
                      simp only [Act.put, List.setIfInBounds_toArray, List.set_cons_zero, List.set_cons_succ]
                      refine wpH_one (by rfl) (fun K hK => ?_)
                      refine wp_append_bytes (.tmp 95) (.tmp 98) rfl wr.heap.size v6 t (Lf[k].2.take t) rfl HO6.out (addrLow A2 t c2) ((secB o).drop t) (c2 - t) (by rw [hdl]; rfl) HA6.out (by omega) HB6.out.size ?_
                      intro v7 W7 hap7
                      have HB7 := Lib.hid (hap7.below HB6.out HB6.out.size (fun k hk => (HO6.out.lt k hk).1)).1
                      have HO7 := Lib.hid hap7.1
                      have hsz7 := hap7.2.1.size
                      clear hap7
                      rw [hdl, show t + (64 - t) = 64 by omega] at HO7
                      obtain ⟨A7, k7, rfl⟩ := own_slice HO7.out
                      refine hK _ _ ⟨hsz7, fun b hb => by simp at hb⟩ ?_
                      clear hK K
                      simp only [Act.put, List.setIfInBounds_toArray, List.set_cons_zero, List.set_cons_succ]
                      refine wpH_quiet (by rfl) (fun K hK => ?_)
                      go_big_quiet_op
                      refine hK _ ?_
                      clear hK K
                      refine wpH_nil ?_
                      go_wp2_with fail
                      go_meet
                      case rel =>
                        have hlb : laidB T (rnd (pk l 2) 65) (laidN T (rnd (pk l 2) 65) Lf D.safe k) k Lf[k] = Lf[k].2.take t ++ (secB o).drop t := by
                          rw [laidB, if_pos HKT.out, ← HR1.out, HOO.out, HQ2.out, HTT.out]; rfl
                        rw [hlb]
                        have hl7 : (Lf[k].2.take t ++ (secB o).drop t).length = 64 := by rw [List.length_append, htl, hdl]; omega
                        obtain ⟨b7, cap7, hv7, hge7, hlt7⟩ := HO7.out.form (by omega)
                        injection hv7 with hA7 _ hc7
                        subst hA7 hc7
                        have hcap : 64 ≤ k7 := by
                          rcases HO7.out.2 with ⟨h', h0⟩ | ⟨g', cap', cur, h', _, _, h1, h2, _⟩
                          · omega
                          · injection h' with _ _ h'
                            omega
                        have hby : ∀ x ∈ Lf[k].2.take t ++ (secB o).drop t, x < 256 := by
                          intro x hx
                          rcases List.mem_append.1 hx with hx | hx
                          · exact HH64.out.2.2.1 x (List.mem_of_mem_take hx)
                          · have hx := List.mem_of_mem_drop hx
                            rcases HSO.out.1 with ⟨rfl, _⟩ | ⟨l2, _, _, _, rfl, _, _, _, _, hb2, _⟩
                            · rw [secB, Option.getD_none, noughts] at hx
                              rw [List.eq_of_mem_replicate hx]; omega
                            · exact hb2 x hx
                        have hgb : w2.heap.size ≤ wr.heap.size := by have := HON.out.size; have := HGU.out; omega
                        refine ⟨HB7.out, .inr ⟨_, b7, 0, k7, rfl, by rw [hl7], BytesAt.of_own HO7.out hl7.symm, (fun h => by have h1 := HGU.out; have h2 := HBW.out.size; rcases h with h | h; (have h3 := HFL.out _ h; omega); (omega)), hl7, hby, hcap⟩, fun x off n' c' e => ?_⟩
                        injection e with e
                        injection e with e
                        injection e with e
                        have := HB1.out
                        omega
                · have hkb : ((k : Int) == T) = false := beq_eq_false_iff_ne.2 hkt
                  have HLB : Hid (laidB T (rnd (pk l 2) 65) (laidN T (rnd (pk l 2) 65) Lf D.safe k) k Lf[k] = Lf[k].2) := by
                    show _ = _
                    rw [laidB, if_neg hkt]
                  go_wp2_with fail
                  go_meet
                  case rel =>
                    rw [HLB.out]
                    exact ⟨Below.refl _ _, HS1.out⟩
              case rest =>
                obtain ⟨hbc, hsc⟩ := hcut
                obtain ⟨A3, n3, c3, rfl⟩ : ∃ A n c, u10 = Value.slice A n c := by
                  rcases hsc.1 with ⟨e, _⟩ | ⟨l, b, off, c, e, e2, _⟩
                  · cases e
                  · exact ⟨_, _, _, e2⟩
                have HBC := Lib.hid hbc; have HSC := Lib.hid hsc
                clear hbc hsc
                have HONC : Hid (Only b1 W3 wc) := HON.out.trans (Only.of_below HBC.out)
                have HOC := Lib.hid (own_below HOU.out HBC.out)
                have HMC2 : Hid (Match (Sec2 (fun x => F x ∨ x = g2) b1 wc) us (laidN T (rnd (pk l 2) 65) Lf D.safe k)) := HMU.out.mono fun x y h => h.only (Only.of_below HBC.out)
                obtain ⟨uo, sc0, sf0⟩ := own_cell HOC.out HQ.out
                have hbw : g2 < wr.heap.size ∧ bv < wr.heap.size := by have := HON.out.size; have := HGU.out; omega
                have c0 : wc.cell? ⟨g2, 0, none⟩ = some (.slice (some ⟨b1, 0, none⟩) D.safe.length k1) := ((HD4.out.of_block (HBC.out.block g2 hbw.1)).cell (i := 0) (by omega)).trans rfl
                have q0 : wc.cell? ⟨bv, k * 2, none⟩ = some (.int .i64 (r1 : Int)) := (cell_of_block (HBC.out.block bv hbw.2) _).trans HQ0.out
                clear hbw q1
                have hq1 := HQ.out
                have e0 : ∀ e : ExtK (keepBlocks [g2, bv]) wc.drew, e.val.cell? ⟨g2, 0, none⟩ = some (.slice (some ⟨b1, 0, none⟩) D.safe.length k1) := fun e => (cell_of_block (e.property.2 g2 (by simp)) 0).trans c0
                have e2 : ∀ e : ExtK (keepBlocks [g2, bv]) wc.drew, e.val.cell? ⟨bv, k * 2, none⟩ = some (.int .i64 (r1 : Int)) := fun e => (cell_of_block (e.property.2 bv (by simp)) _).trans q0
                clear c0 q0
                go_wp2_with fail
                refine wp_region_held_lit (keepBlocks [g2, bv]) [(0, true), (1, true), (2, true), (3, true), (4, true), (5, true), (6, true), (7, true), (8, true), (9, true), (10, true), (11, false)] (by kernel_rfl) (by kernel_rfl) (fun _ _ d _ _ h => by cases d <;> exact h) ?_
                simp only [picked, List.map_cons, List.map_nil, List.getElem?_cons_succ, List.getElem?_cons_zero, Option.getD_some]
                repeat (first | (refine wpH_quiet (by rfl) (fun K hK => ?_); go_big_quiet_op; refine hK _ ?_; clear hK K) | (refine wpH_skip (by rfl) ?_; simp only [Act.put, List.setIfInBounds_toArray, List.set_cons_zero, List.set_cons_succ]))
                refine wpH_one (by rfl) (fun K hK => ?_)
                go_simp
                refine hK _ _ (keep_two (by simp) (Below.heap_setCell wc ⟨b1, r1, none⟩ _ g2 HBV.out.1) (Below.heap_setCell wc ⟨b1, r1, none⟩ _ bv HBV.out.2)) ?_
                clear hK K
                refine wpH_nil ?_
                have HNX : Hid (LaidRel (fun x => F x ∨ x = g2) w.heap.size b1 D.safe.length k1 W3 T (rnd (pk l 2) 65) Lf D.safe (k + 1) (wc.setCell ⟨b1, r1, none⟩ (.slice A3 n3 c3)).drew) := by
                  have hst : Only b1 wc (wc.setCell ⟨b1, r1, none⟩ (.slice A3 n3 c3)).drew := ((Only.refl b1 wc).set r1 _).drew
                  refine ⟨HONC.out.trans hst, us.set r1 (.slice A3 n3 c3), own_set HOC.out _, ?_⟩
                  rw [HLN.out]
                  exact (HMC2.out.mono fun x y h => h.only hst).set r1 (HSC.out.only hst)
                go_wp2
                go_roundw
                case measure => simp [intOf]; omega
                exact ⟨k + 1, by omega, rfl, HNX.out⟩
            · obtain rfl : k = n := by omega
              go_wp2
              go_ret
              rw [HCR.out]
              have hsz : g2 < wr.heap.size := by have h1 := HGU.out; have h2 := HON.out.size; omega
              refine ⟨g2, rfl, HG2.out.1, hsz, fun F' hg' hF' => ⟨hg', fun b hb => ?_, some ⟨b1, 0, none⟩, k1, none, 0, us, [], ?_, CellsAt.off (CellsAt.of_own HOU.out) (fun a ha hf => ?_), HMU.out.mono fun x y h => h.1.less hF', .inl rfl, Match.nil⟩, HBW.out⟩
              · rcases hF' b hb with h | h
                · exact Nat.lt_of_lt_of_le (HFL.out b h) HBW.out.size
                · exact h ▸ hsz
              · rw [laidN_length]
                exact HD4.out
              · injection ha with ha
                subst ha
                rcases hF' _ hf with h | h
                · have h1 := HFL.out _ h
                  have h2 := HB1.out.1
                  exact absurd h1 (Nat.not_lt.2 h2)
                · exact HB1.out.2.2 h
end Go.Proofs.Ytnjgjkfdblpddaa
