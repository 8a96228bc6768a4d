/- Whatever is moved wherever, nobody stands within itself, each path leads to who has it, and none is lost: TreeCycles answers true and changes nothing. No condition. -/
import Derived.Test.YtkckgchohnkkpaaGreatDoorMCyc
import Derived.Test.YtkckgchohnkkpaaGreatDoorMWays
import Derived.Test.YtkckgchohnkkpaaGreatDoorMKit
import Derived.Test.YtkckgchohnkkpaaGreatDoorMAl
import Derived.Test.YtkckgchohnkkpaaGreatDoorMTTreeOwn
import Derived.Test.YtkckgchohnkkpaaGreatDoorMMono
import Derived.BigQuiet
import Derived.Laws.Cover1
/- Whatever is moved wherever, nobody stands within itself, each path leads to who has it, and none is lost: TreeCycles answers true and changes nothing. No condition. -/
namespace Go.Proofs.YtkckgchohnkkpaaGreatDoor
open Go.RowKit Go.Deep

theorem CycS.drew {W : World} {g gn : Nat} {A : Option Addr} {l : List Int} {T : List NodeV} {wr : World} (h : CycS W g gn A l T wr) : CycS W g gn A l T wr.drew := ⟨h.tree.drew, h.row, h.ints.drew, Below.drew h.bel, h.new⟩
set_option maxHeartbeats 8000000 in
set_option maxRecDepth 100000 in
theorem treeCycles_any (A : Option Addr) (l : List Int) (c : Nat) (_ : l.length ≤ maxLen) (hg : ∀ x ∈ l, -9223372036854775808 ≤ x ∧ x ≤ 9223372036854775807) (w : World) (hA : IntsAt w A l) :
    Calls Tryz.prog 6 #[.slice A l.length c] w fun e w' => e = .returned (.bool true) ∧ Below w.heap.size w w' := by
  have GA := Lib.hid (fun w => awake_any w)
  by_cases hlong : 60 < l.length
  · have hlI : (60 : Int) < (l.length : Int) := by omega
    clear hg hA hlong
    go_enter Tryz.func6, Tryz.ntmps6
    go_wp2_with fail
    refine (GA.out _).mono ?_
    rintro e x1 ⟨rfl, hb⟩
    go_wp2
    go_ret
    exact ⟨rfl, hb⟩

  · have hlI : ¬ (60 : Int) < (l.length : Int) := by omega
    have HA := Lib.hid hA
    have GN := Lib.hid (fun w => new_any w)
    clear hA
    go_enter Tryz.func6, Tryz.ntmps6
    go_wp2_with fail
    refine (GN.out _).mono ?_
    rintro e x1 ⟨rfl, ht, hb⟩
    have hbl := (Below.refl x1.heap.size x1).alloc (Nat.le_refl _) (.cells #[.string { data := #[97] }, .string { data := #[98] }, .string { data := #[99] }, .string { data := #[100] }, .string { data := #[101] }, .string { data := #[102] }] 9)
    have HS : Hid (CycS w w.heap.size x1.heap.size A l [] (x1.alloc (.cells #[.string { data := #[97] }, .string { data := #[98] }, .string { data := #[99] }, .string { data := #[100] }, .string { data := #[101] }, .string { data := #[102] }] 9))) := ⟨ht.below hbl, World.alloc_heap_new _ _, (HA.out.below hb).below hbl, hb.trans (hbl.mono hb.size), Nat.le_refl _, by have := ht.lt; omega⟩
    clear hbl HA ht hb
    go_wp2_with fail
    go_loopw [5] (fun i wr => ∃ (k : Nat) (T : List NodeV), k ≤ 6 ∧ i = .int .i64 (k : Int) ∧ Hid (TreeM T) ∧ Hid (Dirs k T) ∧ Hid (CycS w w.heap.size x1.heap.size A l T wr)) (fun i _ => 6 - (intOf i).toNat)
    case atStart => exact ⟨0, [], by omega, rfl, Lib.hid TreeM.nil, Lib.hid dirs_nil, HS⟩
    case round =>
      clear HS
      obtain ⟨k, T, hk, rfl, HM, HD, HS⟩ := hrel
      by_cases hlt : k < 6
      · skip
        have hkI : (k : Int) < 6 := by omega
        obtain ⟨hdo, hdirs⟩ := dirs_more HD.out (by omega)
        have hM2 := HM.out.does ⟨1, (k : Int) + 1, 0, [97 + k], true, none, 0, []⟩
        rw [hdo] at hM2
        have GT := Lib.hid (fun w' h => tDo (g := w.heap.size) hdo HM.out (actOk_plain (by unfold Fit64; omega) (by unfold Fit64; omega) (by unfold Fit64; omega) (by simp; omega) (by simp)) w' h (comps_none w'))
        have HM2 := Lib.hid hM2
        have HD2 := Lib.hid hdirs
        have cn := HS.out.name hlt
        clear hdo hdirs hM2
        go_wp2_with fail
        refine (GT.out _ HS.out.tree).mono ?_
        rintro e x2 ⟨rfl, ht, ho⟩
        replace HS := Lib.hid (HS.out.does ht ho)
        clear ht ho
        go_wp2_with fail
        go_roundw
        case rel => exact ⟨k + 1, _, by omega, by go_num, HM2, HD2, HS⟩
        case measure => simp [intOf]; omega

      · have hk6 : k = 6 := by omega
        replace HD : Hid (Dirs 6 T) := by rw [hk6] at HD; exact HD
        clear hk6
        obtain ⟨w5, hw5⟩ : ∃ x, x = wr := ⟨wr, rfl⟩
        subst hw5
        go_wp2_with fail
        go_loopw [6, 7, 8, 9, 10, 11, 12, 13, 14] (fun i s7 s8 s9 s10 s11 s12 s13 s14 wr => ∃ (k : Nat) (T : List NodeV), k ≤ l.length ∧ i = .int .i64 (k : Int) ∧ s7 = s7 ∧ s8 = s8 ∧ s9 = s9 ∧ s10 = s10 ∧ s11 = s11 ∧ s12 = s12 ∧ s13 = s13 ∧ s14 = s14 ∧ Hid (TreeM T) ∧ Hid (Dirs 6 T) ∧ Hid (CycS w w.heap.size x1.heap.size A l T wr)) (fun i _ _ _ _ _ _ _ _ _ => l.length - (intOf i).toNat)
        case atStart => exact ⟨0, T, Nat.zero_le _, rfl, rfl, rfl, rfl, rfl, rfl, rfl, rfl, rfl, HM, HD, HS⟩
        case round =>
          clear HS HM HD
          obtain ⟨k, T2, hk, rfl, _, _, _, _, _, _, _, _, HM, HD, HS⟩ := hrel
          by_cases hlt : k < l.length
          · skip
            obtain ⟨b, off, rfl, _⟩ := HS.out.ints.form (by omega)
            have hltI : (k : Int) < (l.length : Int) := by omega
            have HY : Hid (∀ T X, CycS w w.heap.size x1.heap.size (some ⟨b, off, none⟩) l T X → X.cell? ⟨b, off + k, none⟩ = some (.int .i64 l[k])) := fun T X h => h.ints.cell hlt
            have hv := hg _ (List.getElem_mem hlt)
            generalize l[k] = v at HY hv
            obtain ⟨i, hi⟩ : ∃ i, Hid (rnd v 6 = i) := ⟨_, Lib.hid rfl⟩
            obtain ⟨tg, htg⟩ : ∃ tg, Hid (rnd (v.tdiv 6) 7 = tg) := ⟨_, Lib.hid rfl⟩
            have hi6 : i < 6 := by rw [← hi.out]; exact rnd_lt v (by omega)
            have ht7 : tg < 7 := by rw [← htg.out]; exact rnd_lt _ (by omega)
            have GR1 := Lib.hid (fun w => alikeRound_any v 6 (by omega) (by omega) w)
            have GR2 := Lib.hid (fun w => alikeRound_any (v.tdiv 6) 7 (by omega) (by omega) w)
            rw [hi.out] at GR1
            rw [htg.out] at GR2
            clear hi htg
            obtain ⟨p, q, X, u, hp, hq, hpb, hqb, hdo, hX, hDX, hway⟩ := cyc_ways HM.out HD.out (by omega) hi6 (show tg ≤ 6 by omega)
            have hpl := path_len HM.out hp
            have hql := path_len HM.out hq
            have GP := Lib.hid (path_told HM.out hp w.heap.size)
            have GQ := Lib.hid (path_told HM.out hq w.heap.size)
            have GT := Lib.hid (fun w' h => tDo (g := w.heap.size) hdo HM.out (actOk_plain (by unfold Fit64; omega) (by unfold Fit64; omega) (by unfold Fit64; omega) (by simp; omega) (by simp)) w' h (comps_none w'))
            have HX := Lib.hid hX
            have HDX := Lib.hid hDX
            replace hpb := Lib.hid hpb
            replace hqb := Lib.hid hqb
            have hpz := bstr_size p
            have hqz := bstr_size q
            replace hway := Lib.hid hway
            clear hp hq hdo hX hDX
            have HN : Hid (∀ T X, CycS w w.heap.size x1.heap.size (some ⟨b, off, none⟩) l T X → X.cell? ⟨x1.heap.size, i, none⟩ = some (.string (bstr [97 + i]))) := fun T X h => h.name hi6
            have hI1 : (1 : Int) + (i : Int) = (i : Int) + 1 := Int.add_comm _ _
            go_wp2_with fail
            refine wp_region_lit [(0, true), (1, true), (2, true), (3, true), (6, true), (7, true), (8, true), (9, true), (10, true), (4, false), (5, true), (11, false), (12, true), (13, true)] (by kernel_rfl) (by kernel_rfl) (fun _ _ d _ _ h => by cases d <;> exact h) ?_
            simp only [picked, List.map_cons, List.map_nil, List.getElem?_cons_succ, List.getElem?_cons_zero, Option.getD_some]
            replace HS := Lib.hid HS.out.drew
            generalize wr.drew = wd at HS ⊢
            have q0 := fun e : Ext wd => HY.out T2 e.val (HS.out.below e.property)
            repeat (refine wpL_quiet (by rfl) (fun K hK => ?_); go_big_quiet_op; refine hK _ ?_; clear hK K)
            clear q0
            refine wpL_call (by rfl) (fun K hK => ?_)
            go_simp
            refine (GR1.out _).mono ?_
            rintro e x2 ⟨rfl, rfl⟩
            refine hK _ _ (Below.refl _ _) ?_
            clear hK K
            repeat (refine wpL_quiet (by rfl) (fun K hK => ?_); go_big_quiet_op; refine hK _ ?_; clear hK K)
            refine wpL_call (by rfl) (fun K hK => ?_)
            go_simp
            refine (GR2.out _).mono ?_
            rintro e x3 ⟨rfl, rfl⟩
            refine hK _ _ (Below.refl _ _) ?_
            clear hK K
            repeat (refine wpL_quiet (by rfl) (fun K hK => ?_); go_big_quiet_op; refine hK _ ?_; clear hK K)
            refine wpL_nil ?_
            clear hI1
            go_wp2_with fail
            refine (GP.out _ HS.out.tree).mono ?_
            rintro e x4 ⟨rfl, hb⟩
            replace HS := Lib.hid (HS.out.below hb)
            clear hb
            go_wp2_with fail
            refine (GQ.out _ HS.out.tree).mono ?_
            rintro e x5 ⟨rfl, hb⟩
            replace HS := Lib.hid (HS.out.below hb)
            clear hb
            have cn := HN.out T2 _ HS.out
            go_wp2_with fail
            refine (GT.out _ HS.out.tree).mono ?_
            rintro e x6 ⟨rfl, ht, ho⟩
            replace HS := Lib.hid (HS.out.does ht ho)
            clear ht ho cn
            clear GP GQ GT GR1 GR2 HM HD HN HY
            rcases hway.out with ⟨rfl, h0, hq⟩ | ⟨rfl, h0, r, hq⟩ | ⟨rfl, hlq⟩ | ⟨rfl, h0, hle, hq⟩ | ⟨rfl, h0, d, r, hd, hq⟩
            · clear hway
              have htz : ((tg : Int) != 0) = true := by simp; omega
              subst hq
              have hge : (q.length : Int) ≤ (q.length : Int) := Int.le_refl _
              have hsl : ∀ w, (Instr.slice 9 (.string (bstr q)) none (some (.int .i64 (q.length : Int))) none).run Tryz.prog w = .ok (.string (bstr q)) w := fun w => by have := slice_bstr_to q q.length (Nat.le_refl _) w; rwa [List.take_length] at this
              go_wp2_with fail
              go_roundw
              case rel => exact ⟨k + 1, X, by omega, by go_num, trivial, trivial, trivial, trivial, trivial, trivial, trivial, trivial, HX, HDX, HS⟩
              case measure => simp [intOf]; omega

            · clear hway
              have htz : ((tg : Int) != 0) = true := by simp; omega
              have hge : (p.length : Int) ≤ (q.length : Int) := by rw [hq, List.length_append]; omega
              have hneq : ((q.length : Int) == (p.length : Int)) = false := by rw [hq, List.length_append, List.length_cons]; simp; omega
              have hsl : ∀ w, (Instr.slice 9 (.string (bstr q)) none (some (.int .i64 (p.length : Int))) none).run Tryz.prog w = .ok (.string (bstr p)) w := fun w => by have := slice_bstr_to q p.length (by omega) w; rwa [hq, List.take_left, ← hq] at this
              have hix : ∀ w, (Instr.index 9 (.string (bstr q)) (.int .i64 (p.length : Int))).run Tryz.prog w = .ok (.int .u8 47) w := fun w => byte_at (c := 47) (t := r) hqb.out (by rw [hq, List.drop_left]) w
              clear hq
              go_wp2_with fail
              go_roundw
              case rel => exact ⟨k + 1, X, by omega, by go_num, trivial, trivial, trivial, trivial, trivial, trivial, trivial, trivial, HX, HDX, HS⟩
              case measure => simp [intOf]; omega

            · clear hway
              by_cases h0 : tg = 0
              · subst h0
                have hge : ¬ (p.length : Int) ≤ (q.length : Int) := by omega
                go_wp2_with fail
                go_roundw
                case rel => exact ⟨k + 1, X, by omega, by go_num, trivial, trivial, trivial, trivial, trivial, trivial, trivial, trivial, HX, HDX, HS⟩
                case measure => simp [intOf]; omega

              · skip
                have htz : ((tg : Int) != 0) = true := by simp; omega
                have hge : ¬ (p.length : Int) ≤ (q.length : Int) := by omega
                go_wp2_with fail
                go_roundw
                case rel => exact ⟨k + 1, X, by omega, by go_num, trivial, trivial, trivial, trivial, trivial, trivial, trivial, trivial, HX, HDX, HS⟩
                case measure => simp [intOf]; omega

            · clear hway
              have htz : ((tg : Int) != 0) = true := by simp; omega
              have hge : (p.length : Int) ≤ (q.length : Int) := by omega
              have hsl : ∀ w, (Instr.slice 9 (.string (bstr q)) none (some (.int .i64 (p.length : Int))) none).run Tryz.prog w = .ok (.string (bstr (q.take p.length))) w := fun w => slice_bstr_to q p.length hle w
              have hne : ((bstr (q.take p.length)).toList == (bstr p).toList) = false := bstr_neq fun h => hq (bstr_inj _ _ (fun x hx => hqb.out x (List.mem_of_mem_take hx)) hpb.out h)
              clear hq hle
              generalize q.take p.length = s at hsl hne
              go_wp2_with fail
              go_roundw
              case rel => exact ⟨k + 1, X, by omega, by go_num, trivial, trivial, trivial, trivial, trivial, trivial, trivial, trivial, HX, HDX, HS⟩
              case measure => simp [intOf]; omega

            · clear hway
              have htz : ((tg : Int) != 0) = true := by simp; omega
              have hge : (p.length : Int) ≤ (q.length : Int) := by rw [hq, List.length_append]; omega
              have hneq : ((q.length : Int) == (p.length : Int)) = false := by rw [hq, List.length_append, List.length_cons]; simp; omega
              have hsl : ∀ w, (Instr.slice 9 (.string (bstr q)) none (some (.int .i64 (p.length : Int))) none).run Tryz.prog w = .ok (.string (bstr p)) w := fun w => by have := slice_bstr_to q p.length (by omega) w; rwa [hq, List.take_left, ← hq] at this
              have hix : ∀ w, (Instr.index 9 (.string (bstr q)) (.int .i64 (p.length : Int))).run Tryz.prog w = .ok (.int .u8 (d : Int)) w := fun w => byte_at (c := d) (t := r) hqb.out (by rw [hq, List.drop_left]) w
              have hd47 : ((d : Int) == 47) = false := by simp; omega
              clear hq hd
              go_wp2_with fail
              go_roundw
              case rel => exact ⟨k + 1, X, by omega, by go_num, trivial, trivial, trivial, trivial, trivial, trivial, trivial, trivial, HX, HDX, HS⟩
              case measure => simp [intOf]; omega


          · obtain rfl : k = l.length := by omega
            obtain ⟨w6, hw6⟩ : ∃ x, x = wr := ⟨wr, rfl⟩
            subst hw6
            go_wp2_with fail
            go_loopw [15, 16, 17, 18, 19] (fun i s16 s17 s18 s19 wr => ∃ j : Nat, 1 ≤ j ∧ j ≤ 7 ∧ i = .int .i64 (j : Int) ∧ s16 = s16 ∧ s17 = s17 ∧ s18 = s18 ∧ s19 = s19 ∧ Hid (CycS w w.heap.size x1.heap.size A l T2 wr)) (fun i _ _ _ _ _ => 7 - (intOf i).toNat)
            case atStart => exact ⟨1, by omega, by omega, rfl, rfl, rfl, rfl, rfl, HS⟩
            case round =>
              clear HS
              obtain ⟨j, hj1, hj, rfl, _, _, _, _, HS⟩ := hrel
              by_cases hlt : j < 7
              · obtain ⟨x, hx, ex⟩ := dirs_at HD.out (show j - 1 < 6 by omega)
                have ex2 : x.id = (j : Int) := by rw [ex]; omega
                obtain ⟨s, hs, _⟩ := seek_path HM.out hx
                have GF := Lib.hid (find_path HM.out hx hs w.heap.size)
                rw [ex2] at GF hs
                have GP := Lib.hid (path_told HM.out hs w.heap.size)
                have hj6 : (j : Int) ≤ 6 := by omega
                have e3 : ((j : Int) != (j : Int)) = false := by simp
                clear hx ex ex2 hs
                go_wp2_with fail
                refine (GP.out _ HS.out.tree).mono ?_
                rintro e x7 ⟨rfl, hb⟩
                replace HS := Lib.hid (HS.out.below hb)
                clear hb
                go_wp2_with fail
                refine (GF.out _ HS.out.tree).mono ?_
                rintro e x8 ⟨rfl, hb⟩
                replace HS := Lib.hid (HS.out.below hb)
                clear hb
                go_wp2_with fail
                go_roundw
                case rel => exact ⟨j + 1, by omega, by omega, by go_num, trivial, trivial, trivial, trivial, HS⟩
                case measure => simp [intOf]; omega
              · obtain rfl : j = 7 := by omega
                obtain ⟨w7, hw7⟩ : ∃ x, x = wr := ⟨wr, rfl⟩
                subst hw7
                have GS := Lib.hid (fun (w' : World) h => nodes_any (some ⟨w.heap.size, 0, none⟩) T2 (by rw [HD.out.1]; omega) HM.out.slim w' h)
                rw [HD.out.1] at GS
                go_wp2_with fail
                refine (GS.out _ HS.out.tree.ptr).mono ?_
                rintro e x9 ⟨A', c', rfl, _, hb⟩
                replace HS := Lib.hid (HS.out.below hb)
                clear hb
                go_wp2_with fail
                refine (GA.out _).mono ?_
                rintro e x10 ⟨rfl, hb⟩
                replace HS := Lib.hid (HS.out.below hb)
                clear hb
                go_wp2
                go_ret
                exact ⟨rfl, HS.out.bel⟩



end Go.Proofs.YtkckgchohnkkpaaGreatDoor
