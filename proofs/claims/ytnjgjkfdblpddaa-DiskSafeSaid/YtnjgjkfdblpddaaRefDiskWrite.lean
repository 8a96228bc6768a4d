/- The document's own disk: the contract of Write. Condition: fewer than 2^20 writes in the cache, fewer than 2^40 acts. -/
import Derived.Test.YtnjgjkfdblpddaaRefDisk
import Derived.Test.YtnjgjkfdblpddaaAppend
import Derived.Test.YtnjgjkfdblpddaaOwn
namespace Go.Proofs.Ytnjgjkfdblpddaa
open Go.RowKit Go.Deep

def DiskD.write (D : DiskD) (at_ : Int) (l : List Nat) : DiskD × Nat :=
  if D.act.2 ≠ 0 then D.act else if at_ < 0 ∨ (D.safe.length : Int) ≤ at_ ∨ l.length ≠ 64 then (D.act.1, 1) else (⟨D.safe, D.cache ++ [(at_.toNat, l)], D.act.1.left, D.act.1.off, D.act.1.ops⟩, 0)
theorem act_safe (D : DiskD) : D.act.1.safe = D.safe ∧ D.act.1.cache = D.cache := by unfold DiskD.act; split <;> exact ⟨rfl, rfl⟩
theorem write_info : (Try.prog.info? 76).map (fun i => (i.zero, i.size, i.bytes)) = some (some (.agg #[.int .i64 0, .slice none 0 0]), 2, 32) := by kernel_rfl
theorem BytesAt.onlyA {g : Nat} {w w' : World} {A : Option Addr} {l : List Nat} (h : BytesAt w A l) (ho : Only g w w') (hA : ∀ a, A = some a → a.block ≠ g) : BytesAt w' A l := by
  cases A with
  | none =>
    rcases h with h | ⟨_, _, e, _⟩
    · exact .inl h
    · cases e
  | some a =>
    rcases h with h | ⟨b, off, e, hlt, hc⟩
    · exact .inl h
    · rw [e] at hA ⊢
      exact BytesAt.only (.inr ⟨b, off, rfl, hlt, hc⟩) ho (hA _ rfl)
theorem own_off {w : World} {base g : Nat} {e : TypeId} {size : Nat} {A : Option Addr} {n c : Nat} {xs : List Value} (h : w.ownsRow base e size (.slice A n c) n xs) (hg : g < base) : ∀ a, A = some a → a.block ≠ g := by
  intro a ha
  subst ha
  have := h.lt a.block rfl
  omega
theorem own_far {F : Nat → Prop} {w : World} {base : Nat} {e : TypeId} {size : Nat} {A : Option Addr} {n c : Nat} {xs : List Value} (h : w.ownsRow base e size (.slice A n c) n xs) (hF : ∀ b, F b → b < base) : ∀ a, A = some a → ¬F a.block := by
  intro a ha hf
  subst ha
  have := h.lt a.block rfl
  have := hF _ hf
  omega
theorem rs_one {g : Nat → Prop} {w : World} {rs : List (Nat × Value)} {cache : List (Nat × List Nat)} (h : Match (fun (r : Nat × Value) p => r.1 = p.1 ∧ SecV g w r.2 (some p.2)) rs cache) : ∀ u ∈ rs.flatMap recCells, u.oneCell' = true := by
  intro u hu
  obtain ⟨r, hr, hu⟩ := List.mem_flatMap.1 hu
  obtain ⟨i, hi⟩ := List.getElem?_of_mem hr
  have hl : i < cache.length := by rw [← h.1]; exact (List.getElem?_eq_some_iff.1 hi).1
  have h2 := (h.2 i r cache[i] hi (List.getElem?_eq_getElem hl)).2
  simp only [recCells, List.mem_cons, List.not_mem_nil, or_false] at hu
  rcases hu with rfl | rfl
  · rfl
  · rcases h2 with ⟨_, e⟩ | ⟨_, _, _, _, _, e, _⟩
    · rw [e]; rfl
    · rw [e]; rfl

set_option maxHeartbeats 2000000 in
set_option maxRecDepth 100000 in
theorem refDiskWrite_any (F : Nat → Prop) (g : Nat) (D : DiskD) (hops : D.ops ≤ 1099511627776) (hleft : -1 ≤ D.left ∧ D.left ≤ 9223372036854775807) (hc : D.cache.length ≤ 1048576) (at_ : Int) (A : Option Addr) (l : List Nat) (c : Nat) (hl : l.length ≤ 1048576) (hb : ∀ x ∈ l, x < 256) (w : World) (hat : BytesAt w A l) (hA : ∀ a, A = some a → a.block ≠ g) (h : DiskAt F g D w) :
    Calls Try.prog 24 #[.pointer (some ⟨g, 0, none⟩), .int .i64 at_, .slice A l.length c] w fun e w' => e = .returned (.int .i64 ((D.write at_ l).2 : Nat)) ∧ DiskAt F g (D.write at_ l).1 w' ∧ Only g w w' := by
  have GA := Lib.hid (refAct_any F g D hops hleft w h)
  have HGL := Lib.hid h.lt
  clear h
  have HE : Hid (D.write at_ l = if D.act.2 ≠ 0 then D.act else if at_ < 0 ∨ (D.safe.length : Int) ≤ at_ ∨ l.length ≠ 64 then (D.act.1, 1) else (⟨D.safe, D.cache ++ [(at_.toNat, l)], D.act.1.left, D.act.1.off, D.act.1.ops⟩, 0)) := rfl
  have hsf := act_safe D
  obtain ⟨X, HX⟩ : ∃ X, Hid (D.act = X) := ⟨_, rfl⟩
  rw [HX.out] at GA HE hsf
  obtain ⟨⟨S, C, L, O, K⟩, E⟩ := X
  simp only at GA HE hsf
  obtain ⟨hS, hC⟩ := hsf
  subst hS hC
  have HAT := Lib.hid hat; have HAN := Lib.hid hA; have HBY := Lib.hid hb
  clear hat hA hb
  by_cases hE : E = 0
  · subst hE
    rw [if_neg (by simp)] at HE
    by_cases h1 : at_ < 0
    · have e : Hid (D.write at_ l = (⟨D.safe, D.cache, L, O, K⟩, 1)) := by show _ = _; rw [HE.out, if_pos (.inl h1)]
      rw [e.out]
      go_enter Try.func24, Try.ntmps24
      go_wp2_with fail
      refine GA.out.mono ?_
      rintro e w1 ⟨rfl, hd, ho⟩
      have HD := Lib.hid hd; have HO := Lib.hid ho; clear hd ho
      go_wp2
      go_ret
      exact ⟨rfl, HD.out, HO.out⟩
    obtain ⟨q, rfl⟩ : ∃ q : Nat, at_ = (q : Int) := ⟨at_.toNat, by omega⟩
    by_cases h2 : D.safe.length ≤ q
    · have e : Hid (D.write q l = (⟨D.safe, D.cache, L, O, K⟩, 1)) := by show _ = _; rw [HE.out, if_pos (.inr (.inl (by omega)))]
      rw [e.out]
      go_enter Try.func24, Try.ntmps24
      go_wp2_with fail
      refine GA.out.mono ?_
      rintro e w1 ⟨rfl, hd, ho⟩
      have HD := Lib.hid hd; have HO := Lib.hid ho; clear hd ho
      obtain ⟨_, _, sA, sc, cA, cc, vs, rs, hr, _⟩ := HD.out
      have c0 : w1.cell? ⟨g, 0, none⟩ = some (.slice sA D.safe.length sc) := (hr.cell (i := 0) (by omega)).trans rfl
      clear hr
      go_wp2
      go_ret
      exact ⟨rfl, HD.out, HO.out⟩
    by_cases h3 : l.length = 64
    · have e : Hid (D.write q l = (⟨D.safe, D.cache ++ [(q, l)], L, O, K⟩, 0)) := by show _ = _; rw [HE.out, if_neg (by omega), Int.toNat_natCast]
      rw [e.out]
      obtain ⟨i0, hi0, hz0, hz1, hz2⟩ := info_parts write_info
      have h3' : ((l.length : Int) != 64) = false := by rw [h3]; rfl
      have HL64 := Lib.hid h3; clear h3
      go_enter Try.func24, Try.ntmps24
      go_wp2_with fail
      refine GA.out.mono ?_
      rintro e w1 ⟨rfl, hd, ho⟩
      have HD := Lib.hid hd; have HO := Lib.hid ho; clear hd ho
      obtain ⟨hfg, hfl, sA, sc, cA, cc, vs, rs, hr, hcs, hms, hcc, hmc⟩ := HD.out
      have HFG := Lib.hid hfg; have HFL := Lib.hid hfl
      clear hfg hfl
      have HR := Lib.hid hr; have HCS := Lib.hid hcs; have HMS := Lib.hid hms; have HCC := Lib.hid hcc; have HMC := Lib.hid hmc
      have c0 : w1.cell? ⟨g, 0, none⟩ = some (.slice sA D.safe.length sc) := (hr.cell (i := 0) (by omega)).trans rfl
      have c1 : w1.cell? ⟨g, 1, none⟩ = some (.slice cA D.cache.length cc) := (hr.cell (i := 1) (by omega)).trans rfl
      have f1 := hr.frozen 1
      clear hr hcs hms hcc hmc
      have c1' : (w1.alloc (.cells #[] 76)).cell? ⟨g, 1, none⟩ = some (.slice cA D.cache.length cc) := ((HR.out.alloc _).cell (i := 1) (by omega)).trans rfl
      have HGL1 : Hid (g < w1.heap.size) := HR.out.lt
      have HLR : Hid ((rs.flatMap recCells).length = D.cache.length * 2) := by
        show _ = _
        rw [flat_length recCells 2 recCells_length, HMC.out.1]
      go_wp2_with (at_builtin
                   first
                   | (refine wpList_append_cells rfl (.tmp 30) (.tmp 34) 57 rfl w1.heap.size 76 i0 (.agg #[.int .i64 0, .slice none 0 0]) 2 32 Try.underlying57 hi0 hz0 hz1 hz2 rfl (by omega) (.slice (some ⟨w1.heap.size, 0, none⟩) 0 0) 0 [] rfl (World.ownsRow_lit w1 #[] 0 (Nat.le_refl _) (by simp [maxLen]) rfl) cA D.cache.length cc (rs.flatMap recCells) rfl HLR.out (HCC.out.at_.alloc _) (rs_one HMC.out) (by simp only [maxLen]; omega) (by omega) (by simp) ?_
                      intro v2 w2 ho2 hg2
                      rw [List.nil_append, Nat.zero_add] at ho2
                      obtain ⟨A2, k2, rfl⟩ := own_slice ho2
                      have HO2 := Lib.hid ho2
                      have HU2 : Hid (Below w1.heap.size w1 w2) := ((Below.refl _ _).alloc (Nat.le_refl _) _).grown hg2 (by simp) (fun k hk => by simp [Value.ownBlock] at hk; omega)
                      clear ho2 hg2 c1')
                   | (refine wpList_append_bytes rfl (.tmp 37) (.tmp 38) rfl w2.heap.size (.slice (some ⟨w2.heap.size, 0, none⟩) 0 0) 0 [] rfl (World.ownsRow_lit w2 #[] 0 (Nat.le_refl _) (by simp [maxLen]) rfl) A l c rfl (((HAT.out.onlyA HO.out HAN.out).below HU2.out).alloc _) (by omega) (by simp) ?_
                      intro v3 w3 hap3
                      have hb3 := hap3.below (balloc (Below.refl _ _) _) (by simp) (fun k hk => by simp [Value.ownBlock] at hk; omega)
                      have ho3 := hap3.1
                      rw [List.nil_append, Nat.zero_add] at ho3
                      obtain ⟨A3, k3, rfl⟩ := own_slice ho3
                      have HO3 := Lib.hid ho3
                      have HB3 := Lib.hid hb3.1
                      have HO2b := Lib.hid (own_below HO2.out hb3.1)
                      clear hap3 hb3 ho3)
                   | (refine wpList_append_cells rfl (.tmp 35) (.tmp 41) 57 rfl w1.heap.size 76 i0 (.agg #[.int .i64 0, .slice none 0 0]) 2 32 Try.underlying57 hi0 hz0 hz1 hz2 rfl (by omega) (.slice A2 D.cache.length k2) D.cache.length (rs.flatMap recCells) rfl (HO2b.out.alloc _) (some ⟨w3.heap.size, 0, none⟩) 1 1 [.int .i64 (q : Int), .slice A3 l.length k3] rfl rfl (.inr ⟨w3.heap.size, 0, rfl, by simp, fun j u hj => by rw [Nat.zero_add, cell_of_row _ _ _ _ _ _ (heap_alloc_new w3 _)]; simpa using hj⟩) (fun u hu => by simp at hu; rcases hu with rfl | rfl <;> rfl) (by simp only [maxLen]; omega) (by omega) (by have := HU2.out.size; have := HB3.out.size; simp; omega) ?_
                      intro v4 w4 ho4 hg4
                      obtain ⟨A4, k4, rfl⟩ := own_slice ho4
                      have HO4 := Lib.hid ho4
                      have HG4 := Lib.hid hg4
                      have HU3 : Hid (Below w1.heap.size w1 w3) := HU2.out.trans (HB3.out.mono HU2.out.size)
                      have HU4 : Hid (Below w1.heap.size w1 w4) := (HU3.out.trans (((Below.refl _ _).alloc (Nat.le_refl _) _).mono HU3.out.size)).grown hg4 (by have := HU3.out.size; simp; omega) (fun k hk => (HO2.out.lt k hk).1)
                      have HR4 : Hid (w4.rowIs g 59 5 (diskCells sA D.safe.length sc cA D.cache.length cc L O K)) := HR.out.of_block (HU4.out.block g HGL1.out)
                      have HA3 : Hid (w4.ownsRow w2.heap.size 5 1 (.slice A3 l.length k3) l.length (u8s l)) := own_grown (HO3.out.alloc _) (HO2b.out.alloc _) (by decide) hg4
                      have k4c : w4.cell? ⟨g, 1, none⟩ = some (.slice cA D.cache.length cc) := (HR4.out.cell (i := 1) (by omega)).trans rfl
                      have k4f := HR4.out.frozen 1
                      clear ho4 hg4))
      go_wp2
      go_ret
      have hof : Only g w1 (w4.setCell ⟨g, 1, none⟩ (.slice A4 (D.cache.length + 1) k4)) := (Only.of_below HU4.out).set 1 _
      have ho5 := ownsRow_setCell_below HO4.out (a := ⟨g, 1, none⟩) HGL1.out (.slice A4 (D.cache.length + 1) k4)
      have ho6 := ownsRow_setCell_below HA3.out (a := ⟨g, 1, none⟩) (Nat.lt_of_lt_of_le HGL1.out HU2.out.size) (.slice A4 (D.cache.length + 1) k4)
      have hcap : 64 ≤ k3 := by
        have h64 := HL64.out
        rcases ho6.2 with ⟨h', h0⟩ | ⟨g', cap', cur, h', _, _, h1, h2, _⟩
        · omega
        · injection h' with _ _ h'
          omega
      have hat3 := BytesAt.of_own ho6 rfl
      obtain ⟨b3, o3, rfl, _⟩ := hat3.form (by have := HL64.out; omega)
      refine ⟨rfl, ⟨HFG.out, fun b hb => Nat.lt_of_lt_of_le (HFL.out b hb) hof.size, sA, sc, A4, k4, vs, rs ++ [(q, .slice (some ⟨b3, o3, none⟩) l.length k3)], (HR4.out.set 1 _).congr fun i hi => ?_, HCS.out.only hof HFG.out, HMS.out.mono fun x y h => h.only hof HFG.out, CellsAt.off ?_ (own_far ho5 HFL.out), (HMC.out.mono fun x y h => ⟨h.1, h.2.only hof HFG.out⟩).snoc ⟨rfl, .inr ⟨l, b3, o3, k3, rfl, rfl, hat3, own_far ho6 (fun b hb => Nat.lt_of_lt_of_le (HFL.out b hb) HU2.out.size) _ rfl, HL64.out, HBY.out, hcap⟩⟩⟩, HO.out.trans hof⟩
      · have : i = 0 ∨ i = 1 ∨ i = 2 ∨ i = 3 ∨ i = 4 := by omega
        rcases this with rfl | rfl | rfl | rfl | rfl
        · rfl
        · show Value.slice A4 (D.cache.length + 1) k4 = .slice A4 (D.cache ++ [(q, l)]).length k4
          rw [List.length_append]; rfl
        all_goals rfl
      · have := CellsAt.of_own ho5
        simpa [List.flatMap_append, recCells] using this
    · have e : Hid (D.write q l = (⟨D.safe, D.cache, L, O, K⟩, 1)) := by show _ = _; rw [HE.out, if_pos (.inr (.inr h3))]
      rw [e.out]
      have h3' : ((l.length : Int) != 64) = true := by simp; omega
      go_enter Try.func24, Try.ntmps24
      go_wp2_with fail
      refine GA.out.mono ?_
      rintro e w1 ⟨rfl, hd, ho⟩
      have HD := Lib.hid hd; have HO := Lib.hid ho; clear hd ho
      obtain ⟨_, _, sA, sc, cA, cc, vs, rs, hr, _⟩ := HD.out
      have c0 : w1.cell? ⟨g, 0, none⟩ = some (.slice sA D.safe.length sc) := (hr.cell (i := 0) (by omega)).trans rfl
      clear hr
      go_wp2
      go_ret
      exact ⟨rfl, HD.out, HO.out⟩
  · have e : Hid (D.write at_ l = (⟨D.safe, D.cache, L, O, K⟩, E)) := by show _ = _; rw [HE.out, if_pos hE]
    rw [e.out]
    have hE' : ((E : Int) != 0) = true := by simp; omega
    go_enter Try.func24, Try.ntmps24
    go_wp2_with fail
    refine GA.out.mono ?_
    rintro e w1 ⟨rfl, hd, ho⟩
    have HD := Lib.hid hd; have HO := Lib.hid ho; clear hd ho
    go_wp2
    go_ret
    exact ⟨rfl, HD.out, HO.out⟩
end Go.Proofs.Ytnjgjkfdblpddaa
