/- The contracts of a half's size, read, write, and of journal.blank. Condition: no more than 65536 sectors. (Merged of 3 texts.) -/
import Derived.Test.YtahfkcfbmklfpaaJMath
import Derived.Test.YtahfkcfbmklfpaaDiskCrash
import Derived.Lib.Hide
/- Bytes with a piece written over; the sectors of a disk as one run of bytes. No condition beyond those that each lemma states. -/
namespace Go.Proofs.Ytahfkcfbmklfpaa

def patch (B : List Nat) (p : Nat) (X : List Nat) : List Nat := B.take p ++ X ++ B.drop (p + X.length)
theorem patch_length {B X : List Nat} {p : Nat} (h : p + X.length ≤ B.length) : (patch B p X).length = B.length := by
  rw [patch, List.length_append, List.length_append, List.length_take, List.length_drop]; omega
theorem patch_get {B X : List Nat} {p : Nat} (h : p + X.length ≤ B.length) (i : Nat) : (patch B p X)[i]? = if p ≤ i ∧ i < p + X.length then X[i - p]? else B[i]? := by
  have ht : (B.take p).length = p := by rw [List.length_take]; omega
  unfold patch
  by_cases h1 : i < p
  · rw [if_neg (by omega), List.append_assoc, List.getElem?_append_left (by omega), List.getElem?_take, if_pos h1]
  · by_cases h2 : i < p + X.length
    · rw [if_pos ⟨by omega, h2⟩, List.getElem?_append_left (by rw [List.length_append, ht]; omega), List.getElem?_append_right (by omega), ht]
    · rw [if_neg (by omega), List.getElem?_append_right (by rw [List.length_append, ht]; omega), List.length_append, ht, List.getElem?_drop]
      congr 1
      omega
theorem patch_nil {B : List Nat} {p : Nat} (h : p ≤ B.length) : patch B p [] = B := by
  refine List.ext_getElem? fun i => ?_
  rw [patch_get (by simpa using h), if_neg (by simp only [List.length_nil]; omega)]
theorem patch_patch {B X Y : List Nat} {p : Nat} (h : p + X.length + Y.length ≤ B.length) : patch (patch B p X) (p + X.length) Y = patch B p (X ++ Y) := by
  refine List.ext_getElem? fun i => ?_
  rw [patch_get (by rw [patch_length (by omega)]; omega), patch_get (by omega), patch_get (by rw [List.length_append]; omega), List.length_append]
  by_cases h1 : i < p
  · rw [if_neg (by omega), if_neg (by omega), if_neg (by omega)]
  · by_cases h2 : i < p + X.length
    · rw [if_neg (by omega), if_pos ⟨by omega, h2⟩, if_pos ⟨by omega, by omega⟩, List.getElem?_append_left (by omega)]
    · by_cases h3 : i < p + X.length + Y.length
      · rw [if_pos ⟨by omega, by omega⟩, if_pos ⟨by omega, by omega⟩, List.getElem?_append_right (by omega)]
        congr 1
        omega
      · rw [if_neg (by omega), if_neg (by omega), if_neg (by omega)]
/-- A piece that is there already. -/
theorem patch_same {B X : List Nat} {p : Nat} (h : p + X.length ≤ B.length) (e : ∀ j, j < X.length → B[p + j]? = X[j]?) : patch B p X = B := by
  refine List.ext_getElem? fun i => ?_
  rw [patch_get h]
  split
  · rename_i hi
    rw [← e (i - p) (by omega)]
    congr 1
    omega
  · rfl
def secOf (B : List Nat) (q : Nat) : List Nat := (B.drop (64 * q)).take 64
theorem secOf_get (B : List Nat) (q j : Nat) : (secOf B q)[j]? = if j < 64 then B[64 * q + j]? else none := by
  rw [secOf, List.getElem?_take]
  split
  · rw [List.getElem?_drop]
  · rfl
theorem secOf_length {B : List Nat} {q : Nat} (h : 64 * q + 64 ≤ B.length) : (secOf B q).length = 64 := by
  rw [secOf, List.length_take, List.length_drop]; omega
/-- A sector with a piece changed, written back. -/
theorem patch_sector {B X : List Nat} {q o : Nat} (h : 64 * q + 64 ≤ B.length) (ho : o + X.length ≤ 64) : patch B (64 * q) (patch (secOf B q) o X) = patch B (64 * q + o) X := by
  have hs := secOf_length h
  have hl : (patch (secOf B q) o X).length = 64 := by rw [patch_length (by omega), hs]
  refine List.ext_getElem? fun i => ?_
  rw [patch_get (p := 64 * q) (by omega), patch_get (B := B) (p := 64 * q + o) (X := X) (by omega) i, hl]
  by_cases h1 : 64 * q ≤ i ∧ i < 64 * q + 64
  · rw [if_pos h1, patch_get (by omega)]
    by_cases h2 : 64 * q + o ≤ i ∧ i < 64 * q + o + X.length
    · rw [if_pos ⟨by omega, by omega⟩, if_pos h2]
      congr 1
      omega
    · rw [if_neg (by omega), if_neg h2, secOf_get, if_pos (by omega)]
      congr 1
      omega
  · rw [if_neg h1, if_neg (by omega)]

theorem flat_get64 : ∀ (N : List (List Nat)), (∀ x ∈ N, x.length = 64) → ∀ (q j : Nat), j < 64 → N.flatten[64 * q + j]? = (N[q]?).bind (fun x => x[j]?) := by
  intro N
  induction N with
  | nil => intro _ q j _; simp
  | cons x N ih =>
    intro h q j hj
    have hx := h x (by simp)
    rw [List.flatten_cons]
    cases q with
    | zero => rw [Nat.mul_zero, Nat.zero_add, List.getElem?_append_left (by omega)]; rfl
    | succ q =>
      rw [List.getElem?_append_right (by omega), hx, show 64 * (q + 1) + j - 64 = 64 * q + j by omega, ih (fun y hy => h y (by simp [hy])) q j hj]
      rfl
theorem flat_len64 : ∀ (N : List (List Nat)), (∀ x ∈ N, x.length = 64) → N.flatten.length = 64 * N.length := by
  intro N
  induction N with
  | nil => intro _; rfl
  | cons x N ih =>
    intro h
    rw [List.flatten_cons, List.length_append, h x (by simp), ih (fun y hy => h y (by simp [hy])), List.length_cons]
    omega
theorem flat_sec {N : List (List Nat)} (h : ∀ x ∈ N, x.length = 64) {q : Nat} {x : List Nat} (hx : N[q]? = some x) : secOf N.flatten q = x := by
  have hl := h x (List.mem_of_getElem? hx)
  refine List.ext_getElem? fun j => ?_
  rw [secOf_get]
  split
  · rename_i hj
    rw [flat_get64 N h q j hj, hx]
    rfl
  · rw [List.getElem?_eq_none (by omega)]
theorem flat_set {N : List (List Nat)} (h : ∀ x ∈ N, x.length = 64) {q : Nat} (hq : q < N.length) {X : List Nat} (hX : X.length = 64) : (N.set q X).flatten = patch N.flatten (64 * q) X := by
  have hl := flat_len64 N h
  have h' : ∀ x ∈ N.set q X, x.length = 64 := fun x hx => (List.mem_or_eq_of_mem_set hx).elim (h x) (fun e => by rw [e]; exact hX)
  refine List.ext_getElem? fun i => ?_
  have ei : 64 * (i / 64) + i % 64 = i := by omega
  rw [patch_get (by omega), hX]
  have h1 := flat_get64 _ h' (i / 64) (i % 64) (by omega)
  have h2 := flat_get64 _ h (i / 64) (i % 64) (by omega)
  rw [ei] at h1 h2
  rw [h1, h2, List.getElem?_set]
  by_cases e : q = i / 64
  · rw [if_pos e, if_pos (show q < N.length by omega), if_pos ⟨by omega, by omega⟩]
    show X[i % 64]? = _
    congr 1
    omega
  · rw [if_neg e, if_neg (by omega)]
end Go.Proofs.Ytahfkcfbmklfpaa

/- The landed disk with power, as one run of bytes: what reads, writes, flushes and crashes make of it. No condition beyond those that each lemma states. -/
namespace Go.Proofs.Ytahfkcfbmklfpaa
open Go.RowKit Go.Deep

/-- A disk with power, all of it in blocks O: n sectors that hold the bytes B, m writes of which at most are not safe, k acts at most. -/
def JDisk (O : Nat → Prop) (g n : Nat) (B : List Nat) (m k : Nat) (w : World) : Prop :=
  ∃ D : DiskD, LandAt O g D w ∧ D.left = -1 ∧ D.off = false ∧ D.ops ≤ k ∧ D.cache.length ≤ m ∧ D.Fit ∧ D.safe.length = n ∧ (nowL D).flatten = B
theorem JDisk.kept {O : Nat → Prop} {g n m k : Nat} {B : List Nat} {w w' : World} (h : JDisk O g n B m k w) (hs : w.heap.size ≤ w'.heap.size) (hk : ∀ b, O b → w'.heap[b]? = w.heap[b]?) : JDisk O g n B m k w' := by
  obtain ⟨D, h1, h2⟩ := h
  exact ⟨D, h1.kept hs hk, h2⟩
theorem JDisk.below {O : Nat → Prop} {g n m k : Nat} {B : List Nat} {w w' : World} (h : JDisk O g n B m k w) (hb : Below w.heap.size w w') : JDisk O g n B m k w' := by
  obtain ⟨D, h1, h2⟩ := h
  exact ⟨D, h1.below hb, h2⟩
theorem JDisk.only {O : Nat → Prop} {g gm n m k : Nat} {B : List Nat} {w w' : World} (h : JDisk O g n B m k w) (ho : Only gm w w') (hg : ¬O gm) : JDisk O g n B m k w' := by
  obtain ⟨D, h1, h2⟩ := h
  exact ⟨D, h1.only ho hg, h2⟩
theorem JDisk.le {O : Nat → Prop} {g n m k m' k' : Nat} {B : List Nat} {w : World} (h : JDisk O g n B m k w) (hm : m ≤ m') (hk : k ≤ k') : JDisk O g n B m' k' w := by
  obtain ⟨D, h1, h2, h3, h4, h5, h6⟩ := h
  exact ⟨D, h1, h2, h3, by omega, by omega, h6⟩
theorem JDisk.lt {O : Nat → Prop} {g n m k : Nat} {B : List Nat} {w : World} (h : JDisk O g n B m k w) : O g ∧ ∀ b, O b → b < w.heap.size := by
  obtain ⟨D, h1, _⟩ := h
  exact ⟨h1.1, h1.2.1⟩
theorem now_64 {D : DiskD} (h : D.Fit) : ∀ x ∈ nowL D, x.length = 64 := by
  have key : ∀ (cache : List (Nat × List Nat)) (safe : List (Option (List Nat))), (∀ p ∈ cache, p.2.length = 64) → (∀ o ∈ safe, (secB o).length = 64) → ∀ o ∈ fold cache safe, (secB o).length = 64 := by
    intro cache
    induction cache with
    | nil => intro safe _ hs; exact hs
    | cons p l ih =>
      intro safe hc hs
      refine ih _ (fun x hx => hc x (by simp [hx])) fun o ho => ?_
      rcases List.mem_or_eq_of_mem_set ho with h | h
      · exact hs o h
      · rw [h]; exact hc p (by simp)
  intro x hx
  obtain ⟨o, ho, rfl⟩ := List.mem_map.1 hx
  exact key _ _ (fun p hp => (h.cache p hp).2) h.safe o ho
theorem now_len (D : DiskD) : (nowL D).length = D.safe.length := by rw [nowL, List.length_map, fold_length]
theorem JDisk.size {O : Nat → Prop} {g n m k : Nat} {B : List Nat} {w : World} (h : JDisk O g n B m k w) : B.length = 64 * n ∧ 1 ≤ n ∧ n ≤ 65536 := by
  obtain ⟨D, h1, _, _, _, _, h6, h7, h8⟩ := h
  rw [← h8, flat_len64 _ (now_64 h6), now_len, h7]
  exact ⟨rfl, by have := h6.pos; omega, by have := h6.most; omega⟩
theorem jact {D : DiskD} (h1 : D.left = -1) (h2 : D.off = false) : D.act = (⟨D.safe, D.cache, -1, false, D.ops + 1⟩, 0) := by
  rw [DiskD.act, if_neg (by rw [h1, h2]; simp), h1, h2]
  rfl
/-- The bytes of a sector that was read: new memory that may be written. -/
def SecAt (w : World) (b : Nat) (X : List Nat) : Prop := X.length = 64 ∧ ∃ t, w.rowIs b t 64 (fun j => .int .u8 ((X.getD j 0 : Nat) : Int))
theorem SecAt.below {w w' : World} {b : Nat} {X : List Nat} (h : SecAt w b X) (hb : Below w.heap.size w w') : SecAt w' b X := by
  obtain ⟨h1, t, h2⟩ := h
  exact ⟨h1, t, h2.of_block (hb.block b h2.lt)⟩
theorem SecAt.lt {w : World} {b : Nat} {X : List Nat} (h : SecAt w b X) : b < w.heap.size := by
  obtain ⟨_, _, h2⟩ := h
  exact h2.lt
theorem SecAt.at_ {w : World} {b : Nat} {X : List Nat} (h : SecAt w b X) : BytesAt w (some ⟨b, 0, none⟩) X := by
  obtain ⟨h1, t, h2⟩ := h
  refine .inr ⟨b, 0, rfl, h2.lt, fun j c hj => ?_⟩
  have hjl : j < 64 := by have := (List.getElem?_eq_some_iff.1 hj).1; omega
  rw [Nat.zero_add, h2.cell hjl, List.getD_eq_getElem?_getD, hj]
  rfl
/-- Some of its bytes are written. -/
theorem SecAt.put {w : World} {b o : Nat} {X Y : List Nat} (h : SecAt w b X) (hy : o + Y.length ≤ 64) : SecAt (w.setCells b o (u8s Y)) b (patch X o Y) := by
  obtain ⟨h1, t, h2⟩ := h
  refine ⟨by rw [patch_length (by omega), h1], t, (rowIs_cells (u8s Y) o w _ h2).congr fun j hj => ?_⟩
  rw [show (patch X o Y).getD j 0 = ((patch X o Y)[j]?).getD 0 from List.getD_eq_getElem?_getD, patch_get (by omega)]
  by_cases hoj : o ≤ j
  · rw [if_pos hoj]
    by_cases hj2 : j < o + Y.length
    · rw [if_pos ⟨hoj, hj2⟩, u8s, List.getElem?_map, List.getElem?_eq_getElem (by omega)]
      rfl
    · rw [if_neg (by omega), List.getElem?_eq_none (by rw [u8s_length]; omega), List.getD_eq_getElem?_getD]
      rfl
  · rw [if_neg hoj, if_neg (by omega), List.getD_eq_getElem?_getD]
theorem SecAt.cell {w : World} {b j : Nat} {X : List Nat} (h : SecAt w b X) (hj : j < 64) : (∃ v, w.cell? ⟨b, j, none⟩ = some v) ∧ w.frozen? ⟨b, j, none⟩ = false := by
  obtain ⟨h1, t, h2⟩ := h
  exact ⟨⟨_, h2.cell hj⟩, h2.frozen j⟩

set_option maxHeartbeats 1000000 in
set_option maxRecDepth 100000 in
theorem jread_any {O : Nat → Prop} {g n m k : Nat} {B : List Nat} {w : World} (h : JDisk O g n B m k w) (q : Nat) (hq : q < n) :
    Calls Try.prog 56 #[.pointer (some ⟨g, 0, none⟩), .int .i64 (q : Int)] w fun e w' => e = .returned (.tuple #[.slice (some ⟨w.heap.size, 0, none⟩) 64 64, .int .i64 0]) ∧ SecAt w' w.heap.size (secOf B q) ∧ Below w.heap.size w w' := by
  obtain ⟨D, hD, _, _, _, _, hF, hn, hB⟩ := h
  have GH := Lib.hid (landHas_any O g D (q : Int) w hD)
  have hin : 0 ≤ (q : Int) ∧ (q : Int) < (D.safe.length : Int) := by omega
  have hat := nowL_at D (show q < D.safe.length by omega)
  have HSX := Lib.hid (flat_sec (now_64 hF) hat)
  rw [hB] at HSX
  obtain ⟨_, _, bs, sc, bn, nc, cA, cc, cut, l, _, _, _, _, _, _, _, h1, _, hnw, _, _⟩ := hD
  have c1 : w.cell? ⟨g, 1, none⟩ = some (.slice (some ⟨bn, 0, none⟩) D.safe.length nc) := (h1.cell (i := 1) (by omega)).trans rfl
  obtain ⟨h64, hra⟩ := hnw.2.1 q _ hat
  clear h1 hnw hat hB
  obtain ⟨X, HX⟩ : ∃ X, Hid (secB (D.look q) = X) := ⟨_, rfl⟩
  rw [HX.out] at h64 hra HSX
  have HL := Lib.hid h64; have HRA := Lib.hid hra
  clear h64 hra
  rw [HSX.out]
  obtain ⟨Z, hZs, hZ⟩ := zero_sector
  have HZ := Lib.hid hZ; have HZS := Lib.hid hZs; clear hZ hZs
  rw [decide_eq_true hin] at GH
  clear hin
  go_enter Try.func56, Try.ntmps56
  go_wp2_with fail
  refine GH.out.mono ?_
  rintro e w' ⟨rfl, rfl⟩
  go_wp2_with (first
    | (refine wpList_load_mid rfl 76 (.tmp 16) rfl bn (q * 64) rfl (u8s X) (.array 64 5) HRA.out Try.underlying76 rfl (by rw [size_sector, u8s_length, HL.out]) ?_)
    | (refine wpList_alloc_z rfl 76 rfl Z HZ.out ?_)
    | (refine wpList_store_row rfl 76 (.tmp 6) (.tmp 17) rfl w.heap.size (u8s X).toArray rfl rfl 76 Z.cells (heap_alloc_new w _) (by rw [size_sector, List.size_toArray, u8s_length, HL.out]) (by rw [HZS.out, List.size_toArray, u8s_length, HL.out]) (u8s_all X) ?_
       rw [World.setRow_alloc_new]))
  go_ret2
  refine ⟨rfl, ⟨HL.out, 76, ?_⟩, (Below.refl _ _).alloc (Nat.le_refl _) _⟩
  have := World.rowIs_alloc w (u8s X).toArray 76 (fun j => .int .u8 ((X.getD j 0 : Nat) : Int)) (fun j hj => by
    rw [List.size_toArray, u8s_length] at hj
    rw [List.getElem?_toArray, u8s, List.getElem?_map, List.getElem?_eq_getElem hj, List.getD_eq_getElem?_getD, List.getElem?_eq_getElem hj]
    rfl)
  have hsz : (u8s X).toArray.size = 64 := by rw [List.size_toArray, u8s_length, HL.out]
  rw [hsz] at this
  exact this
theorem jwrite_any {O : Nat → Prop} {g n m k : Nat} {B : List Nat} {w : World} (h : JDisk O g n B m k w) (hk : k ≤ 1099511627776) (hm : m ≤ 1048576) (q : Nat) (hq : q < n) (b : Nat) (X : List Nat) (c : Nat) (hX : X.length = 64) (hat : BytesAt w (some ⟨b, 0, none⟩) X) (hb : b ≠ g) :
    Calls Try.prog 60 #[.pointer (some ⟨g, 0, none⟩), .int .i64 (q : Int), .slice (some ⟨b, 0, none⟩) 64 c] w fun e w' => e = .returned (.int .i64 0) ∧ ∃ O' : Nat → Prop, (∀ x, O' x → O x ∨ w.heap.size ≤ x) ∧ JDisk O' g n (patch B (64 * q) X) (m + 1) (k + 1) w' ∧ Off O w w' := by
  obtain ⟨D, hD, h1, h2, h3, h4, hF, hn, hB⟩ := h
  have := landWrite_any O g D (by omega) (by omega) (q : Int) (some ⟨b, 0, none⟩) X c w hat (fun x hx => by injection hx with hx; subst hx; exact hb) hD
  rw [hX] at this
  have e : D.write (q : Int) X = (⟨D.safe, D.cache ++ [(q, X)], -1, false, D.ops + 1⟩, 0) := by
    rw [DiskD.write, jact h1 h2, if_neg (show ¬(0 : Nat) ≠ 0 by omega), if_neg (by omega)]
    rfl
  refine this.mono ?_
  rw [e]
  rintro e w' ⟨rfl, O', hO, hl, ho⟩
  refine ⟨rfl, O', hO, ⟨_, hl, rfl, rfl, by show D.ops + 1 ≤ k + 1; omega, by rw [List.length_append]; show D.cache.length + 1 ≤ m + 1; omega, ⟨hF.pos, hF.most, hF.safe, fun p hp => ?_⟩, hn, ?_⟩, ho⟩
  · rcases List.mem_append.1 hp with hp | hp
    · exact hF.cache p hp
    · rw [List.mem_singleton.1 hp]
      exact ⟨by show q < D.safe.length; omega, hX⟩
  · have e1 : nowL ⟨D.safe, D.cache ++ [(q, X)], -1, false, D.ops + 1⟩ = (nowL D).set q X := by
      show (fold (D.cache ++ [(q, X)]) D.safe).map secB = ((fold D.cache D.safe).map secB).set q X
      rw [fold, List.foldl_append]
      show (List.set (fold D.cache D.safe) q (some X)).map secB = _
      rw [List.map_set]
      rfl
    rw [e1, flat_set (now_64 hF) (by rw [now_len, hn]; exact hq) hX, hB]
theorem jflush_any {O : Nat → Prop} {g n m k : Nat} {B : List Nat} {w : World} (h : JDisk O g n B m k w) (hk : k ≤ 1099511627776) (hm : m ≤ 1048576) :
    Calls Try.prog 25 #[.pointer (some ⟨g, 0, none⟩)] w fun e w' => e = .returned (.int .i64 0) ∧ JDisk O g n B 0 (k + 1) w' ∧ Off O w w' := by
  obtain ⟨D, hD, h1, h2, h3, h4, hF, hn, hB⟩ := h
  refine (landFlush_any O g D (by omega) (by omega) hF w hD).mono ?_
  have e : D.flush = (⟨fold D.cache D.safe, [], -1, false, D.ops + 1⟩, 0) := by
    rw [DiskD.flush, jact h1 h2, if_neg (show ¬(0 : Nat) ≠ 0 by omega)]
  rw [e]
  rintro e w' ⟨rfl, hl, ho⟩
  refine ⟨rfl, ⟨_, hl, rfl, rfl, by show D.ops + 1 ≤ k + 1; omega, Nat.le_refl _, ⟨?_, ?_, fun o ho => ?_, fun p hp => by cases hp⟩, ?_, hB⟩, ho⟩
  · show 0 < (fold D.cache D.safe).length; rw [fold_length]; exact hF.pos
  · show (fold D.cache D.safe).length ≤ 65536; rw [fold_length]; exact hF.most
  · exact now_64 hF _ (List.mem_map_of_mem ho)
  · show (fold D.cache D.safe).length = n; rw [fold_length]; exact hn
theorem jsectors_any {O : Nat → Prop} {g n m k : Nat} {B : List Nat} {w : World} (h : JDisk O g n B m k w) :
    Calls Try.prog 24 #[.pointer (some ⟨g, 0, none⟩)] w fun e w' => e = .returned (.int .i64 (n : Int)) ∧ w = w' := by
  obtain ⟨D, hD, h1, h2, h3, h4, hF, hn, hB⟩ := h
  have := landSectors_any O g D w hD
  rwa [hn] at this
theorem jcrash_any {O : Nat → Prop} {g n k : Nat} {B : List Nat} {w : World} (h : JDisk O g n B 0 k w) (A : Option Addr) (l : List Int) (c : Nat) (hat : IntsAt w A l) :
    Calls Try.prog 18 #[.pointer (some ⟨g, 0, none⟩), .slice A l.length c] w fun e w' => ∃ g' O', e = .returned (.pointer (some ⟨g', 0, none⟩)) ∧ JDisk O' g' n B 0 0 w' ∧ (∀ x, O' x → w.heap.size ≤ x) ∧ Below w.heap.size w w' := by
  obtain ⟨D, hD, h1, h2, h3, h4, hF, hn, hB⟩ := h
  refine (landCrash_any O g D (by omega) hF A l c w hat hD).mono ?_
  have hc : D.cache = [] := List.eq_nil_of_length_eq_zero (by omega)
  have e : D.crash l = ⟨D.safe, [], -1, false, 0⟩ := by
    have hk : keptN (pk l 0) D.cache D.cache.length = [] := List.eq_nil_of_length_eq_zero (by have := keptN_le (pk l 0) D.cache D.cache.length; omega)
    show DiskD.mk (laidN (tornAt l (keptN (pk l 0) D.cache D.cache.length).length) _ (keptN (pk l 0) D.cache D.cache.length) D.safe (keptN (pk l 0) D.cache D.cache.length).length) [] (-1) false 0 = _
    rw [hk, List.length_nil, laidN_zero]
  rw [e]
  rintro e w' ⟨g', rfl, hl, hg, hb⟩
  refine ⟨g', _, rfl, ⟨_, hl, rfl, rfl, Nat.le_refl _, Nat.le_refl _, ⟨hF.pos, hF.most, hF.safe, fun p hp => by cases hp⟩, hn, ?_⟩, fun x hx => hx.1, hb⟩
  rw [← hB, nowL, nowL, hc]
theorem jnew_any {n : Nat} (h1 : 1 ≤ n) (h2 : n ≤ 65536) (w : World) : Calls Try.prog 8 #[.int .i64 (n : Int)] w fun e w' => ∃ g O, e = .returned (.tuple #[.pointer (some ⟨g, 0, none⟩), .int .i64 0]) ∧ JDisk O g n (List.replicate (64 * n) 0) 0 0 w' ∧ (∀ x, O x → w.heap.size ≤ x) ∧ Below w.heap.size w w' := by
  refine (landNew_any n w).mono ?_
  rintro e w' (⟨h, _⟩ | ⟨k, g, hk, _, _, rfl, hl, hg, hb⟩)
  · omega
  · obtain rfl : k = n := by omega
    refine ⟨g, _, rfl, ⟨_, hl, rfl, rfl, Nat.le_refl _, Nat.le_refl _, ⟨by simp [DiskD.new]; omega, by simp [DiskD.new]; omega, fun o ho => ?_, fun p hp => by cases hp⟩, by simp [DiskD.new], ?_⟩, fun x hx => hx.1, hb⟩
    · rw [show o = none from List.eq_of_mem_replicate ho]
      simp [secB, noughts]
    · show ((List.replicate k none).map secB).flatten = _
      rw [List.map_replicate, show secB none = List.replicate 64 0 from rfl, List.flatten_replicate_replicate, Nat.mul_comm]
end Go.Proofs.Ytahfkcfbmklfpaa

/- The contracts of a half's size, read, write, and of journal.blank. Condition: no more than 65536 sectors. -/
namespace Go.Proofs.Ytahfkcfbmklfpaa
open Go.RowKit Go.Deep

theorem hsize_any (g f s : Nat) (hs : s ≤ 65536) (w : World) :
    Calls Try.prog 31 #[.agg #[.pointer (some ⟨g, 0, none⟩), .int .i64 (f : Int), .int .i64 (s : Int)]] w fun e w' => e = .returned (.int .i64 ((64 * s : Nat) : Int)) ∧ Below w.heap.size w w' := by
  go_enter Try.func31, Try.ntmps31
  go_wp2
  go_ret
  exact ⟨by rw [show ((64 * s : Nat) : Int) = (s : Int) * 64 by omega]; rfl, (Below.refl _ _).alloc (Nat.le_refl _) _⟩

set_option maxHeartbeats 1000000 in
set_option maxRecDepth 100000 in
theorem hread_any {O : Nat → Prop} {g n m k : Nat} {B : List Nat} {w : World} (h : JDisk O g n B m k w) (f s a : Nat) (ha : f + a / 64 < n) :
    Calls Try.prog 47 #[.agg #[.pointer (some ⟨g, 0, none⟩), .int .i64 (f : Int), .int .i64 (s : Int)], .int .i64 (a : Int)] w fun e w' => (∃ gb, w.heap.size ≤ gb ∧ e = .returned (.slice (some ⟨gb, 0, none⟩) 64 64) ∧ SecAt w' gb (secOf B (f + a / 64))) ∧ Below w.heap.size w w' := by
  obtain ⟨hB, hn1, hn2⟩ := h.size
  have H := Lib.hid h; clear h
  obtain ⟨q, HQ⟩ : ∃ q, Hid (f + a / 64 = q) := ⟨_, rfl⟩
  rw [HQ.out] at ha ⊢
  have hq : (f : Int) + (a : Int) / 64 = (q : Int) := by have := HQ.out; omega
  have hbl : Below w.heap.size w (w.alloc (.cells #[.pointer (some ⟨g, 0, none⟩), .int .i64 (f : Int), .int .i64 (s : Int)] 62)) := (Below.refl _ _).alloc (Nat.le_refl _) _
  have GR := Lib.hid (jread_any (H.out.below hbl) q ha)
  have HBL := Lib.hid hbl; clear hbl
  have ha1 : (a : Int) / 64 ≤ 65536 := by omega
  have hf1 : (f : Int) ≤ 65536 := by omega
  go_enter Try.func47, Try.ntmps47
  go_wp2_with fail
  refine GR.out.mono ?_
  rintro e w1 ⟨rfl, hs1, hb1⟩
  rw [show (w.alloc (.cells #[.pointer (some ⟨g, 0, none⟩), .int .i64 (f : Int), .int .i64 (s : Int)] 62)).heap.size = w.heap.size + 1 by simp] at hs1
  have HS1 := Lib.hid hs1
  have HB1 : Hid (Below w.heap.size w w1) := HBL.out.trans (hb1.mono HBL.out.size)
  clear hs1 hb1
  go_wp2
  go_ret
  exact ⟨⟨w.heap.size + 1, by omega, by simp, HS1.out⟩, HB1.out⟩
set_option maxHeartbeats 1000000 in
set_option maxRecDepth 100000 in
theorem hwrite_any {O : Nat → Prop} {g n m k : Nat} {B : List Nat} {w : World} (h : JDisk O g n B m k w) (hk : k ≤ 1099511627776) (hm : m ≤ 1048576) (f s a : Nat) (ha : f + a / 64 < n) (b c : Nat) (X : List Nat) (hX : X.length = 64) (hat : BytesAt w (some ⟨b, 0, none⟩) X) (hb : b ≠ g) :
    Calls Try.prog 52 #[.agg #[.pointer (some ⟨g, 0, none⟩), .int .i64 (f : Int), .int .i64 (s : Int)], .int .i64 (a : Int), .slice (some ⟨b, 0, none⟩) 64 c] w fun e w' => e = .returned (.int .i64 0) ∧ ∃ O' : Nat → Prop, (∀ x, O' x → O x ∨ w.heap.size ≤ x) ∧ JDisk O' g n (patch B (64 * (f + a / 64)) X) (m + 1) (k + 1) w' ∧ Off O w w' := by
  obtain ⟨hB, hn1, hn2⟩ := h.size
  have H := Lib.hid h; clear h
  obtain ⟨q, HQ⟩ : ∃ q, Hid (f + a / 64 = q) := ⟨_, rfl⟩
  rw [HQ.out] at ha ⊢
  have hq : (f : Int) + (a : Int) / 64 = (q : Int) := by have := HQ.out; omega
  have hbl : Below w.heap.size w (w.alloc (.cells #[.pointer (some ⟨g, 0, none⟩), .int .i64 (f : Int), .int .i64 (s : Int)] 62)) := (Below.refl _ _).alloc (Nat.le_refl _) _
  have GR := Lib.hid (jwrite_any (H.out.below hbl) hk hm q ha b X c hX (hat.below hbl) hb)
  have HBL := Lib.hid hbl; clear hbl hat
  have ha1 : (a : Int) / 64 ≤ 65536 := by omega
  have hf1 : (f : Int) ≤ 65536 := by omega
  go_enter Try.func52, Try.ntmps52
  go_wp2_with fail
  refine GR.out.mono ?_
  rintro e w1 ⟨rfl, O', hO, hd, ho⟩
  have HO := Lib.hid hO; have HD := Lib.hid hd; have HOF := Lib.hid ho
  clear hO hd ho
  go_wp2
  go_ret
  refine ⟨rfl, O', fun x hx => (HO.out x hx).imp id fun h => Nat.le_trans HBL.out.size h, HD.out, (Off.of_below HBL.out).trans HOF.out fun x hx => .inl hx⟩

/-- Noughts alone? -/
def blankB (l : List Nat) : Bool := l.all (· == 0)
theorem blankB_take {l : List Nat} {k : Nat} (h : k < l.length) : blankB (l.take (k + 1)) = (blankB (l.take k) && (l[k] == 0)) := by
  rw [List.take_succ_eq_append_getElem h, blankB, List.all_append]
  simp [blankB]
theorem blankB_yes {l : List Nat} : blankB l = true ↔ ∀ j, j < l.length → l[j]? = some 0 := by
  rw [blankB, List.all_eq_true]
  constructor
  · intro h j hj
    rw [List.getElem?_eq_getElem hj]
    have := h _ (List.getElem_mem hj)
    simp at this
    rw [this]
  · intro h x hx
    obtain ⟨j, hj⟩ := List.getElem?_of_mem hx
    have := h j (List.getElem?_eq_some_iff.1 hj).1
    rw [hj] at this
    injection this with this
    simp [this]
set_option maxHeartbeats 1000000 in
set_option maxRecDepth 100000 in
theorem blank_any (b off c : Nat) (l : List Nat) (hl : l.length ≤ maxLen) (w : World) (h : BytesAt w (some ⟨b, off, none⟩) l) :
    Calls Try.prog 57 #[.slice (some ⟨b, off, none⟩) l.length c] w fun e w' => e = .returned (.bool (blankB l)) ∧ w = w' := by
  simp only [maxLen] at hl
  have H := Lib.hid h; clear h
  go_enter Try.func57, Try.ntmps57
  go_wp2
  go_loop [2, 4, 7] (fun r x i => ∃ k : Nat, k ≤ l.length ∧ r = .bool false ∧ i = .int .i64 k ∧ Hid (blankB (l.take k) = true)) (fun _ _ i => l.length - (intOf i).toNat)
  case atStart => exact ⟨0, Nat.zero_le _, rfl, rfl, rfl⟩
  case round =>
    obtain ⟨k, hk, rfl, rfl, HE⟩ := hrel
    by_cases hlt : k < l.length
    · have hcell := H.out.cell hlt
      have HX := Lib.hid (blankB_take hlt)
      rw [HE.out, Bool.true_and] at HX
      have HALL : Hid ((l[k] == 0) = false → blankB l = false) := fun h0 => by
        cases hb : blankB l with
        | false => rfl
        | true =>
          have := blankB_yes.1 hb k hlt
          rw [List.getElem?_eq_getElem hlt] at this
          injection this with this
          rw [this] at h0
          cases h0
      obtain ⟨x, HXX⟩ : ∃ x, Hid (l[k] = x) := ⟨l[k], Lib.hid rfl⟩
      rw [HXX.out] at hcell HX HALL
      by_cases hx0 : x = 0
      · subst hx0
        go_wp2
        go_round
        case rel => exact ⟨k + 1, by omega, rfl, by go_num, HX.out.trans rfl⟩
        case measure => simp [intOf]; omega
      · have hne : ((x : Int) != 0) = true := by rw [bne_iff_ne]; omega
        have hne2 : ((x : Int) == 0) = false := beq_eq_false_iff_ne.2 (by omega)
        go_wp2
        go_ret
        rw [HALL.out (beq_eq_false_iff_ne.2 hx0)]
        exact ⟨rfl, rfl⟩
    · have HF : Hid (blankB l = true) := by
        have := HE.out
        rw [List.take_of_length_le (by omega)] at this
        exact this
      go_wp2
      go_ret
      rw [HF.out]
      exact ⟨rfl, rfl⟩
end Go.Proofs.Ytahfkcfbmklfpaa
