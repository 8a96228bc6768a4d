/- The table of conflicts, row by row: who removed, edited, moved or made first, and what becomes of the later one: RebaseTable answers true and changes nothing. Condition: the table of conflicts holds what the program's text lays. -/
import Derived.Test.YtjpjdkdbgjipnaaDoorU41
import Derived.Test.YtjpjdkdbgjipnaaDoorU0
import Derived.Test.YtjpjdkdbgjipnaaDoorU12
import Derived.Test.YtjpjdkdbgjipnaaDoorU31
namespace Go.Proofs.YtjpjdkdbgjipnaaDoor
open Go.RowKit Go.Deep
def tabS0 : Sched Nat := (.one 10 (.one 11 .done))
def tabS : Sched Nat := (.quiet 0 (.quiet 1 (.quiet 2 (.quiet 3 (.quiet 4 (.quiet 5 (.quiet 6 (.quiet 7 (.two 8 (.one 9 tabS0) 9 (.one 8 tabS0))))))))))
def tabP0 : Sched Nat := (.one 5 (.quiet 6 (.quiet 7 (.quiet 8 (.quiet 9 (.quiet 10 (.quiet 11 (.quiet 12 .done))))))))
def tabP1 : Sched Nat := (.one 4 tabP0)
def tabP : Sched Nat := (.quiet 0 (.quiet 2 (.two 1 (.one 3 tabP1) 3 (.two 1 tabP1 4 (.one 1 tabP0)))))
def actSix (y : ActV) : Nat → Value := sixV (.int .i64 y.kind) (.int .i64 y.id) (.int .i64 y.parent) (.string (bstr y.name)) (.bool y.dir) (.slice y.opsA y.ops.length y.opsC)
theorem six_of {w : World} {b : Nat} {t : TypeId} {y : ActV} (h : w.heap[b]? = some (.cells (yy1 y).toArray t (0, 0))) : w.rowIs b t 6 (actSix y) :=
 ⟨_, h, rfl, fun i hi => by
  rcases (show i = 0 ∨ i = 1 ∨ i = 2 ∨ i = 3 ∨ i = 4 ∨ i = 5 by omega) with rfl | rfl | rfl | rfl | rfl | rfl <;> rfl⟩
theorem yy251 (w : World) (o1 o2 p1 p2 : Obj) : Below w.heap.size ((w.alloc o1).alloc o2) ((w.alloc p1).alloc p2) :=
 ⟨rfl, rfl, rfl, by simp, fun k hk => by rw [Below.heap_alloc _ _ _ (by simp; omega), Below.heap_alloc _ _ _ hk, Below.heap_alloc _ _ _ (by simp; omega), Below.heap_alloc _ _ _ hk]⟩
theorem yy667 (w : World) (a b : Array Value) (t : TypeId) : ((w.alloc (.cells a t)).alloc (.cells b t)).heap[w.heap.size]? = some (.cells a t (0, 0)) ∧ ((w.alloc (.cells a t)).alloc (.cells b t)).heap[w.heap.size + 1]? = some (.cells b t (0, 0)) :=
 ⟨by rw [Below.heap_alloc _ _ _ (by simp)]; exact heap_alloc_new _ _, by have h := heap_alloc_new (w.alloc (.cells a t)) (.cells b t); rw [World.size_alloc] at h; exact h⟩
theorem yy744 {g i : Nat} (hi : i < 4) (j : Nat) (v : Value) (h : (yy1 (tabA g i))[j]? = some v) : (yy1 (tabA g 0) ++ yy1 (tabA g 1) ++ yy1 (tabA g 2) ++ yy1 (tabA g 3))[i * 6 + j]? = some v := by
 have hj : j < 6 := by
  have := (List.getElem?_eq_some_iff.1 h).1
  simpa [yy1] using this
 rcases yy44 hi with rfl | rfl | rfl | rfl
 all_goals
  match j, hj, h with
  | 0, _, h => exact h
  | 1, _, h => exact h
  | 2, _, h => exact h
  | 3, _, h => exact h
  | 4, _, h => exact h
  | 5, _, h => exact h
def tabRow : Nat → Array Value
 | 0 => #[.int .i64 0, .int .i64 13, .int .i64 0, .int .i64 0]
 | 1 => #[.int .i64 12, .int .i64 1, .int .i64 12, .int .i64 0]
 | 2 => #[.int .i64 0, .int .i64 13, .int .i64 13, .int .i64 0]
 | _ => #[.int .i64 0, .int .i64 0, .int .i64 0, .int .i64 13]
def tabW (i k : Nat) : Int := wantT i k false
set_option maxRecDepth 100000 in
theorem yy668 {i : Nat} (hi : i < 4) (w : World) : (Instr.index 54 (.agg #[.int .i64 0, .int .i64 13, .int .i64 0, .int .i64 0, .int .i64 12, .int .i64 1, .int .i64 12, .int .i64 0, .int .i64 0, .int .i64 13, .int .i64 13, .int .i64 0, .int .i64 0, .int .i64 0, .int .i64 0, .int .i64 13]) (.int .i64 (i : Int))).run Tryd.prog w = .ok (.agg (tabRow i)) w := by
 rcases yy44 hi with rfl | rfl | rfl | rfl <;> simp [Instr.index, asIntOf, Sem.run_bind, run_underlying Tryd.underlying54, part, isAgg, run_underlying Tryd.underlying53, tabRow]
set_option maxRecDepth 100000 in
theorem yy669 {i k : Nat} (hi : i < 4) (hk : k < 4) (w : World) : (Instr.index 53 (.agg (tabRow i)) (.int .i64 (k : Int))).run Tryd.prog w = .ok (.int .i64 (tabW i k)) w := by
 rcases yy44 hi with rfl | rfl | rfl | rfl <;> rcases yy44 hk with rfl | rfl | rfl | rfl <;> simp [Instr.index, asIntOf, Sem.run_bind, run_underlying Tryd.underlying53, part, isAgg, tabRow, tabW, wantT]
theorem tab_b (g : Nat) {k : Nat} (hk : k < 4) (same : Bool) : ActB (tabB g k same) := by
 have hp : ∀ (x : ActV), (x.kind = 1 ∨ x.kind = 3) → x.id = 1 → x.parent = 2 → x.opsC = 0 → x.ops = [] → (x.name = [98] ∨ x.name = [99]) → ActB x := fun x h1 h2 h3 h4 h5 h6 => by
  refine ⟨⟨⟨by unfold Fit64; omega, by unfold Fit64; omega, by unfold Fit64; omega, ?_, fun y hy => by (rw [h5] at hy; cases hy), by rw [h5]; exact Nat.zero_le _, by rw [h4]; exact Nat.zero_le _⟩, by rw [h5]; exact yy118, ?_⟩, ?_, by rw [h5]; simp [tlen]⟩
  ·rcases h6 with h | h <;> rw [h] <;> exact ⟨by simp, by simp [maxLen]⟩
  ·rcases h6 with h | h <;> rw [h] <;> simp
  ·rcases h6 with h | h <;> rw [h] <;> simp
 rcases yy44 hk with rfl | rfl | rfl | rfl
 ·exact edE_b (by omega) _ yy296.2.2.2 (by simp [insX, tlen]) (by simp [insX]) (by simp [maxLen])
 ·exact rmE_b (by omega)
 ·cases same
  ·exact hp _ (.inr rfl) rfl rfl rfl rfl (.inr rfl)
  ·exact hp _ (.inr rfl) rfl rfl rfl rfl (.inl rfl)
 ·cases same
  ·exact hp _ (.inl rfl) rfl rfl rfl rfl (.inr rfl)
  ·exact hp _ (.inl rfl) rfl rfl rfl rfl (.inl rfl)
theorem yy670 (g : Nat) {k : Nat} (hk : k < 4) : tabB g k true = tabA g k := by rcases yy44 hk with rfl | rfl | rfl | rfl <;> rfl
theorem yy773 {g k : Nat} {same : Bool} (hk : k < 4) {w : World} (h : yy7 w (some ⟨g, 0, none⟩) insX) : yy7 w (tabB g k same).opsA (tabB g k same).ops := by
 rcases yy44 hk with rfl | rfl | rfl | rfl
 ·exact h
 ·exact .inl rfl
 ·cases same <;> exact .inl rfl
 ·cases same <;> exact .inl rfl
set_option maxHeartbeats 8000000 in
set_option maxRecDepth 100000 in
theorem yy307 (first then_ : Int) (same : Bool) (_hf : -9223372036854775808 ≤ first ∧ first ≤ 9223372036854775807) (_ht : -9223372036854775808 ≤ then_ ∧ then_ ≤ 9223372036854775807) (w : World) (hC : ConfAt w) :
  Calls Tryd.prog 5 #[.int .i64 first, .int .i64 then_, .bool same] w fun e w' => e = .returned (.bool true) ∧ Below w.heap.size w w' := by
 obtain ⟨g, hgg⟩ : ∃ g, g = w.heap.size := ⟨_, rfl⟩
 rw [← hgg]
 have HGG := xh hgg
 have HCF := xh (fun (X : World) (h : Below g w X) => hC.below (hgg ▸ h))
 have GW := xh (fun (X : World) (h : Below g w X) => yy145 X (HCF.out X h))
 have HB : Hid (Below g w w) := xh (hgg ▸ Below.refl w.heap.size w)
 have GR1 := xh (fun (X : World) => yy76 first 4 (by omega) (by omega) X)
 have GR2 := xh (fun (X : World) => yy76 then_ 4 (by omega) (by omega) X)
 have hi := rnd_lt first (n := 4) (by omega)
 have hk := rnd_lt then_ (n := 4) (by omega)
 generalize rnd first 4 = i at GR1 hi
 generalize rnd then_ 4 = k at GR2 hk
 clear hC hgg
 go_enter Tryd.func5, Tryd.ntmps5
 go_upto_region 3 with fail
 rw [← HGG.out]
 have hop : yy7 (w.alloc (.cells #[.int .i64 2, .int .i64 0, .string { data := #[120] }] 51)) (some ⟨g, 0, none⟩) insX := yy6.lit (fun j v h => by rw [← Array.getElem?_toList]; exact h) HGG.out
 have hb1 : Below g w (w.alloc (.cells #[.int .i64 2, .int .i64 0, .string { data := #[120] }] 51)) := HB.out.alloc (by rw [HGG.out]; exact Nat.le_refl _) _
 have hb2 := (Below.refl (w.alloc (.cells #[.int .i64 2, .int .i64 0, .string { data := #[120] }] 51)).heap.size (w.alloc (.cells #[.int .i64 2, .int .i64 0, .string { data := #[120] }] 51))).alloc (Nat.le_refl _) (.cells #[.int .i64 4, .int .i64 1, .int .i64 0, .string { data := #[] }, .bool false, .slice (some ⟨g, 0, none⟩) 1 1, .int .i64 2, .int .i64 1, .int .i64 0, .string { data := #[] }, .bool false, .slice none 0 0, .int .i64 3, .int .i64 1, .int .i64 2, .string { data := #[98] }, .bool false, .slice none 0 0, .int .i64 1, .int .i64 1, .int .i64 2, .string { data := #[98] }, .bool false, .slice none 0 0] 46)
 have hs1 : (w.alloc (.cells #[.int .i64 2, .int .i64 0, .string { data := #[120] }] 51)).heap.size = g + 1 := by rw [World.size_alloc, HGG.out]
 have hrow : ((w.alloc (.cells #[.int .i64 2, .int .i64 0, .string { data := #[120] }] 51)).alloc (.cells #[.int .i64 4, .int .i64 1, .int .i64 0, .string { data := #[] }, .bool false, .slice (some ⟨g, 0, none⟩) 1 1, .int .i64 2, .int .i64 1, .int .i64 0, .string { data := #[] }, .bool false, .slice none 0 0, .int .i64 3, .int .i64 1, .int .i64 2, .string { data := #[98] }, .bool false, .slice none 0 0, .int .i64 1, .int .i64 1, .int .i64 2, .string { data := #[98] }, .bool false, .slice none 0 0] 46)).heap[g + 1]? = some (.cells #[.int .i64 4, .int .i64 1, .int .i64 0, .string { data := #[] }, .bool false, .slice (some ⟨g, 0, none⟩) 1 1, .int .i64 2, .int .i64 1, .int .i64 0, .string { data := #[] }, .bool false, .slice none 0 0, .int .i64 3, .int .i64 1, .int .i64 2, .string { data := #[98] }, .bool false, .slice none 0 0, .int .i64 1, .int .i64 1, .int .i64 2, .string { data := #[98] }, .bool false, .slice none 0 0] 46 (0, 0)) := by rw [← hs1]; exact heap_alloc_new _ _
 have hop2 := hop.below hb2
 have hb3 : Below g w ((w.alloc (.cells #[.int .i64 2, .int .i64 0, .string { data := #[120] }] 51)).alloc (.cells #[.int .i64 4, .int .i64 1, .int .i64 0, .string { data := #[] }, .bool false, .slice (some ⟨g, 0, none⟩) 1 1, .int .i64 2, .int .i64 1, .int .i64 0, .string { data := #[] }, .bool false, .slice none 0 0, .int .i64 3, .int .i64 1, .int .i64 2, .string { data := #[98] }, .bool false, .slice none 0 0, .int .i64 1, .int .i64 1, .int .i64 2, .string { data := #[98] }, .bool false, .slice none 0 0] 46)) := hb1.trans (hb2.mono (by rw [hs1]; omega))
 have hsz : ((w.alloc (.cells #[.int .i64 2, .int .i64 0, .string { data := #[120] }] 51)).alloc (.cells #[.int .i64 4, .int .i64 1, .int .i64 0, .string { data := #[] }, .bool false, .slice (some ⟨g, 0, none⟩) 1 1, .int .i64 2, .int .i64 1, .int .i64 0, .string { data := #[] }, .bool false, .slice none 0 0, .int .i64 3, .int .i64 1, .int .i64 2, .string { data := #[98] }, .bool false, .slice none 0 0, .int .i64 1, .int .i64 1, .int .i64 2, .string { data := #[98] }, .bool false, .slice none 0 0] 46)).heap.size = g + 2 := by rw [World.size_alloc, hs1]
 clear hop hb1 hb2 hs1
 obtain ⟨W1, HW1⟩ : ∃ x, Hid (((w.alloc (.cells #[.int .i64 2, .int .i64 0, .string { data := #[120] }] 51)).alloc (.cells #[.int .i64 4, .int .i64 1, .int .i64 0, .string { data := #[] }, .bool false, .slice (some ⟨g, 0, none⟩) 1 1, .int .i64 2, .int .i64 1, .int .i64 0, .string { data := #[] }, .bool false, .slice none 0 0, .int .i64 3, .int .i64 1, .int .i64 2, .string { data := #[98] }, .bool false, .slice none 0 0, .int .i64 1, .int .i64 1, .int .i64 2, .string { data := #[98] }, .bool false, .slice none 0 0] 46)) = x) := ⟨_, xh rfl⟩
 rw [HW1.out] at hrow hop2 hb3 hsz ⊢
 clear HW1 HB
 have HBF := xh (fun (X : World) (h : Below W1.heap.size W1 X) => hb3.trans (h.mono (by omega : g ≤ W1.heap.size)))
 have HOPS := xh (fun (X : World) (h : Below W1.heap.size W1 X) => hop2.below h)
 have HCELLS : Hid (∀ (X : World) (n : Nat), n < 4 → Below W1.heap.size W1 X → ∀ (j : Nat) (v : Value), (yy1 (tabA g n))[j]? = some v → X.cell? ⟨g + 1, n * 6 + j, none⟩ = some v) := xh (fun X n hn h j v hv => by
  have hr := (h.block (g + 1) (by omega)).trans hrow
  rw [cell_of_row _ _ _ _ _ _ hr, ← Array.getElem?_toList]
  exact yy744 hn j v hv)
 have HD := xh (Below.refl W1.heap.size W1)
 have HS := xh (Nat.le_refl W1.heap.size)
 have HSZ := xh hsz
 clear hrow hop2 hb3 hsz
 go_wp2_with fail
 refine (GR1.out _).mono ?_
 rintro e x1 ⟨rfl, rfl⟩
 go_wp2_with fail
 refine (GR2.out _).mono ?_
 rintro e x2 ⟨rfl, rfl⟩
 clear GR1 GR2
 go_upto_region 4 with fail
 have HCI := xh (fun (X : World) (h : Below W1.heap.size W1 X) => HCELLS.out X i hi h)
 have HCK := xh (fun (X : World) (h : Below W1.heap.size W1 X) => HCELLS.out X k hk h)
 obtain ⟨a, HA⟩ : ∃ a, Hid (tabA g i = a) := ⟨_, xh rfl⟩
 obtain ⟨b, HBB⟩ : ∃ b, Hid (tabA g k = b) := ⟨_, xh rfl⟩
 rw [HA.out] at HCI
 rw [HBB.out] at HCK
 have hiI : (i : Int) < 4 := by omega
 have hkI : (k : Int) < 4 := by omega
 go_cut [11, 12] from 31 to 38 (fun s11 s12 wx => ∃ ga gb, s11 = .pointer (some ⟨ga, 0, none⟩) ∧ s12 = .pointer (some ⟨gb, 0, none⟩) ∧ Hid (W1.heap.size ≤ ga ∧ W1.heap.size ≤ gb ∧ ga ≠ gb ∧ wx.heap[ga]? = some (.cells (yy1 a).toArray 46 (0, 0)) ∧ wx.heap[gb]? = some (.cells (yy1 b).toArray 46 (0, 0))) ∧ Hid (Below W1.heap.size W1 wx))
 case first =>
  refine Sched.yy694 (some W1.heap.size) tabS (by kernel_rfl) (by kernel_rfl) (fun _ _ d _ _ h => by cases d <;> exact h) ?_
  have HBD : Hid (Below W1.heap.size W1 W1.drew) := xh (Below.drew (Below.refl _ _))
  have HSD : Hid (W1.drew.heap.size = W1.heap.size) := xh rfl
  have hsd : W1.heap.size = W1.drew.heap.size := rfl
  rw [hsd]
  clear hsd
  generalize W1.drew = wd at HBD HSD ⊢
  have y0 : ∀ e : ExtB (some wd.heap.size) wd, e.val.cell? ⟨g + 1, i * 6, none⟩ = some (.int .i64 a.kind) := fun e => HCI.out e.val (HBD.out.trans (e.property.mono HBD.out.size)) 0 _ rfl
  have y1 : ∀ e : ExtB (some wd.heap.size) wd, e.val.cell? ⟨g + 1, i * 6 + 1, none⟩ = some (.int .i64 a.id) := fun e => HCI.out e.val (HBD.out.trans (e.property.mono HBD.out.size)) 1 _ rfl
  have y2 : ∀ e : ExtB (some wd.heap.size) wd, e.val.cell? ⟨g + 1, i * 6 + 2, none⟩ = some (.int .i64 a.parent) := fun e => HCI.out e.val (HBD.out.trans (e.property.mono HBD.out.size)) 2 _ rfl
  have y3 : ∀ e : ExtB (some wd.heap.size) wd, e.val.cell? ⟨g + 1, i * 6 + 3, none⟩ = some (.string (bstr a.name)) := fun e => HCI.out e.val (HBD.out.trans (e.property.mono HBD.out.size)) 3 _ rfl
  have y4 : ∀ e : ExtB (some wd.heap.size) wd, e.val.cell? ⟨g + 1, i * 6 + 4, none⟩ = some (.bool a.dir) := fun e => HCI.out e.val (HBD.out.trans (e.property.mono HBD.out.size)) 4 _ rfl
  have y5 : ∀ e : ExtB (some wd.heap.size) wd, e.val.cell? ⟨g + 1, i * 6 + 5, none⟩ = some (.slice a.opsA a.ops.length a.opsC) := fun e => HCI.out e.val (HBD.out.trans (e.property.mono HBD.out.size)) 5 _ rfl
  have z0 : ∀ e : ExtB (some wd.heap.size) wd, e.val.cell? ⟨g + 1, k * 6, none⟩ = some (.int .i64 b.kind) := fun e => HCK.out e.val (HBD.out.trans (e.property.mono HBD.out.size)) 0 _ rfl
  have z1 : ∀ e : ExtB (some wd.heap.size) wd, e.val.cell? ⟨g + 1, k * 6 + 1, none⟩ = some (.int .i64 b.id) := fun e => HCK.out e.val (HBD.out.trans (e.property.mono HBD.out.size)) 1 _ rfl
  have z2 : ∀ e : ExtB (some wd.heap.size) wd, e.val.cell? ⟨g + 1, k * 6 + 2, none⟩ = some (.int .i64 b.parent) := fun e => HCK.out e.val (HBD.out.trans (e.property.mono HBD.out.size)) 2 _ rfl
  have z3 : ∀ e : ExtB (some wd.heap.size) wd, e.val.cell? ⟨g + 1, k * 6 + 3, none⟩ = some (.string (bstr b.name)) := fun e => HCK.out e.val (HBD.out.trans (e.property.mono HBD.out.size)) 3 _ rfl
  have z4 : ∀ e : ExtB (some wd.heap.size) wd, e.val.cell? ⟨g + 1, k * 6 + 4, none⟩ = some (.bool b.dir) := fun e => HCK.out e.val (HBD.out.trans (e.property.mono HBD.out.size)) 4 _ rfl
  have z5 : ∀ e : ExtB (some wd.heap.size) wd, e.val.cell? ⟨g + 1, k * 6 + 5, none⟩ = some (.slice b.opsA b.ops.length b.opsC) := fun e => HCK.out e.val (HBD.out.trans (e.property.mono HBD.out.size)) 5 _ rfl
  simp only [tabS, tabS0, Sched.picked, List.getElem?_cons_succ, List.getElem?_cons_zero, Option.getD_some]
  repeat (first | (refine Sched.yy857 (by rfl) (fun K hK => ?_); go_big_quiet_op; refine hK _ ?_; clear hK K) | (refine Sched.yy671 (by rfl) ?_; simp only [Act.put, xsa, xsz, xss]))
  refine Sched.walk_two ?_ ?_
  ·skip
   refine Sched.walk_one (by rfl) (fun K hK => ?_)
   go_simp
   refine hK _ _ ((Below.refl _ _).alloc (Nat.le_refl _) _) ?_
   clear hK K
   refine Sched.walk_one (by rfl) (fun K hK => ?_)
   go_simp
   refine hK _ _ (yy267 (B := wd.heap.size) (by simp) _) ?_
   clear hK K
   refine Sched.walk_one (by rfl) (fun K hK => ?_)
   go_simp
   refine hK _ _ (yy251 wd _ _ _ _) ?_
   clear hK K
   refine Sched.walk_one (by rfl) (fun K hK => ?_)
   go_simp
   refine hK _ _ (yy251 wd _ _ _ _) ?_
   clear hK K
   refine Sched.walk_done ?_
   go_wp2_with fail
   go_meet
   case rel => exact ⟨wd.heap.size, wd.heap.size + 1, rfl, rfl, xh (by
    have h := yy667 wd (yy1 a).toArray (yy1 b).toArray 46
    have hs := HBD.out.size
    exact ⟨by omega, by omega, by omega, h.1, h.2⟩), xh ((HBD.out.alloc HBD.out.size _).alloc (by have := HBD.out.size; simp; omega) _)⟩
  ·skip
   refine Sched.walk_one (by rfl) (fun K hK => ?_)
   go_simp
   refine hK _ _ ((Below.refl _ _).alloc (Nat.le_refl _) _) ?_
   clear hK K
   refine Sched.walk_one (by rfl) (fun K hK => ?_)
   go_simp
   refine hK _ _ (yy267 (B := wd.heap.size) (by simp) _) ?_
   clear hK K
   refine Sched.walk_one (by rfl) (fun K hK => ?_)
   go_simp
   refine hK _ _ (yy251 wd _ _ _ _) ?_
   clear hK K
   refine Sched.walk_one (by rfl) (fun K hK => ?_)
   go_simp
   refine hK _ _ (yy251 wd _ _ _ _) ?_
   clear hK K
   refine Sched.walk_done ?_
   go_wp2_with fail
   go_meet
   case rel => exact ⟨wd.heap.size + 1, wd.heap.size, rfl, rfl, xh (by
    have h := yy667 wd (yy1 b).toArray (yy1 a).toArray 46
    have hs := HBD.out.size
    exact ⟨by omega, by omega, by omega, h.2, h.1⟩), xh ((HBD.out.alloc HBD.out.size _).alloc (by have := HBD.out.size; simp; omega) _)⟩
 case rest =>
  obtain ⟨ga, gb, rfl, rfl, HH, HD⟩ := hcut
  obtain ⟨c, HCB⟩ : ∃ c, Hid (tabB g k same = c) := ⟨_, xh rfl⟩
  have HK1 : Hid (same = true → c = b) := xh (fun h => by
   rw [← HCB.out, ← HBB.out, h]
   rcases yy44 hk with rfl | rfl | rfl | rfl <;> rfl)
  have HK2 : Hid (same = false → (b.name = [] ∧ c = b) ∨ (b.name = [98] ∧ c = { b with name := [99] })) := xh (fun h => by
   rw [← HCB.out, ← HBB.out, h]
   rcases yy44 hk with rfl | rfl | rfl | rfl
   ·exact .inl ⟨rfl, rfl⟩
   ·exact .inl ⟨rfl, rfl⟩
   ·exact .inr ⟨rfl, rfl⟩
   ·exact .inr ⟨rfl, rfl⟩)
  have HWB := xh (six_of HH.out.2.2.2.2)
  have HWA := xh (six_of HH.out.2.2.2.1)
  have HNE := xh (show W1.heap.size ≤ ga ∧ W1.heap.size ≤ gb ∧ ga ≠ gb from ⟨HH.out.1, HH.out.2.1, HH.out.2.2.1⟩)
  clear HH
  go_upto_region 5 with fail
  go_cut [45] from 39 to 44 (fun s45 wx => ∃ d : Bool, s45 = .bool d ∧ Hid ((d = true ∧ c = { b with name := [99] }) ∨ (d = false ∧ c = b)) ∧ wx = wc)
  case first =>
   obtain ⟨_, _, _, z3, _, _⟩ := yy11 (show World.rowIs wc gb 46 6 (sixV (.int .i64 b.kind) (.int .i64 b.id) (.int .i64 b.parent) (.string (bstr b.name)) (.bool b.dir) (.slice b.opsA b.ops.length b.opsC)) from HWB.out)
   cases same with
   | true =>
    go_wp2_with fail
    go_meet
    case rel => exact ⟨false, rfl, xh (.inr ⟨rfl, HK1.out (by trivial)⟩), rfl⟩
   | false =>
    rcases HK2.out rfl with ⟨hn, hc⟩ | ⟨hn, hc⟩
    ·rw [hn] at z3
     have z3' : wc.cell? ⟨gb, 3, none⟩ = some (.string { data := #[] }) := z3
     clear z3
     go_wp2_with fail
     go_meet
     case rel => exact ⟨false, rfl, xh (.inr ⟨rfl, hc⟩), rfl⟩
    ·rw [hn] at z3
     have z3' : wc.cell? ⟨gb, 3, none⟩ = some (.string { data := #[98] }) := z3
     clear z3
     go_wp2_with fail
     go_meet
     case rel => exact ⟨true, rfl, xh (.inl ⟨rfl, hc⟩), rfl⟩
  case rest =>
   obtain ⟨d, rfl, HDC, rfl⟩ := hcut
   clear HK1 HK2
   go_upto_if 45 with fail
   go_cut [] from 46 to 46 (fun wx => Hid (wx.rowIs ga 46 6 (actSix a)) ∧ Hid (wx.rowIs gb 46 6 (actSix c)) ∧ Hid (Below W1.heap.size W1 wx))
   case first =>
    cases d with
    | false =>
     have hcb : c = b := by rcases HDC.out with h | h; exact absurd h.1 (by simp); exact h.2
     have HB6 : Hid (wc.rowIs gb 46 6 (actSix c)) := xh (by rw [hcb]; exact HWB.out)
     clear hcb
     go_wp2_with fail
     go_meet
     case rel => exact ⟨HWA, HB6, HD⟩
    | true =>
     have hcb : c = { b with name := [99] } := by rcases HDC.out with h | h; exact h.2; exact absurd h.1 (by simp)
     have xf := HWB.out.frozen 3
     obtain ⟨_, _, _, z3, _, _⟩ := yy11 (show World.rowIs wc gb 46 6 (sixV (.int .i64 b.kind) (.int .i64 b.id) (.int .i64 b.parent) (.string (bstr b.name)) (.bool b.dir) (.slice b.opsA b.ops.length b.opsC)) from HWB.out)
     have HA6 := xh (HWA.out.setOther (a := ⟨gb, 3, none⟩) HNE.out.2.2 (.string { data := #[99] }))
     have HB6 : Hid ((wc.setCell ⟨gb, 3, none⟩ (.string { data := #[99] })).rowIs gb 46 6 (actSix c)) := xh (by
      rw [hcb]
      exact (HWB.out.set 3 (.string { data := #[99] })).congr fun i hi => by rcases (show i = 0 ∨ i = 1 ∨ i = 2 ∨ i = 3 ∨ i = 4 ∨ i = 5 by omega) with rfl | rfl | rfl | rfl | rfl | rfl <;> rfl)
     have HD6 := xh (HD.out.setCell (p := ⟨gb, 3, none⟩) HNE.out.2.1 (.string { data := #[99] }))
     clear hcb
     go_wp2_with fail
     go_meet
     case rel => exact ⟨HA6, HB6, HD6⟩
   case rest =>
    clear HWA HWB HD HDC
    obtain ⟨HA6, HB6, HD6⟩ := hcut
    obtain ⟨X, HX⟩ : ∃ X, X = wc := ⟨_, rfl⟩
    rw [← HX] at HA6 HB6 HD6 ⊢
    clear HX
    go_upto_region 8 with fail
    have T1 := yy668 hi
    have T2 := yy669 hi hk
    obtain ⟨R, HR⟩ : ∃ R, Hid (tabRow i = R) := ⟨_, xh rfl⟩
    obtain ⟨t, HT⟩ : ∃ t, Hid (tabW i k = t) := ⟨_, xh rfl⟩
    rw [HR.out] at T1 T2
    rw [HT.out] at T2
    go_cut [15] from 47 to 61 (fun s15 wx => s15 = .int .i64 t ∧ wx = X)
    case first =>
     go_wp2_with fail
     go_meet
     case rel => exact ⟨rfl, rfl⟩
    case rest =>
     obtain ⟨rfl, rfl⟩ := hcut
     clear T1 T2 HR
     go_upto_region 9 with fail
     obtain ⟨Y, HY⟩ : ∃ Y, Y = wc := ⟨_, rfl⟩
     rw [← HY] at HA6 HB6 HD6 ⊢
     clear HY
     obtain ⟨dd, HDD⟩ : ∃ dd, Hid ((decide (i = 2) && decide (k = 2) && same) = dd) := ⟨_, xh rfl⟩
     go_cut [70] from 62 to 70 (fun s70 wx => s70 = .bool dd ∧ wx = Y)
     case first =>
      by_cases i2 : i = 2
      ·have d1 : ((i : Int) == 2) = true := by rw [i2]; rfl
       by_cases k2 : k = 2
       ·have d2 : ((k : Int) == 2) = true := by rw [k2]; rfl
        have hdd : same = dd := by rw [← HDD.out]; simp [i2, k2]
        have HE := xh hdd
        clear i2 k2 hdd
        go_wp2_with fail
        go_meet
        case rel => exact ⟨by rw [← HE.out], rfl⟩
       ·have d2 : ((k : Int) == 2) = false := xn (by omega)
        have HE : Hid (dd = false) := xh (by rw [← HDD.out]; simp [k2])
        clear i2 k2
        go_wp2_with fail
        go_meet
        case rel => exact ⟨by rw [HE.out], rfl⟩
      ·have d1 : ((i : Int) == 2) = false := xn (by omega)
       have HE : Hid (dd = false) := xh (by rw [← HDD.out]; simp [i2])
       clear i2
       go_wp2_with fail
       go_meet
       case rel => exact ⟨by rw [HE.out], rfl⟩
     case rest =>
      obtain ⟨rfl, rfl⟩ := hcut
      obtain ⟨n, HN⟩ : ∃ n, Hid (wantT i k same = n) := ⟨_, xh rfl⟩
      have HTN : Hid ((dd = true → n = 1) ∧ (dd = false → n = t)) := xh (by
       rw [← HN.out, ← HT.out, ← HDD.out]
       unfold tabW
       rcases yy44 hi with rfl | rfl | rfl | rfl <;> rcases yy44 hk with rfl | rfl | rfl | rfl <;> cases same <;> simp [wantT])
      clear HDD
      obtain ⟨Y, HY⟩ : ∃ Y, Y = wc := ⟨_, rfl⟩
      rw [← HY] at HA6 HB6 HD6 ⊢
      clear HY
      go_upto_if 70 with fail
      go_cut [15] from 70 to 70 (fun s15 wx => s15 = .int .i64 n ∧ wx = Y)
      case first =>
       cases dd with
       | true =>
        have hn := HTN.out.1 rfl
        subst hn
        go_wp2_with fail
        go_meet
        case rel => exact ⟨rfl, rfl⟩
       | false =>
        have hn := HTN.out.2 rfl
        subst hn
        go_wp2_with fail
        go_meet
        case rel => exact ⟨rfl, rfl⟩
      case rest =>
       obtain ⟨rfl, rfl⟩ := hcut
       clear HTN HT
       have HTR : Hid (TabR n c.kind (rRb [c] (eff [a]))) := xh (by rw [← HN.out, ← HCB.out, ← HA.out]; exact yy743 g hi hk same)
       have HAB : Hid (ActB a) := xh (by rw [← HA.out, ← yy670 g hi]; exact tab_b g hi true)
       have HCBB : Hid (ActB c) := xh (by rw [← HCB.out]; exact tab_b g hk same)
       have HAO : Hid (∀ Y : World, Below W1.heap.size W1 Y → yy7 Y a.opsA a.ops) := xh (fun Y h => by rw [← HA.out, ← yy670 g hi]; exact yy773 (same := true) hi (HOPS.out Y h))
       have HCO : Hid (∀ Y : World, Below W1.heap.size W1 Y → yy7 Y c.opsA c.ops) := xh (fun Y h => by rw [← HCB.out]; exact yy773 hk (HOPS.out Y h))
       obtain ⟨RR, HRR⟩ : ∃ r, Hid (rRb [c] (eff [a]) = r) := ⟨_, xh rfl⟩
       rw [HRR.out] at HTR
       have GOF := xh (fun (Z : World) (gx : Nat) (h : ActsAt Z (some ⟨gx, 0, none⟩) [a]) => yy124 (some ⟨gx, 0, none⟩) 1 [a] (by simp) (by simp) (fun y hy => by rw [List.mem_singleton.1 hy]; exact HAB.out.1) Z h)
       have GOV : Hid (∀ (Z : World), Below W1.heap.size W1 Z → ∀ gx : Nat, ActsAt Z (some ⟨gx, 0, none⟩) [c] → ∀ (A4 : Option Addr) (c4 : Nat) (L : List OneV), OnesAt Z A4 L → L.map (·.k) = eff [a] → (∀ y ∈ L, y.Good) → L.length ≤ c4 → Calls Tryd.prog 15 #[.slice (some ⟨gx, 0, none⟩) 1 1, .slice A4 L.length c4] Z fun e w' => (∃ A5 c5 out v, e = .returned (.tuple #[.slice A5 (List.length out) c5, v, .int .i64 RR.2]) ∧ ActsAt w' A5 out ∧ out.map aKey = RR.1.map aKey) ∧ Below Z.heap.size Z w') := xh (fun Z hZ gx h A4 c4 L hL hk hgd hc4 => by
        obtain ⟨hL1, hL2⟩ := yy113 hk (fun y hy => by rw [List.mem_singleton.1 hy]; exact HAB.out.1) hgd
        have hq := yy99 (some ⟨gx, 0, none⟩) 1 [c] (by simp) (by simp) (fun y hy => by rw [List.mem_singleton.1 hy]; exact HCBB.out) A4 c4 L (by have : [a].length = 1 := rfl; omega) hc4 hL2 Z h hL (HCF.out Z (HBF.out Z hZ))
        rw [hk, HRR.out] at hq
        exact hq.mono fun e w' ⟨⟨A5, c5, out, v, V, he, ho, hkk, _⟩, hb⟩ => ⟨⟨A5, c5, out, v, he, ho.acts, hkk⟩, hb⟩)
       have HCN : Hid (∀ Z : World, Below W1.heap.size W1 Z → yy7 Z c.opsA c.ops) := HCO
       have HO_c := HCO
       have HO_a := HAO
       clear HCO HAO HCN HRR HN HA HCB HBB HCI HCK
       obtain ⟨Y, HY⟩ : ∃ Y, Y = wc := ⟨_, rfl⟩
       rw [← HY] at HA6 HB6 HD6 ⊢
       clear HY
       go_upto_region 11 with fail
       go_cut [16, 18] from 71 to 80 (fun s16 s18 wx => ∃ A5 c5 out, s16 = .slice A5 (List.length out) c5 ∧ s18 = .int .i64 RR.2 ∧ Hid (out.map aKey = RR.1.map aKey) ∧ Hid (ActsAt wx A5 out) ∧ Hid (Below Y.heap.size Y wx))
       case first =>
        refine Sched.yy694 (some Y.heap.size) tabP (by kernel_rfl) (by kernel_rfl) (fun _ _ d _ _ h => by cases d <;> exact h) ?_
        have HBYD : Hid (Below Y.heap.size Y Y.drew) := xh (Below.drew (Below.refl _ _))
        have HSY : Hid (Y.heap.size = Y.drew.heap.size) := xh rfl
        have hsd : Y.heap.size = Y.drew.heap.size := rfl
        rw [hsd]
        clear hsd
        generalize Y.drew = wd at HBYD HSY ⊢
        have HBW := xh (fun (Z : World) (h : Below wd.heap.size wd Z) => HD6.out.trans ((HBYD.out.trans (h.mono (by rw [HSY.out]; exact Nat.le_refl _))).mono HD6.out.size))
        have HYA := xh (fun e : ExtB (some wd.heap.size) wd => yy11 (show World.rowIs e.val ga 46 6 (sixV (.int .i64 a.kind) (.int .i64 a.id) (.int .i64 a.parent) (.string (bstr a.name)) (.bool a.dir) (.slice a.opsA a.ops.length a.opsC)) from HA6.out.of_block ((HBYD.out.trans (e.property.mono HBYD.out.size)).block _ HA6.out.lt)))
        have HYB := xh (fun e : ExtB (some wd.heap.size) wd => yy11 (show World.rowIs e.val gb 46 6 (sixV (.int .i64 c.kind) (.int .i64 c.id) (.int .i64 c.parent) (.string (bstr c.name)) (.bool c.dir) (.slice c.opsA c.ops.length c.opsC)) from HB6.out.of_block ((HBYD.out.trans (e.property.mono HBYD.out.size)).block _ HB6.out.lt)))
        have y0 := fun e => (HYA.out e).1
        have y1 := fun e => (HYA.out e).2.1
        have y2 := fun e => (HYA.out e).2.2.1
        have y3 := fun e => (HYA.out e).2.2.2.1
        have y4 := fun e => (HYA.out e).2.2.2.2.1
        have y5 := fun e => (HYA.out e).2.2.2.2.2
        have z0 := fun e => (HYB.out e).1
        have z1 := fun e => (HYB.out e).2.1
        have z2 := fun e => (HYB.out e).2.2.1
        have z3 := fun e => (HYB.out e).2.2.2.1
        have z4 := fun e => (HYB.out e).2.2.2.2.1
        have z5 := fun e => (HYB.out e).2.2.2.2.2
        simp only [tabP, tabP0, tabP1, Sched.picked, List.getElem?_cons_succ, List.getElem?_cons_zero, Option.getD_some]
        repeat (first | (refine Sched.yy857 (by rfl) (fun K hK => ?_); go_big_quiet_op; refine hK _ ?_; clear hK K) | (refine Sched.yy671 (by rfl) ?_; simp only [Act.put, xsa, xsz, xss]))
        clear y0 y1 y2 y3 y4 y5 z0 z1 z2 z3 z4 z5 HYA HYB
        obtain ⟨s0, HS0⟩ : ∃ s, Hid (wd.heap.size = s) := ⟨_, xh rfl⟩
        rw [HS0.out] at HBW ⊢
        have HB_wd : Hid (Below s0 wd wd) := xh (by rw [← HS0.out]; exact Below.refl _ _)
        have HS_wd : Hid (s0 ≤ wd.heap.size) := xh (by rw [HS0.out]; exact Nat.le_refl _)
        refine Sched.walk_two ?_ ?_
        ·-- the later one's row first
         refine Sched.walk_one (by rfl) (fun K hK => ?_)
         go_simp
         refine hK _ _ (yy267 HS_wd.out _) ?_
         clear hK K
         have hl : ActsAt (wd.alloc (.cells #[.int .i64 c.kind, .int .i64 c.id, .int .i64 c.parent, .string (bstr c.name), .bool c.dir, .slice c.opsA c.ops.length c.opsC] 46)) (some ⟨wd.heap.size, 0, none⟩) [c] := yy51 wd c (HO_c.out wd (HBW.out _ HB_wd.out)) _ rfl
         have hb : Below s0 wd (wd.alloc (.cells #[.int .i64 c.kind, .int .i64 c.id, .int .i64 c.parent, .string (bstr c.name), .bool c.dir, .slice c.opsA c.ops.length c.opsC] 46)) := HB_wd.out.alloc HS_wd.out _
         have hcar : ∀ X : World, X = wd → Below X.heap.size X (wd.alloc (.cells #[.int .i64 c.kind, .int .i64 c.id, .int .i64 c.parent, .string (bstr c.name), .bool c.dir, .slice c.opsA c.ops.length c.opsC] 46)) := fun X h => by subst h; exact (Below.refl _ _).alloc (Nat.le_refl _) _
         generalize wd.heap.size = n1 at hl ⊢
         generalize wd.alloc (.cells #[.int .i64 c.kind, .int .i64 c.id, .int .i64 c.parent, .string (bstr c.name), .bool c.dir, .slice c.opsA c.ops.length c.opsC] 46) = v1 at hl hb hcar ⊢
         have HL_c := xh hl
         have HB_v1 := xh hb
         have HS_v1 : Hid (s0 ≤ v1.heap.size) := xh (by have := hb.size; have := HS0.out; omega)
         clear hl hb hcar
         refine Sched.walk_one (by rfl) (fun K hK => ?_)
         go_simp
         refine hK _ _ (yy267 HS_v1.out _) ?_
         clear hK K
         have hl : ActsAt (v1.alloc (.cells #[.int .i64 a.kind, .int .i64 a.id, .int .i64 a.parent, .string (bstr a.name), .bool a.dir, .slice a.opsA a.ops.length a.opsC] 46)) (some ⟨v1.heap.size, 0, none⟩) [a] := yy51 v1 a (HO_a.out v1 (HBW.out _ HB_v1.out)) _ rfl
         have hb : Below s0 wd (v1.alloc (.cells #[.int .i64 a.kind, .int .i64 a.id, .int .i64 a.parent, .string (bstr a.name), .bool a.dir, .slice a.opsA a.ops.length a.opsC] 46)) := HB_v1.out.alloc HS_v1.out _
         have hcar : ∀ X : World, X = v1 → Below X.heap.size X (v1.alloc (.cells #[.int .i64 a.kind, .int .i64 a.id, .int .i64 a.parent, .string (bstr a.name), .bool a.dir, .slice a.opsA a.ops.length a.opsC] 46)) := fun X h => by subst h; exact (Below.refl _ _).alloc (Nat.le_refl _) _
         generalize v1.heap.size = n2 at hl ⊢
         generalize v1.alloc (.cells #[.int .i64 a.kind, .int .i64 a.id, .int .i64 a.parent, .string (bstr a.name), .bool a.dir, .slice a.opsA a.ops.length a.opsC] 46) = v2 at hl hb hcar ⊢
         have HL_a := xh hl
         have HB_v2 := xh hb
         have HS_v2 : Hid (s0 ≤ v2.heap.size) := xh (by have := hb.size; have := HS0.out; omega)
         replace HL_c := xh (HL_c.out.below (hcar _ rfl))
         clear hl hb hcar
         refine Sched.walk_one (by rfl) (fun K hK => ?_)
         go_simp
         refine (GOF.out v2 n2 HL_a.out).mono ?_
         rintro e v3 ⟨⟨v, rfl, A4, c4, L, rfl, hat, hk, hg, hc4⟩, hb⟩
         refine hK _ _ (hb.mono HS_v2.out) ?_
         clear hK K
         have HB_v3 : Hid (Below s0 wd v3) := xh (HB_v2.out.trans (hb.mono HS_v2.out))
         have HS_v3 : Hid (s0 ≤ v3.heap.size) := xh (by have := HB_v3.out.size; have := HS0.out; omega)
         have HAT := xh hat
         have HK4 := xh hk
         have HG4 := xh hg
         have HC4 := xh hc4
         replace HL_c := xh (HL_c.out.below hb)
         clear hat hk hg hc4 hb
         refine Sched.walk_one (by rfl) (fun K hK => ?_)
         go_simp
         refine (GOV.out v3 (HBW.out _ HB_v3.out) n1 HL_c.out A4 c4 L HAT.out HK4.out HG4.out HC4.out).mono ?_
         rintro e zz ⟨⟨A5, c5, out, v5, rfl, ho, hkk⟩, hb⟩
         refine hK _ _ (hb.mono HS_v3.out) ?_
         clear hK K
         have HBZ : Hid (Below Y.heap.size Y zz) := xh (HBYD.out.trans ((HB_v3.out.trans (hb.mono HS_v3.out)).mono (by rw [HSY.out, HS0.out]; exact Nat.le_refl _)))
         repeat (first | (refine Sched.yy857 (by rfl) (fun K hK => ?_); go_big_quiet_op; refine hK _ ?_; clear hK K) | (refine Sched.yy671 (by rfl) ?_; simp only [Act.put, xsa, xsz, xss]))
         refine Sched.walk_done ?_
         go_wp2_with fail
         go_meet
         case rel => exact ⟨A5, c5, out, rfl, rfl, xh hkk, xh ho, HBZ⟩
        ·-- the first one's row first
         refine Sched.walk_one (by rfl) (fun K hK => ?_)
         go_simp
         refine hK _ _ (yy267 HS_wd.out _) ?_
         clear hK K
         have hl : ActsAt (wd.alloc (.cells #[.int .i64 a.kind, .int .i64 a.id, .int .i64 a.parent, .string (bstr a.name), .bool a.dir, .slice a.opsA a.ops.length a.opsC] 46)) (some ⟨wd.heap.size, 0, none⟩) [a] := yy51 wd a (HO_a.out wd (HBW.out _ HB_wd.out)) _ rfl
         have hb : Below s0 wd (wd.alloc (.cells #[.int .i64 a.kind, .int .i64 a.id, .int .i64 a.parent, .string (bstr a.name), .bool a.dir, .slice a.opsA a.ops.length a.opsC] 46)) := HB_wd.out.alloc HS_wd.out _
         have hcar : ∀ X : World, X = wd → Below X.heap.size X (wd.alloc (.cells #[.int .i64 a.kind, .int .i64 a.id, .int .i64 a.parent, .string (bstr a.name), .bool a.dir, .slice a.opsA a.ops.length a.opsC] 46)) := fun X h => by subst h; exact (Below.refl _ _).alloc (Nat.le_refl _) _
         generalize wd.heap.size = n1 at hl ⊢
         generalize wd.alloc (.cells #[.int .i64 a.kind, .int .i64 a.id, .int .i64 a.parent, .string (bstr a.name), .bool a.dir, .slice a.opsA a.ops.length a.opsC] 46) = v1 at hl hb hcar ⊢
         have HL_a := xh hl
         have HB_v1 := xh hb
         have HS_v1 : Hid (s0 ≤ v1.heap.size) := xh (by have := hb.size; have := HS0.out; omega)
         clear hl hb hcar
         refine Sched.walk_two ?_ ?_
         ·-- both rows, then the call
          refine Sched.walk_one (by rfl) (fun K hK => ?_)
          go_simp
          refine hK _ _ (yy267 HS_v1.out _) ?_
          clear hK K
          have hl : ActsAt (v1.alloc (.cells #[.int .i64 c.kind, .int .i64 c.id, .int .i64 c.parent, .string (bstr c.name), .bool c.dir, .slice c.opsA c.ops.length c.opsC] 46)) (some ⟨v1.heap.size, 0, none⟩) [c] := yy51 v1 c (HO_c.out v1 (HBW.out _ HB_v1.out)) _ rfl
          have hb : Below s0 wd (v1.alloc (.cells #[.int .i64 c.kind, .int .i64 c.id, .int .i64 c.parent, .string (bstr c.name), .bool c.dir, .slice c.opsA c.ops.length c.opsC] 46)) := HB_v1.out.alloc HS_v1.out _
          have hcar : ∀ X : World, X = v1 → Below X.heap.size X (v1.alloc (.cells #[.int .i64 c.kind, .int .i64 c.id, .int .i64 c.parent, .string (bstr c.name), .bool c.dir, .slice c.opsA c.ops.length c.opsC] 46)) := fun X h => by subst h; exact (Below.refl _ _).alloc (Nat.le_refl _) _
          generalize v1.heap.size = n2 at hl ⊢
          generalize v1.alloc (.cells #[.int .i64 c.kind, .int .i64 c.id, .int .i64 c.parent, .string (bstr c.name), .bool c.dir, .slice c.opsA c.ops.length c.opsC] 46) = v2 at hl hb hcar ⊢
          have HL_c := xh hl
          have HB_v2 := xh hb
          have HS_v2 : Hid (s0 ≤ v2.heap.size) := xh (by have := hb.size; have := HS0.out; omega)
          replace HL_a := xh (HL_a.out.below (hcar _ rfl))
          clear hl hb hcar
          refine Sched.walk_one (by rfl) (fun K hK => ?_)
          go_simp
          refine (GOF.out v2 n1 HL_a.out).mono ?_
          rintro e v3 ⟨⟨v, rfl, A4, c4, L, rfl, hat, hk, hg, hc4⟩, hb⟩
          refine hK _ _ (hb.mono HS_v2.out) ?_
          clear hK K
          have HB_v3 : Hid (Below s0 wd v3) := xh (HB_v2.out.trans (hb.mono HS_v2.out))
          have HS_v3 : Hid (s0 ≤ v3.heap.size) := xh (by have := HB_v3.out.size; have := HS0.out; omega)
          have HAT := xh hat
          have HK4 := xh hk
          have HG4 := xh hg
          have HC4 := xh hc4
          replace HL_c := xh (HL_c.out.below hb)
          clear hat hk hg hc4 hb
          refine Sched.walk_one (by rfl) (fun K hK => ?_)
          go_simp
          refine (GOV.out v3 (HBW.out _ HB_v3.out) n2 HL_c.out A4 c4 L HAT.out HK4.out HG4.out HC4.out).mono ?_
          rintro e zz ⟨⟨A5, c5, out, v5, rfl, ho, hkk⟩, hb⟩
          refine hK _ _ (hb.mono HS_v3.out) ?_
          clear hK K
          have HBZ : Hid (Below Y.heap.size Y zz) := xh (HBYD.out.trans ((HB_v3.out.trans (hb.mono HS_v3.out)).mono (by rw [HSY.out, HS0.out]; exact Nat.le_refl _)))
          repeat (first | (refine Sched.yy857 (by rfl) (fun K hK => ?_); go_big_quiet_op; refine hK _ ?_; clear hK K) | (refine Sched.yy671 (by rfl) ?_; simp only [Act.put, xsa, xsz, xss]))
          refine Sched.walk_done ?_
          go_wp2_with fail
          go_meet
          case rel => exact ⟨A5, c5, out, rfl, rfl, xh hkk, xh ho, HBZ⟩
         ·-- the call, then the other row
          refine Sched.walk_one (by rfl) (fun K hK => ?_)
          go_simp
          refine (GOF.out v1 n1 HL_a.out).mono ?_
          rintro e v2 ⟨⟨v, rfl, A4, c4, L, rfl, hat, hk, hg, hc4⟩, hb⟩
          refine hK _ _ (hb.mono HS_v1.out) ?_
          clear hK K
          have HB_v2 : Hid (Below s0 wd v2) := xh (HB_v1.out.trans (hb.mono HS_v1.out))
          have HS_v2 : Hid (s0 ≤ v2.heap.size) := xh (by have := HB_v2.out.size; have := HS0.out; omega)
          have HAT := xh hat
          have HK4 := xh hk
          have HG4 := xh hg
          have HC4 := xh hc4
          clear hat hk hg hc4 hb
          refine Sched.walk_one (by rfl) (fun K hK => ?_)
          go_simp
          refine hK _ _ (yy267 HS_v2.out _) ?_
          clear hK K
          have hl : ActsAt (v2.alloc (.cells #[.int .i64 c.kind, .int .i64 c.id, .int .i64 c.parent, .string (bstr c.name), .bool c.dir, .slice c.opsA c.ops.length c.opsC] 46)) (some ⟨v2.heap.size, 0, none⟩) [c] := yy51 v2 c (HO_c.out v2 (HBW.out _ HB_v2.out)) _ rfl
          have hb : Below s0 wd (v2.alloc (.cells #[.int .i64 c.kind, .int .i64 c.id, .int .i64 c.parent, .string (bstr c.name), .bool c.dir, .slice c.opsA c.ops.length c.opsC] 46)) := HB_v2.out.alloc HS_v2.out _
          have hcar : ∀ X : World, X = v2 → Below X.heap.size X (v2.alloc (.cells #[.int .i64 c.kind, .int .i64 c.id, .int .i64 c.parent, .string (bstr c.name), .bool c.dir, .slice c.opsA c.ops.length c.opsC] 46)) := fun X h => by subst h; exact (Below.refl _ _).alloc (Nat.le_refl _) _
          generalize v2.heap.size = n2 at hl ⊢
          generalize v2.alloc (.cells #[.int .i64 c.kind, .int .i64 c.id, .int .i64 c.parent, .string (bstr c.name), .bool c.dir, .slice c.opsA c.ops.length c.opsC] 46) = v3 at hl hb hcar ⊢
          have HL_c := xh hl
          have HB_v3 := xh hb
          have HS_v3 : Hid (s0 ≤ v3.heap.size) := xh (by have := hb.size; have := HS0.out; omega)
          replace HAT := xh (HAT.out.below (hcar _ rfl))
          clear hl hb hcar
          refine Sched.walk_one (by rfl) (fun K hK => ?_)
          go_simp
          refine (GOV.out v3 (HBW.out _ HB_v3.out) n2 HL_c.out A4 c4 L HAT.out HK4.out HG4.out HC4.out).mono ?_
          rintro e zz ⟨⟨A5, c5, out, v5, rfl, ho, hkk⟩, hb⟩
          refine hK _ _ (hb.mono HS_v3.out) ?_
          clear hK K
          have HBZ : Hid (Below Y.heap.size Y zz) := xh (HBYD.out.trans ((HB_v3.out.trans (hb.mono HS_v3.out)).mono (by rw [HSY.out, HS0.out]; exact Nat.le_refl _)))
          repeat (first | (refine Sched.yy857 (by rfl) (fun K hK => ?_); go_big_quiet_op; refine hK _ ?_; clear hK K) | (refine Sched.yy671 (by rfl) ?_; simp only [Act.put, xsa, xsz, xss]))
          refine Sched.walk_done ?_
          go_wp2_with fail
          go_meet
          case rel => exact ⟨A5, c5, out, rfl, rfl, xh hkk, xh ho, HBZ⟩
       case rest =>
        obtain ⟨A5, c5, out, rfl, rfl, HKK, HO, HBX⟩ := hcut
        have HDX := xh (HD6.out.trans (HBX.out.mono HD6.out.size))
        have HB7 := xh (yy11 (show World.rowIs wc gb 46 6 (sixV (.int .i64 c.kind) (.int .i64 c.id) (.int .i64 c.parent) (.string (bstr c.name)) (.bool c.dir) (.slice c.opsA c.ops.length c.opsC)) from HB6.out.of_block (HBX.out.block _ HB6.out.lt)))
        clear GOF GOV HO_c HO_a HAB HCBB HA6 HB6 HD6 HBX HOPS HCELLS
        rcases HTR.out with ⟨rfl, y, rfl, hyk⟩ | ⟨rfl, rfl⟩ | ⟨h0, h1, hR⟩
        ·obtain ⟨yy, rfl, hky⟩ := yy100 HKK.out
         have hkk : yy.kind = c.kind := by
          have := congrArg (·.1) hky
          exact (show yy.kind = y.kind from this).trans hyk
         have HKY := xh hkk
         clear hky hyk hkk HTR HKK
         obtain ⟨b5, o5, rfl, _⟩ := HO.out.form (by simp)
         have q0 := (HO.out.at_ (i := 0) (by simp)).1
         simp only [List.getElem_cons_zero, Nat.zero_mul, Nat.add_zero] at q0
         rw [HKY.out] at q0
         have q1 := HB7.out.1
         generalize c.kind = ck at q0 q1
         have hQ0 := xh q0
         have hQ1 := xh q1
         clear q0 q1 HB7 HKY HO
         go_upto_region 14 with fail
         refine wp_region_lit sc14 (by kernel_rfl) (by kernel_rfl) (fun _ _ d _ _ h => by cases d <;> exact h) ?_
         simp only [picked, sc14, xmc, xmn, xgs, xgz, xgd]
         have HDD := xh (Below.drew HDX.out)
         have q0 := fun e : Ext wc.drew => Ext.cell (w := wc.drew) hQ0.out e
         have q1 := fun e : Ext wc.drew => Ext.cell (w := wc.drew) hQ1.out e
         have hck : (ck == ck) = true := by simp
         generalize wc.drew = wf at HDD q0 q1 ⊢
         repeat (first | (refine yy0 (by rfl) (fun K hK => ?_); go_big_quiet_op; refine hK _ ?_; clear hK K) | (refine yy2 (by rfl) ?_; simp only [Act.put, xsa, xsz, xss]))
         clear q0 q1 hck
         refine yy4 (by rfl) (fun K hK => ?_)
         go_simp
         refine (GW.out _ (HBF.out _ HDD.out)).mono ?_
         rintro e xf ⟨rfl, hb⟩
         replace HDD := xh (HDD.out.trans (hb.mono HDD.out.size))
         refine hK _ _ hb ?_
         clear hK K hb
         repeat (first | (refine yy0 (by rfl) (fun K hK => ?_); go_big_quiet_op; refine hK _ ?_; clear hK K) | (refine yy2 (by rfl) ?_; simp only [Act.put, xsa, xsz, xss]))
         refine yy13 ?_
         go_wp2
         go_ret
         exact ⟨rfl, HBF.out _ HDD.out⟩
        ·obtain rfl := yy63 HKK.out
         clear HTR HKK HO HB7
         go_wp2_with fail
         refine (GW.out _ (HBF.out _ HDX.out)).mono ?_
         rintro e xf ⟨rfl, hb⟩
         replace HDX := xh (HDX.out.trans (hb.mono HDX.out.size))
         clear hb
         go_wp2
         go_ret
         exact ⟨rfl, HBF.out _ HDX.out⟩
        ·subst hR
         obtain rfl := yy63 HKK.out
         clear HTR HKK HO HB7
         have e0 : (n == 0) = false := xn h0
         have e1 : (n == 1) = false := xn h1
         have e2 : (n == n) = true := by simp
         clear h0 h1
         go_wp2_with fail
         refine (GW.out _ (HBF.out _ HDX.out)).mono ?_
         rintro e xf ⟨rfl, hb⟩
         replace HDX := xh (HDX.out.trans (hb.mono HDX.out.size))
         clear hb
         go_wp2
         go_ret
         exact ⟨rfl, HBF.out _ HDX.out⟩
end Go.Proofs.YtjpjdkdbgjipnaaDoor
