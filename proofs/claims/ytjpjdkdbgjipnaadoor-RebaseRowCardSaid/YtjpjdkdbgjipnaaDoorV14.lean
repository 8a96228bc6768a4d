/- The document's own Do, over nodes: the ways that refuse. Conditions: no more than 2^20 nodes, nodes and acts that may be. -/
import Derived.Test.YtjpjdkdbgjipnaaDoorV10
import Derived.Test.YtjpjdkdbgjipnaaDoorV44
import Derived.Test.YtjpjdkdbgjipnaaDoorV13
namespace Go.Proofs.YtjpjdkdbgjipnaaDoor
open Go.RowKit Go.Deep
def NDo (w' : World) (R : List NodeV × Int) (e : Ending) : Prop := ∃ A' c', e = .returned (.tuple #[.slice A' R.1.length c', .int .i64 R.2]) ∧ NodesC w' A' c' R.1
set_option maxHeartbeats 2000000 in
set_option maxRecDepth 100000 in
theorem yy417 (A : Option Addr) (c : Nat) (l : List NodeV) (a : ActV) (hl : l.length ≤ 1048576) (hk : a.kind = 2 ∨ a.kind = 4) (hno : ∀ q, rFind l a.id ≠ some q) (w : World) (hC : NodesC w A c l) :
  Calls Tryd.prog 33 #[.slice A l.length c, .agg (yy0 a).toArray] w fun e w' => NDo w' (rDo l a) e ∧ Below w.heap.size w w' := by
 have HC := xh hC
 clear hC
 obtain ⟨w1, HW1⟩ : ∃ x', Hid (w.alloc (.cells (yy0 a).toArray 46) = x') := ⟨_, xh rfl⟩
 have hs1 : w1.heap.size = w.heap.size + 1 := by rw [← HW1.out]; simp
 have HB1 : Hid (Below w.heap.size w w1) := by
  show Below _ _ _
  rw [← HW1.out]
  exact (Below.refl _ _).alloc (Nat.le_refl _) _
 have HX : Hid (∀ (f : Nat) (v : Value), (yy0 a)[f]? = some v → w1.cell? ⟨w.heap.size, f, none⟩ = some v) := by
  intro f v hf
  rw [← HW1.out, cell_of_row _ _ _ _ _ _ (heap_alloc_new w _)]
  simpa using hf
 have HA := xh (HC.out.1.below HB1.out)
 have GF := xh (yy223 A c l a.id (by unfold maxLen; omega) w1 HA.out)
 obtain ⟨kk, ii, pp, nn, dd, oA, oC, oo⟩ := a
 simp only [yy0] at *
 have x0 := HX.out 0 _ rfl
 have x1 := HX.out 1 _ rfl
 have x2 := HX.out 2 _ rfl
 have x3 := HX.out 3 _ rfl
 have x4 := HX.out 4 _ rfl
 have x5 := HX.out 5 _ rfl
 cases hf : rFind l ii with
 | some q =>
  exact absurd hf (hno q)
 | none =>
  rw [hf, show findI none = -1 from rfl] at GF
  rcases hk with hk | hk
  ·obtain rfl : kk = 2 := hk
   rw [rDo_r1 rfl hf]
   clear hf hno
   go_enter Tryd.func33, Tryd.ntmps33
   go_wp2_with fail
   try rw [HW1.out]
   refine (GF.out).mono ?_
   rintro e v ⟨rfl, rfl⟩
   go_wp2
   try rw [HW1.out]
   go_ret2
   exact ⟨⟨_, _, rfl, HC.out.below HB1.out⟩, HB1.out⟩
  ·obtain rfl : kk = 4 := hk
   rw [rDo_e1 rfl hf]
   clear hf hno
   go_enter Tryd.func33, Tryd.ntmps33
   go_wp2_with fail
   try rw [HW1.out]
   refine (GF.out).mono ?_
   rintro e v ⟨rfl, rfl⟩
   go_wp2
   try rw [HW1.out]
   go_ret2
   exact ⟨⟨_, _, rfl, HC.out.below HB1.out⟩, HB1.out⟩
end Go.Proofs.YtjpjdkdbgjipnaaDoor
