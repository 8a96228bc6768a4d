/- The landed Same, Idle, Keep of parts. Condition: no slice is longer than memory. (Merged of 7 texts.) -/
import Derived.Test.YtnadhpajelkngaaKEdit
import Derived.Test.YtnadhpajelkngaaKBase
import Derived.Laws.RangeString
import Derived.Laws.RangeAny
import Derived.Lib.DecodeN
import Derived.Laws.Rows
import Derived.Test.YtnadhpajelkngaaKRef
import Derived.Lib.AppendStr
import Derived.Test.YtnadhpajelkngaaKUw
import Derived.WalkMore
import Derived.Test.YtnadhpajelkngaaKUm
import Derived.Laws.StructEq
/- The library's count of a string's runes is the document's loose count of its bytes, texts or not. Condition: no more than 2^40 bytes. -/
namespace Go.Proofs.Ytnadhpajelkngaa
open Go.RowKit Go.Deep

/-- How many bytes a code point that was read has. -/
def wid : Option (Nat × List Nat) → Nat
  | some (v, _) => (enc v).length
  | none => 1
theorem wid_ite (p : Prop) [Decidable p] (a b : Option (Nat × List Nat)) : wid (if p then a else b) = if p then wid a else wid b := by split <;> rfl
theorem wid_none : wid none = 1 := rfl
theorem wid_some (v : Nat) (r : List Nat) : wid (some (v, r)) = if v < 128 then 1 else if v < 2048 then 2 else if v < 65536 then 3 else 4 := enc_length v
theorem lse_wid (l : List Nat) : lseStep l = wid (st l) := by
  unfold lseStep
  cases st l with
  | none => rfl
  | some p => rfl
theorem snd_ite (p : Prop) [Decidable p] (a b : Nat × Nat) : (if p then a else b).2 = if p then a.2 else b.2 := by split <;> rfl

set_option maxHeartbeats 4000000 in
theorem lse_decode1 (c : Nat) (d e f : Nat) : lseStep [c] = (Lib.decodeN 1 c d e f).2 := by
  rw [lse_wid, st_cons]
  simp only [fur_zero, fur_nil, wid_ite, wid_none, wid_some, Lib.decodeN, snd_ite]
  unfold May
  repeat' split
  all_goals omega
set_option maxHeartbeats 4000000 in
theorem lse_decode2 (c d : Nat) (h : c < 256) (hd : d < 256) (e f : Nat) : lseStep [c, d] = (Lib.decodeN 2 c d e f).2 := by
  rw [lse_wid, st_cons]
  simp only [fur_cons, fur_zero, fur_nil, wid_ite, wid_none, wid_some, Lib.decodeN, snd_ite]
  unfold May
  repeat' split
  all_goals omega
set_option maxHeartbeats 4000000 in
theorem lse_decode3 (c d e : Nat) (h : c < 256) (f : Nat) : lseStep [c, d, e] = (Lib.decodeN 3 c d e f).2 := by
  rw [lse_wid, st_cons]
  simp only [fur_cons, fur_zero, fur_nil, wid_ite, wid_none, wid_some, Lib.decodeN, snd_ite]
  unfold May
  repeat' split
  all_goals omega
set_option maxHeartbeats 8000000 in
theorem lse_decode4 (c d e f : Nat) (t : List Nat) (h : c < 256) (n : Nat) (hn : 4 ≤ n) : lseStep (c :: d :: e :: f :: t) = (Lib.decodeN n c d e f).2 := by
  have n1 : (1 < n) = True := eq_true (by omega)
  have n2 : (2 < n) = True := eq_true (by omega)
  have n3 : (3 < n) = True := eq_true (by omega)
  rw [lse_wid, st_cons]
  simp only [fur_cons, fur_zero, wid_ite, wid_none, wid_some, Lib.decodeN, snd_ite, n1, n2, n3, true_and]
  clear n1 n2 n3
  unfold May
  by_cases h1 : c < 128
  · simp only [h1, if_true]
    repeat' split
    all_goals omega
  by_cases h2 : c < 192
  · simp only [h1, h2, if_true, if_false, show ¬ c / 32 = 6 by omega, show ¬ c / 16 = 14 by omega, show ¬ c / 8 = 30 by omega, false_and]
  by_cases h3 : c < 224
  · simp only [h1, h2, h3, if_true, if_false, show c / 32 = 6 by omega, true_and]
    by_cases d1 : d / 64 = 2
    · simp only [d1, if_true]
      repeat' split
      all_goals omega
    · simp only [d1, if_false, show ¬ c / 16 = 14 by omega, show ¬ c / 8 = 30 by omega, false_and]
  by_cases h4 : c < 240
  · simp only [h1, h2, h3, h4, if_true, if_false, show ¬ c / 32 = 6 by omega, show c / 16 = 14 by omega, true_and, false_and]
    by_cases d1 : d / 64 = 2 <;> by_cases d2 : e / 64 = 2 <;> simp only [d1, d2, if_true, if_false, show ¬ c / 8 = 30 by omega, false_and, and_false, and_true]
    repeat' split
    all_goals omega
  by_cases h5 : c < 248
  · simp only [h1, h2, h3, h4, h5, if_true, if_false, show ¬ c / 32 = 6 by omega, show ¬ c / 16 = 14 by omega, show c / 8 = 30 by omega, true_and, false_and]
    by_cases d1 : d / 64 = 2 <;> by_cases d2 : e / 64 = 2 <;> by_cases d3 : f / 64 = 2 <;> simp only [d1, d2, d3, if_true, if_false, and_false, and_true]
    repeat' split
    all_goals omega
  · simp only [h1, h2, h3, h4, h5, if_false, show ¬ c / 32 = 6 by omega, show ¬ c / 16 = 14 by omega, show ¬ c / 8 = 30 by omega, false_and]

theorem bstr_get (l : List Nat) (hb : ∀ x ∈ l, x < 256) (i c : Nat) (h : l[i]? = some c) : ((bstr l).get! i).toNat = c := by
  have hi : i < l.length := (List.getElem?_eq_some_iff.1 h).1
  have hc : l[i] = c := (List.getElem?_eq_some_iff.1 h).2
  have hlt := hb _ (List.getElem_mem hi)
  have e2 : (bstr l).data.toList[i]? = some (UInt8.ofNat l[i]) := by
    rw [bstr_data, List.getElem?_map, List.getElem?_eq_getElem hi]
    rfl
  have e3 : (bstr l).data[i]? = some (UInt8.ofNat l[i]) := by rw [← Array.getElem?_toList]; exact e2
  show ((bstr l).data[i]!).toNat = c
  rw [Array.getElem!_eq_getD, Array.getD_eq_getD_getElem?, e3, ← hc]
  simp
  omega
/-- The model's own step over a string's bytes is the loose one. -/
theorem decode_lse (l : List Nat) (hb : ∀ x ∈ l, x < 256) (p : Nat) (hp : p < l.length) : (Utf8.decode (bstr l) p).2 = lseStep (l.drop p) := by
  rw [Lib.decode_at, bstr_size]
  have hlen : (l.drop p).length = l.length - p := List.length_drop
  have hg : ∀ k c, (l.drop p)[k]? = some c → ((bstr l).get! (p + k)).toNat = c ∧ c < 256 := fun k c h => by
    rw [List.getElem?_drop] at h
    exact ⟨bstr_get l hb _ _ h, hb _ (List.mem_of_getElem? h)⟩
  generalize l.drop p = r at hlen hg
  rw [← hlen]
  match r, hg, hlen with
  | [], _, hlen => simp at hlen; omega
  | [c], hg, _ =>
    have h0 := hg 0 c rfl
    rw [Nat.add_zero] at h0
    rw [h0.1]
    exact (lse_decode1 c _ _ _).symm
  | [c, d], hg, _ =>
    have h0 := hg 0 c rfl
    have h1 := hg 1 d rfl
    rw [Nat.add_zero] at h0
    rw [h0.1, h1.1]
    exact (lse_decode2 c d h0.2 h1.2 _ _).symm
  | [c, d, e], hg, _ =>
    have h0 := hg 0 c rfl
    have h1 := hg 1 d rfl
    have h2 := hg 2 e rfl
    rw [Nat.add_zero] at h0
    rw [h0.1, h1.1, h2.1]
    exact (lse_decode3 c d e h0.2 _).symm
  | c :: d :: e :: f :: t, hg, _ =>
    have h0 := hg 0 c rfl
    have h1 := hg 1 d rfl
    have h2 := hg 2 e rfl
    have h3 := hg 3 f rfl
    rw [Nat.add_zero] at h0
    rw [h0.1, h1.1, h2.1, h3.1]
    exact (lse_decode4 c d e f t h0.2 _ (by simp)).symm

set_option maxHeartbeats 1000000 in
set_option maxRecDepth 100000 in
theorem runes_any (l : List Nat) (hb : ∀ x ∈ l, x < 256) (hl : l.length ≤ 1099511627776) (w : World) :
    Calls Try.prog 71 #[.string (bstr l)] w fun e w' => e = .returned (.int .i64 (loose l : Int)) ∧ Below w.heap.size w w' := by
  have hsz := bstr_size l
  have HB := Lib.hid hb; clear hb
  obtain ⟨T, HT⟩ : ∃ T, Hid (loose l = T) := ⟨_, Lib.hid rfl⟩
  have HTL : Hid (T ≤ l.length) := by show _ ≤ _; rw [← HT.out]; exact loose_le l
  rw [HT.out]
  go_enter Try.func71, Try.ntmps71
  go_wp2
  go_loopw [2] (fun n wr => ∃ p q : Nat, wr = w.iter (bstr l) p ∧ p ≤ l.length ∧ n = .int .i64 q ∧ q + loose (l.drop p) = T) (fun _ wr => l.length - wr.iterPos w.heap.size)
  case atStart => exact ⟨0, 0, rfl, Nat.zero_le _, rfl, by rw [Nat.zero_add]; exact HT.out⟩
  case round =>
    obtain ⟨p, q, rfl, hp, rfl, hq⟩ := hrel
    have HQ := Lib.hid hq; clear hq
    by_cases hlt : p < l.length
    · have hnx : ∀ ty, (Instr.next (.pointer (some ⟨w.heap.size, 0, none⟩)) true ty).run Try.prog (w.iter (bstr l) p) = _ := fun ty => run_next_any w (bstr l) p ty (by rw [hsz]; exact hlt)
      have HW := Lib.hid (decode_lse l HB.out p hlt)
      have hne : l.drop p ≠ [] := fun e => by have := congrArg List.length e; rw [List.length_drop] at this; simp at this; omega
      have hs1 := lseStep_pos (l.drop p)
      have hs2 := lseStep_le hne
      rw [List.length_drop] at hs2
      have HN := Lib.hid (loose_next hne)
      rw [List.drop_drop] at HN
      clear hne
      obtain ⟨s, HS⟩ : ∃ s, Hid (lseStep (l.drop p) = s) := ⟨_, Lib.hid rfl⟩
      rw [HS.out] at hs1 hs2 HN HW
      have HQ2 : Hid (q + 1 + loose (l.drop (p + s)) = T) := by show _ = _; have := HQ.out; rw [HN.out] at this; omega
      have hqt : q < 1099511627776 := by have := HQ2.out; have := HTL.out; omega
      have hpl : p + s ≤ l.length := by omega
      rw [HW.out] at hnx
      generalize (Utf8.decode (bstr l) p).1 = v at hnx
      go_wp2
      go_roundw
      case rel => exact ⟨p + s, q + 1, rfl, hpl, by go_num, HQ2.out⟩
      case measure => simp; omega
    · have hnx : ∀ ty, (Instr.next (.pointer (some ⟨w.heap.size, 0, none⟩)) true ty).run Try.prog (w.iter (bstr l) p) = _ := fun ty => run_next_end w (bstr l) p ty (by rw [hsz]; exact hlt)
      have HE : Hid (q = T) := by
        show q = T
        have := HQ.out
        rw [List.drop_eq_nil_of_le (by omega), loose_nil] at this
        omega
      go_wp2
      go_ret
      exact ⟨by rw [← HE.out]; rfl, (Below.refl _ _).alloc (Nat.le_refl _) _⟩
end Go.Proofs.Ytnadhpajelkngaa

/- The landed sum, Base, Out, and the parts that retain, insert, remove make. Condition: no text of more than 2^40 bytes. -/
namespace Go.Proofs.Ytnadhpajelkngaa
open Go.RowKit Go.Deep

theorem opSum_any (a b : Int) (h0 : 0 ≤ a) (h1 : a ≤ 1099511627776) (w : World) :
    Calls Try.prog 63 #[.int .i64 a, .int .i64 b] w fun e w' => e = .returned (.int .i64 (hld a b)) ∧ w = w' := by
  rcases (show b < 0 ∨ (0 ≤ b ∧ b ≤ 1099511627776) ∨ 1099511627776 < b by omega) with g | ⟨g, g'⟩ | g <;>
    rcases (show a + b ≤ 1099511627776 ∨ 1099511627776 < a + b by omega) with k | k <;>
    · go_enter Try.func63, Try.ntmps63
      go_wp2
      all_goals
        go_ret
        refine ⟨Eq.trans (b := Ending.returned (.int .i64 _)) rfl (congrArg (fun n : Int => Ending.returned (.int .i64 n)) ?_), rfl⟩
        unfold hld
        omega

/-- A part as a value. -/
def compVal (c : CompV) : Value := .agg #[.int .i64 c.kind, .int .i64 c.n, .string (bstr c.text)]
theorem opRetain_any (n : Int) (w : World) :
    Calls Try.prog 72 #[.int .i64 n] w fun e w' => e = .returned (.agg #[.int .i64 1, .int .i64 n, .string (bstr [])]) ∧ Below w.heap.size w w' := by
  go_enter Try.func72, Try.ntmps72
  go_wp2
  refine bodyPost_ret (results_cell_row rfl _ _ w.heap.size 54 #[.int .i64 1, .int .i64 n, .string (bstr [])] (0, 0) _ rfl (heap_alloc_new w _) Try.underlying54 rfl (by kernel_rfl)) rfl ?_
  exact ⟨rfl, (Below.refl _ _).alloc (Nat.le_refl _) _⟩
theorem opRemove_any (n : Int) (w : World) :
    Calls Try.prog 74 #[.int .i64 n] w fun e w' => e = .returned (.agg #[.int .i64 3, .int .i64 n, .string (bstr [])]) ∧ Below w.heap.size w w' := by
  go_enter Try.func74, Try.ntmps74
  go_wp2
  refine bodyPost_ret (results_cell_row rfl _ _ w.heap.size 54 #[.int .i64 3, .int .i64 n, .string (bstr [])] (0, 0) _ rfl (heap_alloc_new w _) Try.underlying54 rfl (by kernel_rfl)) rfl ?_
  exact ⟨rfl, (Below.refl _ _).alloc (Nat.le_refl _) _⟩
theorem opInsert_any (t : List Nat) (w : World) :
    Calls Try.prog 73 #[.string (bstr t)] w fun e w' => e = .returned (.agg #[.int .i64 2, .int .i64 0, .string (bstr t)]) ∧ Below w.heap.size w w' := by
  go_enter Try.func73, Try.ntmps73
  go_wp2
  refine bodyPost_ret (results_cell_row rfl _ _ w.heap.size 54 #[.int .i64 2, .int .i64 0, .string (bstr t)] (0, 0) _ rfl (heap_alloc_new w _) Try.underlying54 rfl (by kernel_rfl)) rfl ?_
  exact ⟨rfl, (Below.refl _ _).alloc (Nat.le_refl _) _⟩

set_option maxHeartbeats 2000000 in
set_option maxRecDepth 100000 in
theorem opBase_any (A : Option Addr) (c : Nat) (l : List CompV) (hl : l.length ≤ maxLen) (w : World) (hc : CompsAt w A l) :
    Calls Try.prog 54 #[.slice A l.length c] w fun e w' => e = .returned (.int .i64 (rBase l)) ∧ Below w.heap.size w w' := by
  unfold maxLen at hl
  have HC := Lib.hid hc; clear hc
  obtain ⟨T, HT⟩ : ∃ T, Hid (rBase l = T) := ⟨_, Lib.hid rfl⟩
  rw [HT.out]
  go_enter Try.func54, Try.ntmps54
  go_wp2
  go_loopw [3, 8] (fun n i wr => ∃ (k : Nat) (m : Int), k ≤ l.length ∧ i = .int .i64 k ∧ n = .int .i64 m ∧ rBase (l.take k) = m ∧ Below w.heap.size w wr) (fun _ i _ => l.length - (intOf i).toNat)
  case atStart => exact ⟨0, 0, Nat.zero_le _, rfl, rfl, rfl, Below.refl _ _⟩
  case round =>
    obtain ⟨k, m, hk, rfl, rfl, hm, hbel⟩ := hrel
    have HM := Lib.hid hm; clear hm
    have HBEL := Lib.hid hbel; clear hbel
    by_cases hlt : k < l.length
    · obtain ⟨b, off, rfl, _⟩ := HC.out.form (by omega)
      obtain ⟨x0, x1, x2⟩ := (HC.out.below HBEL.out).at_ hlt
      have HS := Lib.hid (show rBase (l.take (k + 1)) = baseStep m l[k] by rw [List.take_succ_eq_append_getElem hlt, rBase_snoc, HM.out])
      have HFIT : Hid (0 ≤ m ∧ m ≤ 1099511627776) := by show _ ∧ _; rw [← HM.out]; exact rBase_fit _
      generalize l[k] = y at x0 x1 x2 HS
      obtain ⟨kd, n, tx⟩ := y
      simp only at x0 x1 x2
      have hnew : Below wr.heap.size wr (wr.alloc (Obj.cells #[Value.int .i64 kd, Value.int .i64 n, Value.string (bstr tx)] 54)) := (Below.refl _ _).alloc (Nat.le_refl _) _
      have HB1 : Hid (Below w.heap.size w (wr.alloc (Obj.cells #[Value.int .i64 kd, Value.int .i64 n, Value.string (bstr tx)] 54))) := HBEL.out.trans (hnew.mono HBEL.out.size)
      clear hnew
      by_cases h1 : kd = 1 ∨ kd = 3
      · rw [baseStep, if_pos h1] at HS
        have HH := Lib.hid (fun w => opSum_any m n HFIT.out.1 HFIT.out.2 w)
        obtain ⟨q, HQ⟩ : ∃ q, Hid (hld m n = q) := ⟨_, Lib.hid rfl⟩
        have HS2 : Hid (rBase (l.take (k + 1)) = q) := by show _ = _; rw [HS.out]; exact HQ.out
        rw [HQ.out] at HH
        rcases h1 with rfl | rfl
        · go_wp2_with fail
          refine (HH.out _).mono ?_
          rintro e w1 ⟨rfl, rfl⟩
          go_wp2
          go_roundw
          case rel => exact ⟨k + 1, q, by omega, by go_num, rfl, HS2.out, HB1.out⟩
          case measure => simp [intOf]; omega
        · go_wp2_with fail
          refine (HH.out _).mono ?_
          rintro e w1 ⟨rfl, rfl⟩
          go_wp2
          go_roundw
          case rel => exact ⟨k + 1, q, by omega, by go_num, rfl, HS2.out, HB1.out⟩
          case measure => simp [intOf]; omega
      · have g1 : (kd == 1) = false := beq_eq_false_iff_ne.2 fun h => h1 (.inl h)
        have g3 : (kd == 3) = false := beq_eq_false_iff_ne.2 fun h => h1 (.inr h)
        rw [baseStep, if_neg h1] at HS
        clear h1
        go_wp2
        go_roundw
        case rel => exact ⟨k + 1, m, by omega, by go_num, rfl, HS.out, HB1.out⟩
        case measure => simp [intOf]; omega
    · have HE : Hid (m = T) := by show _ = _; rw [← HM.out, List.take_of_length_le (by omega), HT.out]
      go_wp2
      go_ret
      exact ⟨by rw [← HE.out]; rfl, HBEL.out⟩
set_option maxHeartbeats 2000000 in
set_option maxRecDepth 100000 in
theorem opOut_any (A : Option Addr) (c : Nat) (l : List CompV) (hl : l.length ≤ maxLen) (hf : Fine1 l) (w : World) (hc : CompsAt w A l) :
    Calls Try.prog 62 #[.slice A l.length c] w fun e w' => e = .returned (.int .i64 (rOut l)) ∧ Below w.heap.size w w' := by
  unfold maxLen at hl
  have HC := Lib.hid hc; clear hc
  have HF := Lib.hid hf; clear hf
  obtain ⟨T, HT⟩ : ∃ T, Hid (rOut l = T) := ⟨_, Lib.hid rfl⟩
  rw [HT.out]
  go_enter Try.func62, Try.ntmps62
  go_wp2
  go_loopw [3, 8] (fun n i wr => ∃ (k : Nat) (m : Int), k ≤ l.length ∧ i = .int .i64 k ∧ n = .int .i64 m ∧ rOut (l.take k) = m ∧ Below w.heap.size w wr) (fun _ i _ => l.length - (intOf i).toNat)
  case atStart => exact ⟨0, 0, Nat.zero_le _, rfl, rfl, rfl, Below.refl _ _⟩
  case round =>
    obtain ⟨k, m, hk, rfl, rfl, hm, hbel⟩ := hrel
    have HM := Lib.hid hm; clear hm
    have HBEL := Lib.hid hbel; clear hbel
    by_cases hlt : k < l.length
    · obtain ⟨b, off, rfl, _⟩ := HC.out.form (by omega)
      obtain ⟨x0, x1, x2⟩ := (HC.out.below HBEL.out).at_ hlt
      have HS := Lib.hid (show rOut (l.take (k + 1)) = outStep m l[k] by rw [List.take_succ_eq_append_getElem hlt, rOut_snoc, HM.out])
      have HFIT : Hid (0 ≤ m ∧ m ≤ 1099511627776) := by show _ ∧ _; rw [← HM.out]; exact rOut_fit _
      have HY := Lib.hid (HF.out l[k] (List.getElem_mem hlt))
      generalize l[k] = y at x0 x1 x2 HS HY
      obtain ⟨kd, n, tx⟩ := y
      simp only at x0 x1 x2
      have hnew : Below wr.heap.size wr (wr.alloc (Obj.cells #[Value.int .i64 kd, Value.int .i64 n, Value.string (bstr tx)] 54)) := (Below.refl _ _).alloc (Nat.le_refl _) _
      have HB1 : Hid (Below w.heap.size w (wr.alloc (Obj.cells #[Value.int .i64 kd, Value.int .i64 n, Value.string (bstr tx)] 54))) := HBEL.out.trans (hnew.mono HBEL.out.size)
      clear hnew
      by_cases h1 : kd = 1
      · subst h1
        rw [outStep, if_pos rfl] at HS
        have HH := Lib.hid (fun w => opSum_any m n HFIT.out.1 HFIT.out.2 w)
        obtain ⟨q, HQ⟩ : ∃ q, Hid (hld m n = q) := ⟨_, Lib.hid rfl⟩
        have HS2 : Hid (rOut (l.take (k + 1)) = q) := by show _ = _; rw [HS.out]; exact HQ.out
        rw [HQ.out] at HH
        go_wp2_with fail
        refine (HH.out _).mono ?_
        rintro e w1 ⟨rfl, rfl⟩
        go_wp2
        go_roundw
        case rel => exact ⟨k + 1, q, by omega, by go_num, rfl, HS2.out, HB1.out⟩
        case measure => simp [intOf]; omega
      · have g1 : (kd == 1) = false := beq_eq_false_iff_ne.2 h1
        by_cases h2 : kd = 2
        · subst h2
          rw [outStep, if_neg h1, if_pos rfl] at HS
          have HL := Lib.hid (fun w => runes_any tx HY.out.1.2.2.1 HY.out.2 w)
          have HH := Lib.hid (fun w => opSum_any m (loose tx : Int) HFIT.out.1 HFIT.out.2 w)
          obtain ⟨z, HZ⟩ : ∃ z, Hid (loose tx = z) := ⟨_, Lib.hid rfl⟩
          obtain ⟨q, HQ⟩ : ∃ q, Hid (hld m (loose tx : Int) = q) := ⟨_, Lib.hid rfl⟩
          have HS2 : Hid (rOut (l.take (k + 1)) = q) := by show _ = _; rw [HS.out]; exact HQ.out
          rw [HQ.out] at HH
          rw [HZ.out] at HL HH
          go_wp2_with fail
          refine (HL.out _).mono ?_
          rintro e w1 ⟨rfl, hb1⟩
          have HB2 : Hid (Below w.heap.size w w1) := HB1.out.trans (hb1.mono HB1.out.size)
          clear hb1
          go_wp2_with fail
          refine (HH.out _).mono ?_
          rintro e w2 ⟨rfl, rfl⟩
          go_wp2
          go_roundw
          case rel => exact ⟨k + 1, q, by omega, by go_num, rfl, HS2.out, HB2.out⟩
          case measure => simp [intOf]; omega
        · have g2 : (kd == 2) = false := beq_eq_false_iff_ne.2 h2
          rw [outStep, if_neg h1, if_neg h2] at HS
          clear h1 h2
          go_wp2
          go_roundw
          case rel => exact ⟨k + 1, m, by omega, by go_num, rfl, HS.out, HB1.out⟩
          case measure => simp [intOf]; omega
    · have HE : Hid (m = T) := by show _ = _; rw [← HM.out, List.take_of_length_le (by omega), HT.out]
      go_wp2
      go_ret
      exact ⟨by rw [← HE.out]; rfl, HBEL.out⟩
end Go.Proofs.Ytnadhpajelkngaa

/- The landed stretch: where it lies, with the rows of its own; what lives on when a row grows. No condition beyond those that each lemma states. -/
namespace Go.Proofs.Ytnadhpajelkngaa
open Go.RowKit Go.Deep Go.Lib

/-- Below B only the block g may have been written. -/
structure Aside (g B : Nat) (w w' : World) : Prop where
  os : w'.os = w.os
  tape : w'.tape = w.tape
  output : w'.output = w.output
  size : w.heap.size ≤ w'.heap.size
  block : ∀ k, k < B → k ≠ g → w'.heap[k]? = w.heap[k]?
theorem Aside.refl (g B : Nat) (w : World) : Aside g B w w := ⟨rfl, rfl, rfl, Nat.le_refl _, fun _ _ _ => rfl⟩
theorem Aside.trans {g B : Nat} {a b c : World} (h : Aside g B a b) (k : Aside g B b c) : Aside g B a c :=
  ⟨k.os.trans h.os, k.tape.trans h.tape, k.output.trans h.output, Nat.le_trans h.size k.size, fun i hi hg => (k.block i hi hg).trans (h.block i hi hg)⟩
theorem Aside.of_below {g B : Nat} {w w' : World} (h : Below w.heap.size w w') (hB : B ≤ w.heap.size) : Aside g B w w' := ⟨h.os, h.tape, h.output, h.size, fun k hk _ => h.block k (by omega)⟩
theorem Aside.grown {g B : Nat} {a w w' : World} {row : Option Nat} (h : Aside g B a w) (hg : w.grownBy w' row) (hB : B ≤ w.heap.size) (hr : ∀ k, row = some k → B ≤ k) : Aside g B a w' :=
  h.trans ⟨hg.os, hg.tape, hg.output, hg.size, fun k hk _ => hg.block k (by omega) (fun e => by have := hr k e.symm; omega)⟩
theorem Aside.set {g B : Nat} {a w : World} (h : Aside g B a w) (i : Nat) (v : Value) : Aside g B a (w.setCell ⟨g, i, none⟩ v) :=
  h.trans ⟨rfl, rfl, rfl, by simp [World.setCell], fun k _ hk => Below.heap_setCell _ _ _ _ hk⟩
/-- Nothing below the number h was written, if g is not below it. -/
theorem Aside.below {g B h : Nat} {W w w' : World} (k : Aside g B w w') (hb : Below h W w) (hg : h ≤ g) (hB : h ≤ B) : Below h W w' :=
  hb.trans ⟨k.os, k.tape, k.output, k.size, fun i hi => k.block i (by omega) (by omega)⟩

/-- The cells of a stretch. -/
def stCells (keep : Int) (A : Option Addr) (n c : Nat) (gone : Int) (i : Nat) : Value := if i = 0 then .int .i64 keep else if i = 1 then .slice A n c else .int .i64 gone
/-- The block g holds a stretch; its text, and the row o of what was made, lie from the block B on. -/
def NowAt (g B : Nat) (s : NS) (o : Value) (w : World) : Prop :=
  g < B ∧ B ≤ w.heap.size ∧ (∃ A c, w.rowIs g 95 3 (stCells s.keep A s.text.length c s.gone) ∧ w.ownsRow B 5 1 (.slice A s.text.length c) s.text.length (u8s s.text)) ∧ w.ownsRow B 54 3 o s.out.length (s.out.flatMap compCells)
theorem NowAt.below {g B : Nat} {s : NS} {o : Value} {w w' : World} (h : NowAt g B s o w) (hb : Below w.heap.size w w') : NowAt g B s o w' := by
  obtain ⟨h1, h2, ⟨A, c, hr, ht⟩, ho⟩ := h
  exact ⟨h1, Nat.le_trans h2 hb.size, ⟨A, c, hr.of_block (hb.block g hr.lt), own_below ht hb⟩, own_below ho hb⟩
theorem NowAt.row {g B : Nat} {s : NS} {o : Value} {w : World} (h : NowAt g B s o w) : w.ownsRow B 54 3 o s.out.length (s.out.flatMap compCells) := h.2.2.2
theorem NowAt.up {g B : Nat} {s : NS} {o : Value} {w : World} (h : NowAt g B s o w) : B ≤ w.heap.size := h.2.1
theorem NowAt.lt {g B : Nat} {s : NS} {o : Value} {w : World} (h : NowAt g B s o w) : g < B := h.1
theorem NowAt.out {g B : Nat} {s : NS} {o : Value} {w : World} (h : NowAt g B s o w) : ∃ A c, o = .slice A s.out.length c := own_slice h.row
/-- What is read of a stretch. -/
theorem NowAt.read {g B : Nat} {s : NS} {o : Value} {w : World} (h : NowAt g B s o w) : ∃ A c, w.cell? ⟨g, 0, none⟩ = some (.int .i64 s.keep) ∧ w.cell? ⟨g, 1, none⟩ = some (.slice A s.text.length c) ∧ w.cell? ⟨g, 2, none⟩ = some (.int .i64 s.gone) ∧
    w.frozen? ⟨g, 0, none⟩ = false ∧ w.frozen? ⟨g, 1, none⟩ = false ∧ w.frozen? ⟨g, 2, none⟩ = false ∧ w.ownsRow B 5 1 (.slice A s.text.length c) s.text.length (u8s s.text) ∧ w.rowIs g 95 3 (stCells s.keep A s.text.length c s.gone) := by
  obtain ⟨h1, h2, ⟨A, c, hr, ht⟩, ho⟩ := h
  exact ⟨A, c, hr.cell (i := 0) (by omega), hr.cell (i := 1) (by omega), hr.cell (i := 2) (by omega), hr.frozen 0, hr.frozen 1, hr.frozen 2, ht, hr⟩
/-- A part is put behind what was made. -/
theorem NowAt.push {g B : Nat} {s : NS} {o o' : Value} {out' : List CompV} {w w' : World} (h : NowAt g B s o w) (hg : w.grownBy w' o.ownBlock) (ho : w'.ownsRow B 54 3 o' out'.length (out'.flatMap compCells)) : NowAt g B { s with out := out' } o' w' := by
  obtain ⟨h1, h2, ⟨A, c, hr, ht⟩, ho0⟩ := h
  exact ⟨h1, Nat.le_trans h2 hg.size, ⟨A, c, hr.of_block (hg.block g hr.lt (fun e => by have := (ho0.lt g e.symm).1; omega)), own_grown ht ho0 (by decide) hg⟩, ho⟩
theorem own_set_below {w : World} {B g : Nat} {e : TypeId} {size : Nat} {v : Value} {n : Nat} {xs : List Value} (h : w.ownsRow B e size v n xs) (hg : g < B) (i : Nat) (u : Value) : (w.setCell ⟨g, i, none⟩ u).ownsRow B e size v n xs :=
  own_only h ((Only.refl g w).set i u) hg
/-- The number kept, and the number deleted, are written. -/
theorem NowAt.setKeep {g B : Nat} {s : NS} {o : Value} {w : World} (h : NowAt g B s o w) (k : Int) : NowAt g B { s with keep := k } o (w.setCell ⟨g, 0, none⟩ (.int .i64 k)) := by
  obtain ⟨h1, h2, ⟨A, c, hr, ht⟩, ho⟩ := h
  refine ⟨h1, by simpa [World.setCell] using h2, ⟨A, c, (hr.set 0 (.int .i64 k)).congr fun i hi => ?_, own_set_below ht h1 _ _⟩, own_set_below ho h1 _ _⟩
  rcases (show i = 0 ∨ i = 1 ∨ i = 2 by omega) with rfl | rfl | rfl <;> rfl
theorem NowAt.setGone {g B : Nat} {s : NS} {o : Value} {w : World} (h : NowAt g B s o w) (k : Int) : NowAt g B { s with gone := k } o (w.setCell ⟨g, 2, none⟩ (.int .i64 k)) := by
  obtain ⟨h1, h2, ⟨A, c, hr, ht⟩, ho⟩ := h
  refine ⟨h1, by simpa [World.setCell] using h2, ⟨A, c, (hr.set 2 (.int .i64 k)).congr fun i hi => ?_, own_set_below ht h1 _ _⟩, own_set_below ho h1 _ _⟩
  rcases (show i = 0 ∨ i = 1 ∨ i = 2 by omega) with rfl | rfl | rfl <;> rfl
/-- The text that has grown is written back. -/
theorem NowAt.setText {g B : Nat} {s : NS} {o : Value} {t : List Nat} {A A' : Option Addr} {c c' : Nat} {w w1 : World} (h : NowAt g B s o w) (hown : w.ownsRow B 5 1 (.slice A s.text.length c) s.text.length (u8s s.text))
    (hg : w.grownBy w1 (Value.slice A s.text.length c).ownBlock) (hown1 : w1.ownsRow B 5 1 (.slice A' t.length c') t.length (u8s t)) :
    NowAt g B { s with text := t } o (w1.setCell ⟨g, 1, none⟩ (.slice A' t.length c')) ∧ Aside g B w (w1.setCell ⟨g, 1, none⟩ (.slice A' t.length c')) := by
  obtain ⟨h1, h2, ⟨A0, c0, hr, ht⟩, ho⟩ := h
  have hr1 : w1.rowIs g 95 3 (stCells s.keep A0 s.text.length c0 s.gone) := hr.of_block (hg.block g hr.lt (fun e => by have := (hown.lt g e.symm).1; omega))
  refine ⟨⟨h1, by simpa [World.setCell] using Nat.le_trans h2 hg.size, ⟨A', c', (hr1.set 1 (.slice A' t.length c')).congr fun i hi => ?_, own_set_below hown1 h1 _ _⟩, own_set_below (own_grown ho hown (by decide) hg) h1 _ _⟩, ((Aside.refl g B w).grown hg h2 (fun k e => (hown.lt k e).1)).set 1 _⟩
  rcases (show i = 0 ∨ i = 1 ∨ i = 2 by omega) with rfl | rfl | rfl <;> rfl
/-- s.text[:0] is still one's own. -/
theorem own_none {w : World} {B : Nat} {A : Option Addr} {n c : Nat} {xs : List Value} (h : w.ownsRow B 5 1 (.slice A n c) n xs) : w.ownsRow B 5 1 (.slice (addrHigh A c) 0 c) 0 (u8s []) := by
  refine ⟨rfl, ?_⟩
  rcases h.2 with ⟨h2, _⟩ | ⟨g', cap, cur, hv, hg, hh, h3, h4, h5, _⟩
  · injection h2 with e1 _ e3
    subst e1 e3
    exact .inl ⟨rfl, rfl⟩
  · injection hv with e1 _ e3
    subst e1 e3
    refine .inr ⟨g', c, cur, ?_, hg, hh, Nat.zero_le _, h4, h5, by simp [u8s]⟩
    unfold addrHigh
    split
    · rfl
    · simp [Addr.add]
/-- The stretch is begun anew. -/
theorem NowAt.begin {g B : Nat} {s : NS} {o : Value} {A : Option Addr} {c : Nat} {w : World} (h : NowAt g B s o w) (hown : w.ownsRow B 5 1 (.slice A s.text.length c) s.text.length (u8s s.text)) :
    NowAt g B ⟨s.out, 0, 0, []⟩ o (((w.setCell ⟨g, 0, none⟩ (.int .i64 0)).setCell ⟨g, 1, none⟩ (.slice (addrHigh A c) 0 c)).setCell ⟨g, 2, none⟩ (.int .i64 0)) := by
  obtain ⟨h1, h2, ⟨A0, c0, hr, ht⟩, ho⟩ := h
  refine ⟨h1, by simpa [World.setCell] using h2, ⟨addrHigh A c, c, (((hr.set 0 (.int .i64 0)).set 1 (.slice (addrHigh A c) 0 c)).set 2 (.int .i64 0)).congr fun i hi => ?_, own_set_below (own_set_below (own_set_below (own_none hown) h1 _ _) h1 _ _) h1 _ _⟩, own_set_below (own_set_below (own_set_below ho h1 _ _) h1 _ _) h1 _ _⟩
  rcases (show i = 0 ∨ i = 1 ∨ i = 2 by omega) with rfl | rfl | rfl <;> rfl

theorem wpList_push2 {ops : Array Oper} {rest : List Oper} {o : Oper} {a : Act} {w : World} {Q : Exit → Act → World → Prop} (hgd : o.guard = none) (s x : Operand)
    (ho : o.op = .call { callee := .builtin .append, args := #[s, x], argTypes := #[22, 22] })
    (B : Nat) (v : Value) (out : List CompV) (cr : CompV) (hs : a.eval s = v) (hown : w.ownsRow B 54 3 v out.length (out.flatMap compCells)) (hb : B ≤ w.heap.size)
    (hx : a.eval x = .slice (some ⟨w.heap.size, 0, none⟩) 1 1) (hlen : out.length ≤ 1099511627776)
    (h : ∀ out' A' c' w', out' = out ++ [cr] → w'.ownsRow B 54 3 (.slice A' out'.length c') out'.length (out'.flatMap compCells) → (w.alloc (.cells #[.int .i64 cr.kind, .int .i64 cr.n, .string (bstr cr.text)] 54)).grownBy w' v.ownBlock → wpList Try.prog ops Q rest (a.put o.dst (.slice A' out'.length c')) w') :
    wpList Try.prog ops Q (o :: rest) a (w.alloc (.cells #[.int .i64 cr.kind, .int .i64 cr.n, .string (bstr cr.text)] 54)) := by
  obtain ⟨i0, hi0, hz0, hz1, hz2⟩ := info_parts part_info
  refine wpList_append_own_wide _ hgd s x 22 ho B 54 i0 (.agg #[.int .i64 0, .int .i64 0, .string { data := #[] }]) 3 32 Try.underlying22 hi0 hz0 hz1 hz2 rfl (by omega) v out.length (out.flatMap compCells) hs (hown.alloc _) ⟨w.heap.size, 0, none⟩ 1 1 (compCells cr) hx rfl ?_ ?_ (by simp only [maxLen]; omega) (by omega) (by simp; omega) ?_
  · intro j u hj
    rw [Go.WideShapes.add_plain, Nat.zero_add, cell_of_row _ _ _ _ _ _ (heap_alloc_new w _)]
    simpa [compCells] using hj
  · intro u hu; simp [compCells] at hu; rcases hu with rfl | rfl | rfl <;> rfl
  intro v' w' hown' hgr _
  have e : out.flatMap compCells ++ compCells cr = (out ++ [cr]).flatMap compCells := by simp
  have hown2 : w'.ownsRow B 54 3 v' (out ++ [cr]).length ((out ++ [cr]).flatMap compCells) := by
    rw [← e, List.length_append]
    exact hown'
  obtain ⟨A', c', rfl⟩ := own_slice hown2
  exact h _ A' c' w' rfl hown2 hgr

set_option maxHeartbeats 1000000 in
set_option maxRecDepth 100000 in
theorem opBare_any (g B : Nat) (s : NS) (o : Value) (hg : 0 ≤ s.gone) (w : World) (h : NowAt g B s o w) :
    Calls Try.prog 64 #[.pointer (some ⟨g, 0, none⟩)] w fun e w' => e = .returned (.bool (decide (s.text = [] ∧ s.gone = 0))) ∧ w = w' := by
  obtain ⟨A, c, c0, c1, c2, _⟩ := h.read
  clear h
  obtain ⟨out, keep, gone, tx⟩ := s
  simp only at c0 c1 c2 hg ⊢
  cases tx with
  | nil =>
    simp only [List.length_nil] at c1
    by_cases hz : gone = 0
    · subst hz
      rw [show decide (([] : List Nat) = [] ∧ (0 : Int) = 0) = true by simp]
      go_enter Try.func64, Try.ntmps64
      go_wp2
      go_ret
      exact ⟨rfl, rfl⟩
    · have gz : (gone == 0) = false := beq_eq_false_iff_ne.2 hz
      rw [show decide (([] : List Nat) = [] ∧ gone = 0) = false by simp [hz]]
      clear hz
      go_enter Try.func64, Try.ntmps64
      go_wp2
      go_ret
      exact ⟨rfl, rfl⟩
  | cons x t =>
    rw [show decide (x :: t = [] ∧ gone = 0) = false by simp]
    rw [List.length_cons] at c1
    generalize t.length = n at c1
    have gz : (((n + 1 : Nat) : Int) == 0) = false := beq_eq_false_iff_ne.2 (by omega)
    go_enter Try.func64, Try.ntmps64
    go_wp2
    go_ret
    exact ⟨rfl, rfl⟩
end Go.Proofs.Ytnadhpajelkngaa

/- The landed end of a stretch: what it kept, its text, and what is gone go behind what was made, and another one begins. Condition: no more than 2^38 parts and 2^40 bytes. -/
namespace Go.Proofs.Ytnadhpajelkngaa
open Go.RowKit Go.Deep Go.Lib

theorem NowAt.pushed {g B : Nat} {out out' : List CompV} {keep gone : Int} {tx : List Nat} {o o' : Value} {X : Obj} {W w w' : World} (h : NowAt g B ⟨out, keep, gone, tx⟩ o w) (ha : Aside g B W w) (hg : (w.alloc X).grownBy w' o.ownBlock)
    (ho : w'.ownsRow B 54 3 o' out'.length (out'.flatMap compCells)) : NowAt g B ⟨out', keep, gone, tx⟩ o' w' ∧ Aside g B W w' := by
  have h1 : Below w.heap.size w (w.alloc X) := (Below.refl _ _).alloc (Nat.le_refl _) _
  have h2 := h.below h1
  exact ⟨h2.push hg ho, (ha.trans (.of_below h1 h.up)).grown hg h2.up (fun k e => (h2.row.lt k e).1)⟩
/-- What is left behind a stretch's end. -/
def EndEnd (g B : Nat) (s : NS) (w : World) (e : Ending) (w' : World) : Prop := ∃ o, e = .returned o ∧ NowAt g B ⟨s.flush, 0, 0, []⟩ o w' ∧ Aside g B w w'
set_option maxHeartbeats 8000000 in
set_option maxRecDepth 100000 in
theorem opEnd_any (g B : Nat) (s : NS) (o : Value) (hout : s.out.length ≤ 274877906944) (htl : s.text.length ≤ 1099511627776) (w : World) (h : NowAt g B s o w) :
    Calls Try.prog 65 #[.pointer (some ⟨g, 0, none⟩), o] w (EndEnd g B s w) := by
  have GR := Lib.hid (fun n w => opRetain_any n w)
  have GI := Lib.hid (fun t w => opInsert_any t w)
  have GD := Lib.hid (fun n w => opRemove_any n w)
  obtain ⟨out0, keep, gone, tx⟩ := s
  simp only at hout htl
  have HLEN0 : Hid (out0.length ≤ 274877906944) := hout
  have H0 := Lib.hid h; clear h hout
  have HA0 := Lib.hid (Aside.refl g B w)
  obtain ⟨o0, HO0⟩ : ∃ x, Hid (o = x) := ⟨_, rfl⟩
  rw [HO0.out] at H0 ⊢
  obtain ⟨w0, HW0⟩ : ∃ x, Hid (w = x) := ⟨_, rfl⟩
  rw [HW0.out] at H0 HA0 ⊢
  obtain ⟨A0, c0, z00, z01, z02, y00, y01, y02, ht0, hr0⟩ := H0.out.read
  have HT0 := Lib.hid ht0; clear ht0
  have HR0 := Lib.hid hr0; clear hr0
  simp only at z00 z01 z02 HT0 HR0
  by_cases hk : 0 < keep
  · skip
    by_cases ht : tx = []
    · subst ht
      simp only [List.length_nil] at z01
      by_cases hg : 0 < gone
      · skip
        have QK : Hid (keepOf keep = [⟨1, keep, []⟩]) := if_pos hk
        have QT : Hid (textOf [] = []) := if_pos rfl
        have QG : Hid (goneOf gone = [⟨3, gone, []⟩]) := if_pos hg
        go_enter Try.func65, Try.ntmps65
        go_wp2_with fail
        refine (GR.out keep _).mono ?_
        rintro e v1 ⟨rfl, hb1⟩
        have K1 := Lib.hid (H0.out.below hb1)
        have KA1 := Lib.hid (HA0.out.trans (Aside.of_below hb1 H0.out.up))
        clear hb1
        go_wp2_with (at_builtin
                     refine wpList_push2 rfl (.tmp 10) (.tmp 16) rfl B o0 out0 ⟨1, keep, []⟩ rfl K1.out.row K1.out.up rfl (by have := HLEN0.out; omega) ?_
                     intro out1 B1 d1 w1 ho1 hown1 hgr1
                     have HO1 := Lib.hid ho1
                     obtain ⟨o1, HOO1⟩ : ∃ o, Hid (o = Value.slice B1 out1.length d1) := ⟨_, rfl⟩
                     rw [← HOO1.out] at hown1 ⊢
                     have hp1 := K1.out.pushed KA1.out hgr1 hown1
                     have H1 := Lib.hid hp1.1
                     have HA1 := Lib.hid hp1.2
                     have HLEN1 : Hid (out1.length ≤ 274877906945) := by show _ ≤ _; rw [HO1.out, List.length_append]; have := HLEN0.out; simp only [List.length_cons, List.length_nil]; omega
                     clear ho1 hown1 hgr1 hp1
                     obtain ⟨A1, c1, z10, z11, z12, y10, y11, y12, ht1, hr1⟩ := H1.out.read
                     have HT1 := Lib.hid ht1; clear ht1
                     have HR1 := Lib.hid hr1; clear hr1
                     simp only at z10 z11 z12 HT1 HR1
                     simp only [List.length_nil] at z11)
        go_wp2_with fail
        refine (GD.out gone _).mono ?_
        rintro e v2 ⟨rfl, hb2⟩
        have K2 := Lib.hid (H1.out.below hb2)
        have KA2 := Lib.hid (HA1.out.trans (Aside.of_below hb2 H1.out.up))
        clear hb2
        go_wp2_with (at_builtin
                     refine wpList_push2 rfl (.tmp 38) (.tmp 44) rfl B o1 out1 ⟨3, gone, []⟩ rfl K2.out.row K2.out.up rfl (by have := HLEN1.out; omega) ?_
                     intro out2 B2 d2 w2 ho2 hown2 hgr2
                     have HO2 := Lib.hid ho2
                     obtain ⟨o2, HOO2⟩ : ∃ o, Hid (o = Value.slice B2 out2.length d2) := ⟨_, rfl⟩
                     rw [← HOO2.out] at hown2 ⊢
                     have hp2 := K2.out.pushed KA2.out hgr2 hown2
                     have H2 := Lib.hid hp2.1
                     have HA2 := Lib.hid hp2.2
                     have HLEN2 : Hid (out2.length ≤ 274877906946) := by show _ ≤ _; rw [HO2.out, List.length_append]; have := HLEN1.out; simp only [List.length_cons, List.length_nil]; omega
                     clear ho2 hown2 hgr2 hp2
                     obtain ⟨A2, c2, z20, z21, z22, y20, y21, y22, ht2, hr2⟩ := H2.out.read
                     have HT2 := Lib.hid ht2; clear ht2
                     have HR2 := Lib.hid hr2; clear hr2
                     simp only at z20 z21 z22 HT2 HR2
                     simp only [List.length_nil] at z21
                     have SL : ∀ w, (Instr.slice 93 (.slice A2 0 c2) none (some (.int .i64 0)) none).run Try.prog w = .ok (.slice (addrHigh A2 c2) 0 c2) w := fun w => slice_high A2 0 c2 0 (Nat.zero_le _) w
                     have r1 := HR2.out.set 0 (.int .i64 0)
                     have x1 := r1.cell (i := 1) (by omega)
                     have f1 := r1.frozen 1
                     have r2 := r1.set 1 (.slice (addrHigh A2 c2) 0 c2)
                     have x2 := r2.cell (i := 2) (by omega)
                     have f2 := r2.frozen 2
                     replace x1 : World.cell? _ ⟨g, 1, none⟩ = some (.slice A2 0 c2) := x1
                     replace x2 : World.cell? _ ⟨g, 2, none⟩ = some (.int .i64 gone) := x2
                     clear r1 r2)
        go_ret
        have HE : NS.flush ⟨out0, keep, gone, []⟩ = out2 := by
          show out0 ++ keepOf keep ++ textOf [] ++ goneOf gone = out2
          rw [QK.out, QT.out, QG.out]
          simp [HO2.out, HO1.out]
        refine ⟨o2, rfl, ?_, ((HA2.out.set 0 _).set 1 _).set 2 _⟩
        rw [HE]
        exact H2.out.begin HT2.out
      · skip
        have QK : Hid (keepOf keep = [⟨1, keep, []⟩]) := if_pos hk
        have QT : Hid (textOf [] = []) := if_pos rfl
        have QG : Hid (goneOf gone = []) := if_neg hg
        go_enter Try.func65, Try.ntmps65
        go_wp2_with fail
        refine (GR.out keep _).mono ?_
        rintro e v1 ⟨rfl, hb1⟩
        have K1 := Lib.hid (H0.out.below hb1)
        have KA1 := Lib.hid (HA0.out.trans (Aside.of_below hb1 H0.out.up))
        clear hb1
        go_wp2_with (at_builtin
                     refine wpList_push2 rfl (.tmp 10) (.tmp 16) rfl B o0 out0 ⟨1, keep, []⟩ rfl K1.out.row K1.out.up rfl (by have := HLEN0.out; omega) ?_
                     intro out1 B1 d1 w1 ho1 hown1 hgr1
                     have HO1 := Lib.hid ho1
                     obtain ⟨o1, HOO1⟩ : ∃ o, Hid (o = Value.slice B1 out1.length d1) := ⟨_, rfl⟩
                     rw [← HOO1.out] at hown1 ⊢
                     have hp1 := K1.out.pushed KA1.out hgr1 hown1
                     have H1 := Lib.hid hp1.1
                     have HA1 := Lib.hid hp1.2
                     have HLEN1 : Hid (out1.length ≤ 274877906945) := by show _ ≤ _; rw [HO1.out, List.length_append]; have := HLEN0.out; simp only [List.length_cons, List.length_nil]; omega
                     clear ho1 hown1 hgr1 hp1
                     obtain ⟨A1, c1, z10, z11, z12, y10, y11, y12, ht1, hr1⟩ := H1.out.read
                     have HT1 := Lib.hid ht1; clear ht1
                     have HR1 := Lib.hid hr1; clear hr1
                     simp only at z10 z11 z12 HT1 HR1
                     simp only [List.length_nil] at z11
                     have SL : ∀ w, (Instr.slice 93 (.slice A1 0 c1) none (some (.int .i64 0)) none).run Try.prog w = .ok (.slice (addrHigh A1 c1) 0 c1) w := fun w => slice_high A1 0 c1 0 (Nat.zero_le _) w
                     have r1 := HR1.out.set 0 (.int .i64 0)
                     have x1 := r1.cell (i := 1) (by omega)
                     have f1 := r1.frozen 1
                     have r2 := r1.set 1 (.slice (addrHigh A1 c1) 0 c1)
                     have x2 := r2.cell (i := 2) (by omega)
                     have f2 := r2.frozen 2
                     replace x1 : World.cell? _ ⟨g, 1, none⟩ = some (.slice A1 0 c1) := x1
                     replace x2 : World.cell? _ ⟨g, 2, none⟩ = some (.int .i64 gone) := x2
                     clear r1 r2)
        go_ret
        have HE : NS.flush ⟨out0, keep, gone, []⟩ = out1 := by
          show out0 ++ keepOf keep ++ textOf [] ++ goneOf gone = out1
          rw [QK.out, QT.out, QG.out]
          simp [HO1.out]
        refine ⟨o1, rfl, ?_, ((HA1.out.set 0 _).set 1 _).set 2 _⟩
        rw [HE]
        exact H1.out.begin HT1.out
    · have hl0 : 0 < tx.length := List.length_pos_iff.2 ht
      by_cases hg : 0 < gone
      · skip
        have QK : Hid (keepOf keep = [⟨1, keep, []⟩]) := if_pos hk
        have QT : Hid (textOf tx = [⟨2, 0, tx⟩]) := if_neg ht
        have QG : Hid (goneOf gone = [⟨3, gone, []⟩]) := if_pos hg
        go_enter Try.func65, Try.ntmps65
        go_wp2_with fail
        refine (GR.out keep _).mono ?_
        rintro e v1 ⟨rfl, hb1⟩
        have K1 := Lib.hid (H0.out.below hb1)
        have KA1 := Lib.hid (HA0.out.trans (Aside.of_below hb1 H0.out.up))
        clear hb1
        go_wp2_with (at_builtin
                     refine wpList_push2 rfl (.tmp 10) (.tmp 16) rfl B o0 out0 ⟨1, keep, []⟩ rfl K1.out.row K1.out.up rfl (by have := HLEN0.out; omega) ?_
                     intro out1 B1 d1 w1 ho1 hown1 hgr1
                     have HO1 := Lib.hid ho1
                     obtain ⟨o1, HOO1⟩ : ∃ o, Hid (o = Value.slice B1 out1.length d1) := ⟨_, rfl⟩
                     rw [← HOO1.out] at hown1 ⊢
                     have hp1 := K1.out.pushed KA1.out hgr1 hown1
                     have H1 := Lib.hid hp1.1
                     have HA1 := Lib.hid hp1.2
                     have HLEN1 : Hid (out1.length ≤ 274877906945) := by show _ ≤ _; rw [HO1.out, List.length_append]; have := HLEN0.out; simp only [List.length_cons, List.length_nil]; omega
                     clear ho1 hown1 hgr1 hp1
                     obtain ⟨A1, c1, z10, z11, z12, y10, y11, y12, ht1, hr1⟩ := H1.out.read
                     have HT1 := Lib.hid ht1; clear ht1
                     have HR1 := Lib.hid hr1; clear hr1
                     simp only at z10 z11 z12 HT1 HR1
                     have CV := (BytesAt.of_own HT1.out rfl).conv c1 9 Try.underlying9)
        go_wp2_with fail
        refine (GI.out tx _).mono ?_
        rintro e v2 ⟨rfl, hb2⟩
        have K2 := Lib.hid (H1.out.below hb2)
        have KA2 := Lib.hid (HA1.out.trans (Aside.of_below hb2 H1.out.up))
        clear hb2
        go_wp2_with (at_builtin
                     refine wpList_push2 rfl (.tmp 24) (.tmp 31) rfl B o1 out1 ⟨2, 0, tx⟩ rfl K2.out.row K2.out.up rfl (by have := HLEN1.out; omega) ?_
                     intro out2 B2 d2 w2 ho2 hown2 hgr2
                     have HO2 := Lib.hid ho2
                     obtain ⟨o2, HOO2⟩ : ∃ o, Hid (o = Value.slice B2 out2.length d2) := ⟨_, rfl⟩
                     rw [← HOO2.out] at hown2 ⊢
                     have hp2 := K2.out.pushed KA2.out hgr2 hown2
                     have H2 := Lib.hid hp2.1
                     have HA2 := Lib.hid hp2.2
                     have HLEN2 : Hid (out2.length ≤ 274877906946) := by show _ ≤ _; rw [HO2.out, List.length_append]; have := HLEN1.out; simp only [List.length_cons, List.length_nil]; omega
                     clear ho2 hown2 hgr2 hp2
                     obtain ⟨A2, c2, z20, z21, z22, y20, y21, y22, ht2, hr2⟩ := H2.out.read
                     have HT2 := Lib.hid ht2; clear ht2
                     have HR2 := Lib.hid hr2; clear hr2
                     simp only at z20 z21 z22 HT2 HR2)
        go_wp2_with fail
        refine (GD.out gone _).mono ?_
        rintro e v3 ⟨rfl, hb3⟩
        have K3 := Lib.hid (H2.out.below hb3)
        have KA3 := Lib.hid (HA2.out.trans (Aside.of_below hb3 H2.out.up))
        clear hb3
        go_wp2_with (at_builtin
                     refine wpList_push2 rfl (.tmp 38) (.tmp 44) rfl B o2 out2 ⟨3, gone, []⟩ rfl K3.out.row K3.out.up rfl (by have := HLEN2.out; omega) ?_
                     intro out3 B3 d3 w3 ho3 hown3 hgr3
                     have HO3 := Lib.hid ho3
                     obtain ⟨o3, HOO3⟩ : ∃ o, Hid (o = Value.slice B3 out3.length d3) := ⟨_, rfl⟩
                     rw [← HOO3.out] at hown3 ⊢
                     have hp3 := K3.out.pushed KA3.out hgr3 hown3
                     have H3 := Lib.hid hp3.1
                     have HA3 := Lib.hid hp3.2
                     have HLEN3 : Hid (out3.length ≤ 274877906947) := by show _ ≤ _; rw [HO3.out, List.length_append]; have := HLEN2.out; simp only [List.length_cons, List.length_nil]; omega
                     clear ho3 hown3 hgr3 hp3
                     obtain ⟨A3, c3, z30, z31, z32, y30, y31, y32, ht3, hr3⟩ := H3.out.read
                     have HT3 := Lib.hid ht3; clear ht3
                     have HR3 := Lib.hid hr3; clear hr3
                     simp only at z30 z31 z32 HT3 HR3
                     have SL : ∀ w, (Instr.slice 93 (.slice A3 tx.length c3) none (some (.int .i64 0)) none).run Try.prog w = .ok (.slice (addrHigh A3 c3) 0 c3) w := fun w => slice_high A3 tx.length c3 0 (Nat.zero_le _) w
                     have r1 := HR3.out.set 0 (.int .i64 0)
                     have x1 := r1.cell (i := 1) (by omega)
                     have f1 := r1.frozen 1
                     have r2 := r1.set 1 (.slice (addrHigh A3 c3) 0 c3)
                     have x2 := r2.cell (i := 2) (by omega)
                     have f2 := r2.frozen 2
                     replace x1 : World.cell? _ ⟨g, 1, none⟩ = some (.slice A3 tx.length c3) := x1
                     replace x2 : World.cell? _ ⟨g, 2, none⟩ = some (.int .i64 gone) := x2
                     clear r1 r2)
        go_ret
        have HE : NS.flush ⟨out0, keep, gone, tx⟩ = out3 := by
          show out0 ++ keepOf keep ++ textOf tx ++ goneOf gone = out3
          rw [QK.out, QT.out, QG.out]
          simp [HO3.out, HO2.out, HO1.out]
        refine ⟨o3, rfl, ?_, ((HA3.out.set 0 _).set 1 _).set 2 _⟩
        rw [HE]
        exact H3.out.begin HT3.out
      · skip
        have QK : Hid (keepOf keep = [⟨1, keep, []⟩]) := if_pos hk
        have QT : Hid (textOf tx = [⟨2, 0, tx⟩]) := if_neg ht
        have QG : Hid (goneOf gone = []) := if_neg hg
        go_enter Try.func65, Try.ntmps65
        go_wp2_with fail
        refine (GR.out keep _).mono ?_
        rintro e v1 ⟨rfl, hb1⟩
        have K1 := Lib.hid (H0.out.below hb1)
        have KA1 := Lib.hid (HA0.out.trans (Aside.of_below hb1 H0.out.up))
        clear hb1
        go_wp2_with (at_builtin
                     refine wpList_push2 rfl (.tmp 10) (.tmp 16) rfl B o0 out0 ⟨1, keep, []⟩ rfl K1.out.row K1.out.up rfl (by have := HLEN0.out; omega) ?_
                     intro out1 B1 d1 w1 ho1 hown1 hgr1
                     have HO1 := Lib.hid ho1
                     obtain ⟨o1, HOO1⟩ : ∃ o, Hid (o = Value.slice B1 out1.length d1) := ⟨_, rfl⟩
                     rw [← HOO1.out] at hown1 ⊢
                     have hp1 := K1.out.pushed KA1.out hgr1 hown1
                     have H1 := Lib.hid hp1.1
                     have HA1 := Lib.hid hp1.2
                     have HLEN1 : Hid (out1.length ≤ 274877906945) := by show _ ≤ _; rw [HO1.out, List.length_append]; have := HLEN0.out; simp only [List.length_cons, List.length_nil]; omega
                     clear ho1 hown1 hgr1 hp1
                     obtain ⟨A1, c1, z10, z11, z12, y10, y11, y12, ht1, hr1⟩ := H1.out.read
                     have HT1 := Lib.hid ht1; clear ht1
                     have HR1 := Lib.hid hr1; clear hr1
                     simp only at z10 z11 z12 HT1 HR1
                     have CV := (BytesAt.of_own HT1.out rfl).conv c1 9 Try.underlying9)
        go_wp2_with fail
        refine (GI.out tx _).mono ?_
        rintro e v2 ⟨rfl, hb2⟩
        have K2 := Lib.hid (H1.out.below hb2)
        have KA2 := Lib.hid (HA1.out.trans (Aside.of_below hb2 H1.out.up))
        clear hb2
        go_wp2_with (at_builtin
                     refine wpList_push2 rfl (.tmp 24) (.tmp 31) rfl B o1 out1 ⟨2, 0, tx⟩ rfl K2.out.row K2.out.up rfl (by have := HLEN1.out; omega) ?_
                     intro out2 B2 d2 w2 ho2 hown2 hgr2
                     have HO2 := Lib.hid ho2
                     obtain ⟨o2, HOO2⟩ : ∃ o, Hid (o = Value.slice B2 out2.length d2) := ⟨_, rfl⟩
                     rw [← HOO2.out] at hown2 ⊢
                     have hp2 := K2.out.pushed KA2.out hgr2 hown2
                     have H2 := Lib.hid hp2.1
                     have HA2 := Lib.hid hp2.2
                     have HLEN2 : Hid (out2.length ≤ 274877906946) := by show _ ≤ _; rw [HO2.out, List.length_append]; have := HLEN1.out; simp only [List.length_cons, List.length_nil]; omega
                     clear ho2 hown2 hgr2 hp2
                     obtain ⟨A2, c2, z20, z21, z22, y20, y21, y22, ht2, hr2⟩ := H2.out.read
                     have HT2 := Lib.hid ht2; clear ht2
                     have HR2 := Lib.hid hr2; clear hr2
                     simp only at z20 z21 z22 HT2 HR2
                     have SL : ∀ w, (Instr.slice 93 (.slice A2 tx.length c2) none (some (.int .i64 0)) none).run Try.prog w = .ok (.slice (addrHigh A2 c2) 0 c2) w := fun w => slice_high A2 tx.length c2 0 (Nat.zero_le _) w
                     have r1 := HR2.out.set 0 (.int .i64 0)
                     have x1 := r1.cell (i := 1) (by omega)
                     have f1 := r1.frozen 1
                     have r2 := r1.set 1 (.slice (addrHigh A2 c2) 0 c2)
                     have x2 := r2.cell (i := 2) (by omega)
                     have f2 := r2.frozen 2
                     replace x1 : World.cell? _ ⟨g, 1, none⟩ = some (.slice A2 tx.length c2) := x1
                     replace x2 : World.cell? _ ⟨g, 2, none⟩ = some (.int .i64 gone) := x2
                     clear r1 r2)
        go_ret
        have HE : NS.flush ⟨out0, keep, gone, tx⟩ = out2 := by
          show out0 ++ keepOf keep ++ textOf tx ++ goneOf gone = out2
          rw [QK.out, QT.out, QG.out]
          simp [HO2.out, HO1.out]
        refine ⟨o2, rfl, ?_, ((HA2.out.set 0 _).set 1 _).set 2 _⟩
        rw [HE]
        exact H2.out.begin HT2.out
  · skip
    by_cases ht : tx = []
    · subst ht
      simp only [List.length_nil] at z01
      by_cases hg : 0 < gone
      · skip
        have QK : Hid (keepOf keep = []) := if_neg hk
        have QT : Hid (textOf [] = []) := if_pos rfl
        have QG : Hid (goneOf gone = [⟨3, gone, []⟩]) := if_pos hg
        go_enter Try.func65, Try.ntmps65
        go_wp2_with fail
        refine (GD.out gone _).mono ?_
        rintro e v1 ⟨rfl, hb1⟩
        have K1 := Lib.hid (H0.out.below hb1)
        have KA1 := Lib.hid (HA0.out.trans (Aside.of_below hb1 H0.out.up))
        clear hb1
        go_wp2_with (at_builtin
                     refine wpList_push2 rfl (.tmp 38) (.tmp 44) rfl B o0 out0 ⟨3, gone, []⟩ rfl K1.out.row K1.out.up rfl (by have := HLEN0.out; omega) ?_
                     intro out1 B1 d1 w1 ho1 hown1 hgr1
                     have HO1 := Lib.hid ho1
                     obtain ⟨o1, HOO1⟩ : ∃ o, Hid (o = Value.slice B1 out1.length d1) := ⟨_, rfl⟩
                     rw [← HOO1.out] at hown1 ⊢
                     have hp1 := K1.out.pushed KA1.out hgr1 hown1
                     have H1 := Lib.hid hp1.1
                     have HA1 := Lib.hid hp1.2
                     have HLEN1 : Hid (out1.length ≤ 274877906945) := by show _ ≤ _; rw [HO1.out, List.length_append]; have := HLEN0.out; simp only [List.length_cons, List.length_nil]; omega
                     clear ho1 hown1 hgr1 hp1
                     obtain ⟨A1, c1, z10, z11, z12, y10, y11, y12, ht1, hr1⟩ := H1.out.read
                     have HT1 := Lib.hid ht1; clear ht1
                     have HR1 := Lib.hid hr1; clear hr1
                     simp only at z10 z11 z12 HT1 HR1
                     simp only [List.length_nil] at z11
                     have SL : ∀ w, (Instr.slice 93 (.slice A1 0 c1) none (some (.int .i64 0)) none).run Try.prog w = .ok (.slice (addrHigh A1 c1) 0 c1) w := fun w => slice_high A1 0 c1 0 (Nat.zero_le _) w
                     have r1 := HR1.out.set 0 (.int .i64 0)
                     have x1 := r1.cell (i := 1) (by omega)
                     have f1 := r1.frozen 1
                     have r2 := r1.set 1 (.slice (addrHigh A1 c1) 0 c1)
                     have x2 := r2.cell (i := 2) (by omega)
                     have f2 := r2.frozen 2
                     replace x1 : World.cell? _ ⟨g, 1, none⟩ = some (.slice A1 0 c1) := x1
                     replace x2 : World.cell? _ ⟨g, 2, none⟩ = some (.int .i64 gone) := x2
                     clear r1 r2)
        go_ret
        have HE : NS.flush ⟨out0, keep, gone, []⟩ = out1 := by
          show out0 ++ keepOf keep ++ textOf [] ++ goneOf gone = out1
          rw [QK.out, QT.out, QG.out]
          simp [HO1.out]
        refine ⟨o1, rfl, ?_, ((HA1.out.set 0 _).set 1 _).set 2 _⟩
        rw [HE]
        exact H1.out.begin HT1.out
      · skip
        have QK : Hid (keepOf keep = []) := if_neg hk
        have QT : Hid (textOf [] = []) := if_pos rfl
        have QG : Hid (goneOf gone = []) := if_neg hg
        go_enter Try.func65, Try.ntmps65
        have SL : ∀ w, (Instr.slice 93 (.slice A0 0 c0) none (some (.int .i64 0)) none).run Try.prog w = .ok (.slice (addrHigh A0 c0) 0 c0) w := fun w => slice_high A0 0 c0 0 (Nat.zero_le _) w
        have r1 := HR0.out.set 0 (.int .i64 0)
        have x1 := r1.cell (i := 1) (by omega)
        have f1 := r1.frozen 1
        have r2 := r1.set 1 (.slice (addrHigh A0 c0) 0 c0)
        have x2 := r2.cell (i := 2) (by omega)
        have f2 := r2.frozen 2
        replace x1 : World.cell? _ ⟨g, 1, none⟩ = some (.slice A0 0 c0) := x1
        replace x2 : World.cell? _ ⟨g, 2, none⟩ = some (.int .i64 gone) := x2
        clear r1 r2
        go_wp2
        go_ret
        have HE : NS.flush ⟨out0, keep, gone, []⟩ = out0 := by
          show out0 ++ keepOf keep ++ textOf [] ++ goneOf gone = out0
          rw [QK.out, QT.out, QG.out]
          simp
        refine ⟨o0, rfl, ?_, ((HA0.out.set 0 _).set 1 _).set 2 _⟩
        rw [HE]
        exact H0.out.begin HT0.out
    · have hl0 : 0 < tx.length := List.length_pos_iff.2 ht
      by_cases hg : 0 < gone
      · skip
        have QK : Hid (keepOf keep = []) := if_neg hk
        have QT : Hid (textOf tx = [⟨2, 0, tx⟩]) := if_neg ht
        have QG : Hid (goneOf gone = [⟨3, gone, []⟩]) := if_pos hg
        go_enter Try.func65, Try.ntmps65
        have CV := (BytesAt.of_own HT0.out rfl).conv c0 9 Try.underlying9
        go_wp2_with fail
        refine (GI.out tx _).mono ?_
        rintro e v1 ⟨rfl, hb1⟩
        have K1 := Lib.hid (H0.out.below hb1)
        have KA1 := Lib.hid (HA0.out.trans (Aside.of_below hb1 H0.out.up))
        clear hb1
        go_wp2_with (at_builtin
                     refine wpList_push2 rfl (.tmp 24) (.tmp 31) rfl B o0 out0 ⟨2, 0, tx⟩ rfl K1.out.row K1.out.up rfl (by have := HLEN0.out; omega) ?_
                     intro out1 B1 d1 w1 ho1 hown1 hgr1
                     have HO1 := Lib.hid ho1
                     obtain ⟨o1, HOO1⟩ : ∃ o, Hid (o = Value.slice B1 out1.length d1) := ⟨_, rfl⟩
                     rw [← HOO1.out] at hown1 ⊢
                     have hp1 := K1.out.pushed KA1.out hgr1 hown1
                     have H1 := Lib.hid hp1.1
                     have HA1 := Lib.hid hp1.2
                     have HLEN1 : Hid (out1.length ≤ 274877906945) := by show _ ≤ _; rw [HO1.out, List.length_append]; have := HLEN0.out; simp only [List.length_cons, List.length_nil]; omega
                     clear ho1 hown1 hgr1 hp1
                     obtain ⟨A1, c1, z10, z11, z12, y10, y11, y12, ht1, hr1⟩ := H1.out.read
                     have HT1 := Lib.hid ht1; clear ht1
                     have HR1 := Lib.hid hr1; clear hr1
                     simp only at z10 z11 z12 HT1 HR1)
        go_wp2_with fail
        refine (GD.out gone _).mono ?_
        rintro e v2 ⟨rfl, hb2⟩
        have K2 := Lib.hid (H1.out.below hb2)
        have KA2 := Lib.hid (HA1.out.trans (Aside.of_below hb2 H1.out.up))
        clear hb2
        go_wp2_with (at_builtin
                     refine wpList_push2 rfl (.tmp 38) (.tmp 44) rfl B o1 out1 ⟨3, gone, []⟩ rfl K2.out.row K2.out.up rfl (by have := HLEN1.out; omega) ?_
                     intro out2 B2 d2 w2 ho2 hown2 hgr2
                     have HO2 := Lib.hid ho2
                     obtain ⟨o2, HOO2⟩ : ∃ o, Hid (o = Value.slice B2 out2.length d2) := ⟨_, rfl⟩
                     rw [← HOO2.out] at hown2 ⊢
                     have hp2 := K2.out.pushed KA2.out hgr2 hown2
                     have H2 := Lib.hid hp2.1
                     have HA2 := Lib.hid hp2.2
                     have HLEN2 : Hid (out2.length ≤ 274877906946) := by show _ ≤ _; rw [HO2.out, List.length_append]; have := HLEN1.out; simp only [List.length_cons, List.length_nil]; omega
                     clear ho2 hown2 hgr2 hp2
                     obtain ⟨A2, c2, z20, z21, z22, y20, y21, y22, ht2, hr2⟩ := H2.out.read
                     have HT2 := Lib.hid ht2; clear ht2
                     have HR2 := Lib.hid hr2; clear hr2
                     simp only at z20 z21 z22 HT2 HR2
                     have SL : ∀ w, (Instr.slice 93 (.slice A2 tx.length c2) none (some (.int .i64 0)) none).run Try.prog w = .ok (.slice (addrHigh A2 c2) 0 c2) w := fun w => slice_high A2 tx.length c2 0 (Nat.zero_le _) w
                     have r1 := HR2.out.set 0 (.int .i64 0)
                     have x1 := r1.cell (i := 1) (by omega)
                     have f1 := r1.frozen 1
                     have r2 := r1.set 1 (.slice (addrHigh A2 c2) 0 c2)
                     have x2 := r2.cell (i := 2) (by omega)
                     have f2 := r2.frozen 2
                     replace x1 : World.cell? _ ⟨g, 1, none⟩ = some (.slice A2 tx.length c2) := x1
                     replace x2 : World.cell? _ ⟨g, 2, none⟩ = some (.int .i64 gone) := x2
                     clear r1 r2)
        go_ret
        have HE : NS.flush ⟨out0, keep, gone, tx⟩ = out2 := by
          show out0 ++ keepOf keep ++ textOf tx ++ goneOf gone = out2
          rw [QK.out, QT.out, QG.out]
          simp [HO2.out, HO1.out]
        refine ⟨o2, rfl, ?_, ((HA2.out.set 0 _).set 1 _).set 2 _⟩
        rw [HE]
        exact H2.out.begin HT2.out
      · skip
        have QK : Hid (keepOf keep = []) := if_neg hk
        have QT : Hid (textOf tx = [⟨2, 0, tx⟩]) := if_neg ht
        have QG : Hid (goneOf gone = []) := if_neg hg
        go_enter Try.func65, Try.ntmps65
        have CV := (BytesAt.of_own HT0.out rfl).conv c0 9 Try.underlying9
        go_wp2_with fail
        refine (GI.out tx _).mono ?_
        rintro e v1 ⟨rfl, hb1⟩
        have K1 := Lib.hid (H0.out.below hb1)
        have KA1 := Lib.hid (HA0.out.trans (Aside.of_below hb1 H0.out.up))
        clear hb1
        go_wp2_with (at_builtin
                     refine wpList_push2 rfl (.tmp 24) (.tmp 31) rfl B o0 out0 ⟨2, 0, tx⟩ rfl K1.out.row K1.out.up rfl (by have := HLEN0.out; omega) ?_
                     intro out1 B1 d1 w1 ho1 hown1 hgr1
                     have HO1 := Lib.hid ho1
                     obtain ⟨o1, HOO1⟩ : ∃ o, Hid (o = Value.slice B1 out1.length d1) := ⟨_, rfl⟩
                     rw [← HOO1.out] at hown1 ⊢
                     have hp1 := K1.out.pushed KA1.out hgr1 hown1
                     have H1 := Lib.hid hp1.1
                     have HA1 := Lib.hid hp1.2
                     have HLEN1 : Hid (out1.length ≤ 274877906945) := by show _ ≤ _; rw [HO1.out, List.length_append]; have := HLEN0.out; simp only [List.length_cons, List.length_nil]; omega
                     clear ho1 hown1 hgr1 hp1
                     obtain ⟨A1, c1, z10, z11, z12, y10, y11, y12, ht1, hr1⟩ := H1.out.read
                     have HT1 := Lib.hid ht1; clear ht1
                     have HR1 := Lib.hid hr1; clear hr1
                     simp only at z10 z11 z12 HT1 HR1
                     have SL : ∀ w, (Instr.slice 93 (.slice A1 tx.length c1) none (some (.int .i64 0)) none).run Try.prog w = .ok (.slice (addrHigh A1 c1) 0 c1) w := fun w => slice_high A1 tx.length c1 0 (Nat.zero_le _) w
                     have r1 := HR1.out.set 0 (.int .i64 0)
                     have x1 := r1.cell (i := 1) (by omega)
                     have f1 := r1.frozen 1
                     have r2 := r1.set 1 (.slice (addrHigh A1 c1) 0 c1)
                     have x2 := r2.cell (i := 2) (by omega)
                     have f2 := r2.frozen 2
                     replace x1 : World.cell? _ ⟨g, 1, none⟩ = some (.slice A1 tx.length c1) := x1
                     replace x2 : World.cell? _ ⟨g, 2, none⟩ = some (.int .i64 gone) := x2
                     clear r1 r2)
        go_ret
        have HE : NS.flush ⟨out0, keep, gone, tx⟩ = out1 := by
          show out0 ++ keepOf keep ++ textOf tx ++ goneOf gone = out1
          rw [QK.out, QT.out, QG.out]
          simp [HO1.out]
        refine ⟨o1, rfl, ?_, ((HA1.out.set 0 _).set 1 _).set 2 _⟩
        rw [HE]
        exact H1.out.begin HT1.out
end Go.Proofs.Ytnadhpajelkngaa

/- The landed Normal: the normal form of an edit. Condition: no more than 2^30 parts, no more than 2^40 bytes of texts. -/
namespace Go.Proofs.Ytnadhpajelkngaa
open Go.RowKit Go.Deep Go.Lib

theorem wp_scope_three {P : Program} {c r0 r1 r2 : Code} {a : Act} {w : World} {Q : Exit → Act → World → Prop} (J : Nat → Act → World → Prop) (μ : Nat → Act → Nat)
    (hJ : ∀ l a w, J l a w → l < 3) (h0 : findLabel c 0 = some (Code.skip.seq r0)) (h1 : findLabel c 1 = some (Code.skip.seq r1)) (h2 : findLabel c 2 = some (Code.skip.seq r2))
    (p0 : Pass P r0 J μ Q 0) (p1 : Pass P r1 J μ Q 1) (p2 : Pass P r2 J μ Q 2)
    (first : Pass P r1 J μ Q 1 → ∃ n, c.wp P (down J μ n Q) a w) : (Code.scope c).wp P Q a w := by
  have pass : ∀ l a w, J l a w → ∃ r, findLabel c l = some r ∧ r.wp P (down J μ (μ l a) Q) a w := by
    intro l a w hl
    have := hJ l a w hl
    match l, this with
    | 0, _ => exact ⟨_, h0, skip_seq (p0 a w hl)⟩
    | 1, _ => exact ⟨_, h1, skip_seq (p1 a w hl)⟩
    | 2, _ => exact ⟨_, h2, skip_seq (p2 a w hl)⟩
  obtain ⟨n, hn⟩ := first p1
  intro b k cs
  have key : ∀ n l a w, μ l a = n → J l a w → ∃ rest, findLabel c l = some rest ∧ ∃ e a' w', Q e a' w' ∧ Arrives P (lone (b.at a (.code rest :: .inScope c :: k)) cs w) b k cs e a' w' := by
    intro n
    induction n using Nat.strongRecOn with
    | _ n ih =>
      intro l a w hn hl
      obtain ⟨rest, hf, hp⟩ := pass l a w hl
      refine ⟨rest, hf, ?_⟩
      obtain ⟨e, a₁, w₁, hq, harr⟩ := hp b (.inScope c :: k) cs
      unfold down at hq
      cases e with
      | normal => exact ⟨.normal, a₁, w₁, hq, Steps.trans harr (.one step_inScope)⟩
      | exit id => exact ⟨.exit id, a₁, w₁, hq, fun k' hk => harr k' (by simp [exitTo, hk])⟩
      | goto l' =>
        obtain ⟨hJ', hlt⟩ := hq
        obtain ⟨rest', hf', e₂, a₂, w₂, hq₂, harr₂⟩ := ih _ (by omega) l' a₁ w₁ rfl hJ'
        have hg : gotoIn l' (.inScope c :: k) = some (.code rest' :: .inScope c :: k) := by simp [gotoIn, hf']
        exact ⟨e₂, a₂, w₂, hq₂, .of_steps (harr _ hg) harr₂⟩
      | ret => exact ⟨_, a₁, w₁, hq, harr⟩
      | panic ch => exact ⟨_, a₁, w₁, hq, harr⟩
      | outgrown => exact ⟨_, a₁, w₁, hq, harr⟩
  obtain ⟨e, a₁, w₁, hq, harr⟩ := hn b (.inScope c :: k) cs
  unfold down at hq
  cases e with
  | normal => exact ⟨.normal, a₁, w₁, hq, .head step_scope (Steps.trans harr (.one step_inScope))⟩
  | exit id => exact ⟨.exit id, a₁, w₁, hq, fun k' hk => .head step_scope (harr k' (by simp [exitTo, hk]))⟩
  | goto l' =>
    obtain ⟨hJ', _⟩ := hq
    obtain ⟨rest', hf', e₂, a₂, w₂, hq₂, harr₂⟩ := key _ l' a₁ w₁ rfl hJ'
    have hg : gotoIn l' (.inScope c :: k) = some (.code rest' :: .inScope c :: k) := by simp [gotoIn, hf']
    exact ⟨e₂, a₂, w₂, hq₂, .of_steps (.head step_scope (harr _ hg)) harr₂⟩
  | ret => exact ⟨_, a₁, w₁, hq, .of_steps (.one step_scope) harr⟩
  | panic ch => exact ⟨_, a₁, w₁, hq, .of_steps (.one step_scope) harr⟩
  | outgrown => exact ⟨_, a₁, w₁, hq, .of_steps (.one step_scope) harr⟩

/-- A frame of Normal. -/
def NFr (a : Act) (L : Value) (g k : Nat) (o : Value) : Prop :=
  a.defers = [] ∧ a.tmps.size = 52 ∧ a.tmps[0]? = some (L) ∧ a.tmps[3]? = some (o) ∧ a.tmps[4]? = some (.pointer (some ⟨g, 0, none⟩)) ∧ a.tmps[5]? = some (.pointer (some ⟨g + 1, 0, none⟩)) ∧ a.tmps[6]? = some (.int .i64 (k : Int))
theorem NFr.out {a : Act} {L : Value} {g k : Nat} {o : Value} (h : NFr a L g k o) : ∃ f : Nat → Value, a = { tmps := #[L, f 1, f 2, o, .pointer (some ⟨g, 0, none⟩), .pointer (some ⟨g + 1, 0, none⟩), .int .i64 (k : Int), f 7, f 8, f 9, f 10, f 11, f 12, f 13, f 14, f 15, f 16, f 17, f 18, f 19, f 20, f 21, f 22, f 23, f 24, f 25, f 26, f 27, f 28, f 29, f 30, f 31, f 32, f 33, f 34, f 35, f 36, f 37, f 38, f 39, f 40, f 41, f 42, f 43, f 44, f 45, f 46, f 47, f 48, f 49, f 50, f 51], defers := [] } := by
  obtain ⟨t, d⟩ := a
  obtain ⟨rfl, hs, h0, h3, h4, h5, h6⟩ := h
  simp only at hs h0 h3 h4 h5 h6
  refine ⟨fun n => (t[n]?).getD undef, ?_⟩
  have e : t = ((List.range 52).map fun i => (t[i]?).getD undef).toArray := by
    apply Array.ext
    · simp [hs]
    · intro i h1 h2
      simp [h1]
  have e2 : ((List.range 52).map fun i => (t[i]?).getD undef).toArray = #[(t[0]?).getD undef, (t[1]?).getD undef, (t[2]?).getD undef, (t[3]?).getD undef, (t[4]?).getD undef, (t[5]?).getD undef, (t[6]?).getD undef, (t[7]?).getD undef, (t[8]?).getD undef, (t[9]?).getD undef, (t[10]?).getD undef, (t[11]?).getD undef, (t[12]?).getD undef, (t[13]?).getD undef, (t[14]?).getD undef, (t[15]?).getD undef, (t[16]?).getD undef, (t[17]?).getD undef, (t[18]?).getD undef, (t[19]?).getD undef, (t[20]?).getD undef, (t[21]?).getD undef, (t[22]?).getD undef, (t[23]?).getD undef, (t[24]?).getD undef, (t[25]?).getD undef, (t[26]?).getD undef, (t[27]?).getD undef, (t[28]?).getD undef, (t[29]?).getD undef, (t[30]?).getD undef, (t[31]?).getD undef, (t[32]?).getD undef, (t[33]?).getD undef, (t[34]?).getD undef, (t[35]?).getD undef, (t[36]?).getD undef, (t[37]?).getD undef, (t[38]?).getD undef, (t[39]?).getD undef, (t[40]?).getD undef, (t[41]?).getD undef, (t[42]?).getD undef, (t[43]?).getD undef, (t[44]?).getD undef, (t[45]?).getD undef, (t[46]?).getD undef, (t[47]?).getD undef, (t[48]?).getD undef, (t[49]?).getD undef, (t[50]?).getD undef, (t[51]?).getD undef] := rfl
  simp only [h0, h3, h4, h5, h6, Option.getD_some] at e2
  rw [← e2, ← e]
attribute [irreducible] NFr
theorem NFr.mk {t : Array Value} {L : Value} {g k : Nat} {o : Value} (h : t.size = 52 ∧ t[0]? = some (L) ∧ t[3]? = some (o) ∧ t[4]? = some (.pointer (some ⟨g, 0, none⟩)) ∧ t[5]? = some (.pointer (some ⟨g + 1, 0, none⟩)) ∧ t[6]? = some (.int .i64 (k : Int))) : NFr { tmps := t, defers := [] } L g k o := by
  unfold NFr
  exact ⟨rfl, h⟩
theorem NFr.at6 {a : Act} {L : Value} {g k : Nat} {o : Value} (h : NFr a L g k o) : a.tmps.getD 6 undef = .int .i64 (k : Int) := by
  obtain ⟨f, rfl⟩ := h.out
  rfl

/-- The cells of a part. -/
def cmCells (kd n : Int) (t : List Nat) (i : Nat) : Value := if i = 0 then .int .i64 kd else if i = 1 then .int .i64 n else .string (bstr t)
/-- What holds at each label: 0: end, 1: next, 2: retain. -/
def NJ (W : World) (L : Value) (l : List CompV) : Nat → Act → World → Prop
  | 1, a, w => ∃ k o kd n t, NFr a L W.heap.size k o ∧ k ≤ l.length ∧ NowAt W.heap.size (W.heap.size + 2) (nRun (l.take k)) o w ∧ w.rowIs (W.heap.size + 1) 54 3 (cmCells kd n t) ∧ Below W.heap.size W w
  | 0, a, w => ∃ o, NFr a L W.heap.size l.length o ∧ NowAt W.heap.size (W.heap.size + 2) (nRun l) o w ∧ Below W.heap.size W w
  | 2, a, w => ∃ k o n t, NFr a L W.heap.size (k + 1) o ∧ k < l.length ∧ l[k]? = some ⟨1, n, t⟩ ∧ 0 < n ∧ NowAt W.heap.size (W.heap.size + 2) (nRun (l.take k)) o w ∧ w.rowIs (W.heap.size + 1) 54 3 (cmCells 1 n t) ∧ Below W.heap.size W w
  | _, _, _ => False
def Nμ (len : Nat) : Nat → Act → Nat
  | 1, a => 2 * (len - (RowKit.intOf (a.tmps.getD 6 undef)).toNat) + 1
  | 2, a => 2 * (len - (RowKit.intOf (a.tmps.getD 6 undef)).toNat) + 2
  | _, _ => 0
theorem Nμ1 {len : Nat} {a : Act} {L : Value} {g k : Nat} {o : Value} (h : NFr a L g k o) : Nμ len 1 a = 2 * (len - k) + 1 := by
  show 2 * (len - (RowKit.intOf (a.tmps.getD 6 undef)).toNat) + 1 = _
  rw [h.at6]; simp [RowKit.intOf]
theorem Nμ2 {len : Nat} {a : Act} {L : Value} {g k : Nat} {o : Value} (h : NFr a L g k o) : Nμ len 2 a = 2 * (len - k) + 2 := by
  show 2 * (len - (RowKit.intOf (a.tmps.getD 6 undef)).toNat) + 2 = _
  rw [h.at6]; simp [RowKit.intOf]
theorem Nμ0 {len : Nat} {a : Act} : Nμ len 0 a = 0 := rfl

theorem NowAt.other {g B g' : Nat} {s : NS} {o : Value} {w : World} (h : NowAt g B s o w) (hne : g ≠ g') (hlt : g' < B) (i : Nat) (v : Value) : NowAt g B s o (w.setCell ⟨g', i, none⟩ v) := by
  obtain ⟨h1, h2, ⟨A, c, hr, ht⟩, ho⟩ := h
  exact ⟨h1, by simpa [World.setCell] using h2, ⟨A, c, hr.setOther hne v, own_set_below ht hlt _ _⟩, own_set_below ho hlt _ _⟩
theorem bytes_str (l : List Nat) (hb : ∀ x ∈ l, x < 256) : strCells (bstr l) = u8s l := by
  unfold strCells u8s
  rw [bstr_data, List.map_map]
  refine List.map_congr_left fun x hx => ?_
  have := hb x hx
  simp
  omega
/-- The part is read into the block of its own. -/
theorem cm_chain {w : World} {b : Nat} {k0 n0 : Int} {t0 : List Nat} (h : w.rowIs b 54 3 (cmCells k0 n0 t0)) (kd n : Int) (t : List Nat) :
    (((w.setCell ⟨b, 0, none⟩ (.int .i64 kd)).setCell ⟨b, 1, none⟩ (.int .i64 n)).setCell ⟨b, 2, none⟩ (.string (bstr t))).rowIs b 54 3 (cmCells kd n t) :=
  (((h.set 0 (.int .i64 kd)).set 1 (.int .i64 n)).set 2 (.string (bstr t))).congr fun i hi => by
    rcases (show i = 0 ∨ i = 1 ∨ i = 2 by omega) with rfl | rfl | rfl <;> rfl

theorem NowAt.start (w : World) : NowAt w.heap.size (w.heap.size + 2) nStart (.slice none 0 0) ((w.alloc (.cells #[.int .i64 0, .slice none 0 0, .int .i64 0] 95)).alloc (.cells #[.int .i64 0, .int .i64 0, .string { data := #[] }] 54)) := by
  refine ⟨by omega, by simp, ⟨none, 0, (World.rowIs_alloc w _ _ _ (fun i hi => ?_)).alloc _, World.ownsRow_nil _ _ _ _⟩, World.ownsRow_nil _ _ _ _⟩
  rcases (show i = 0 ∨ i = 1 ∨ i = 2 by simp at hi; omega) with rfl | rfl | rfl <;> rfl
theorem cm_start (w : World) : ((w.alloc (.cells #[.int .i64 0, .slice none 0 0, .int .i64 0] 95)).alloc (.cells #[.int .i64 0, .int .i64 0, .string { data := #[] }] 54)).rowIs (w.heap.size + 1) 54 3 (cmCells 0 0 []) := by
  have h := World.rowIs_alloc (w.alloc (.cells #[.int .i64 0, .slice none 0 0, .int .i64 0] 95)) #[.int .i64 0, .int .i64 0, .string { data := #[] }] 54 (cmCells 0 0 []) (fun i hi => by
    rcases (show i = 0 ∨ i = 1 ∨ i = 2 by simp at hi; omega) with rfl | rfl | rfl <;> rfl)
  rwa [show (w.alloc (.cells #[.int .i64 0, .slice none 0 0, .int .i64 0] 95)).heap.size = w.heap.size + 1 by simp] at h

set_option maxHeartbeats 8000000 in
set_option maxRecDepth 100000 in
theorem opNormal_any (A : Option Addr) (c : Nat) (l : List CompV) (hl : l.length ≤ 1073741824) (ht : tlen l ≤ 1099511627776) (hgood : ∀ y ∈ l, y.Good) (w : World) (hc : CompsAt w A l) :
    Calls Try.prog 55 #[.slice A l.length c] w fun e w' => ∃ A' c', e = .returned (.slice A' (rNormal l).length c') ∧ w'.ownsRow w.heap.size 54 3 (.slice A' (rNormal l).length c') (rNormal l).length ((rNormal l).flatMap compCells) ∧ Below w.heap.size w w' := by
  have HC := Lib.hid hc; clear hc
  have HTL := Lib.hid ht; clear ht
  have HGD := Lib.hid hgood; clear hgood
  have HFIT : Hid (∀ k, (nRun (l.take k)).out.length ≤ 3221225472 ∧ (nRun (l.take k)).text.length ≤ tlen (l.take k) ∧ 0 ≤ (nRun (l.take k)).keep ∧ (nRun (l.take k)).keep ≤ 1099511627776 ∧ 0 ≤ (nRun (l.take k)).gone ∧ (nRun (l.take k)).gone ≤ 1099511627776) := fun k => by
    have h := run_fit (l.take k)
    exact ⟨Nat.le_trans h.out (by rw [List.length_take]; omega), h.text, h.keep0, h.keep1, h.gone0, h.gone1⟩
  obtain ⟨g, HG⟩ : ∃ x, Hid (w.heap.size = x) := ⟨_, rfl⟩
  go_enter Try.func55, Try.ntmps55
  go_wp2
  refine wp_scope_three (NJ w (.slice A l.length c) l) (Nμ l.length) ?hJ rfl rfl rfl ?p0 ?p1 ?p2 ?first
  case hJ =>
    intro j a w h
    match j, h with
    | 0, _ => omega
    | 1, _ => omega
    | 2, _ => omega
    | (n + 3), h => exact h.elim
  case p0 =>
    rintro a w1 ⟨o, hf, hn, hb⟩
    rw [Nμ0]
    have HN := Lib.hid hn; clear hn
    have HB := Lib.hid hb; clear hb
    have hfit := HFIT.out l.length
    rw [List.take_length] at hfit
    have GE := Lib.hid (opEnd_any w.heap.size (w.heap.size + 2) (nRun l) o (by omega) (by have := HTL.out; omega) w1 HN.out)
    clear hfit
    rw [HG.out] at hf GE
    obtain ⟨f, rfl⟩ := hf.out
    clear hf
    go_wp2_with fail
    refine GE.out.mono ?_
    rintro e w2 ⟨o2, rfl, hn2, ha2⟩
    have HN2 := Lib.hid hn2
    have HA2 := Lib.hid ha2
    clear hn2 ha2
    obtain ⟨A2, c2, ho2⟩ := HN2.out.out
    have HO2 := Lib.hid ho2; clear ho2
    go_wp2
    rw [down_ret]
    go_ret
    refine ⟨A2, c2, ?_, ?_, ?_⟩
    · rw [HO2.out]; rfl
    · have := HN2.out.row
      rw [HO2.out] at this
      exact own_base this (by have := HG.out; omega)
    · have h := HA2.out.below HB.out (by have := HG.out; omega) (by have := HG.out; omega)
      exact h
  case p2 =>
    rintro a w1 ⟨k, o, n, t, hf, hk, hget, hn0, hn, hr, hb⟩
    rw [Nμ2 hf]
    obtain ⟨m, HM⟩ : ∃ m, Hid (m = 2 * (l.length - (k + 1)) + 2) := ⟨_, rfl⟩
    rw [← HM.out]
    have HB := Lib.hid hb; clear hb
    have hfit := HFIT.out k
    have HNX : Hid (nRun (l.take (k + 1)) = nStep (nRun (l.take k)) ⟨1, n, t⟩) := by
      show _ = _
      rw [List.take_succ_eq_append_getElem hk, nRun_snoc, (List.getElem?_eq_some_iff.1 hget).2]
    rw [nStep, if_neg (by simp), if_neg (by simp), if_neg (by simp only; omega)] at HNX
    have HFT : Hid ((nRun (l.take k)).text.length ≤ 1099511627776) := by show _ ≤ _; have := tlen_take l k; have := HTL.out; omega
    rw [HG.out] at hf hn hr
    obtain ⟨s, HS⟩ : ∃ x, Hid (nRun (l.take k) = x) := ⟨_, rfl⟩
    rw [HS.out] at hn hfit HNX HFT
    obtain ⟨hf1, _, hf3, hf4, hf5, hf6⟩ := hfit
    have HKS := Lib.hid (fun w => opSum_any s.keep n hf3 hf4 w)
    have HK0 := Lib.hid (fun w => opSum_any 0 n (by omega) (by omega) w)
    have GB := Lib.hid (opBare_any g (g + 2) s o hf5 w1 hn)
    have GE := Lib.hid (opEnd_any g (g + 2) s o (by omega) HFT.out w1 hn)
    obtain ⟨q, HQ⟩ : ∃ q, Hid (hld s.keep n = q) := ⟨_, Lib.hid rfl⟩
    obtain ⟨q0, HQ0⟩ : ∃ q, Hid (hld 0 n = q) := ⟨_, Lib.hid rfl⟩
    simp only [HQ.out, HQ0.out] at HNX
    rw [HQ.out] at HKS
    rw [HQ0.out] at HK0
    obtain ⟨A1, c1, z0, z1, z2, y0, y1, y2, ht1, hr1⟩ := hn.read
    have d1 := hr.cell (i := 1) (by omega)
    replace d1 : World.cell? _ ⟨g + 1, 1, none⟩ = some (.int .i64 n) := d1
    have HN := Lib.hid hn; have HR := Lib.hid hr
    obtain ⟨f, rfl⟩ := hf.out
    clear hf hn hr ht1 hr1 hf1 hf3 hf4 hf6 hn0 hget z1 z2 y1 y2
    by_cases hbare : s.text = [] ∧ s.gone = 0
    · rw [if_neg (fun h => by rcases h with h | h; exact h hbare.1; omega)] at HNX
      rw [decide_eq_true hbare] at GB
      clear hbare hf5
      go_wp2_with fail
      refine GB.out.mono ?_
      rintro e w2 ⟨rfl, rfl⟩
      go_wp2_with fail
      refine (HKS.out _).mono ?_
      rintro e w2 ⟨rfl, rfl⟩
      go_wp2
      go_step3
      rw [then_goto, down_goto, Nμ1 (L := .slice A l.length c) (g := g) (k := k + 1) (o := o) (NFr.mk ⟨rfl, rfl, rfl, rfl, rfl, rfl⟩)]
      exact ⟨⟨k + 1, o, 1, n, t, HG.out ▸ NFr.mk ⟨rfl, rfl, rfl, rfl, rfl, rfl⟩, by omega, by rw [HNX.out, HG.out]; exact HN.out.setKeep q, by rw [HG.out]; exact HR.out.setOther (a := ⟨g, 0, none⟩) (by show g + 1 ≠ g; omega) _, HB.out.setCell (by have := HG.out; show _ ≤ g; omega) _⟩, by have := HM.out; omega⟩
    · rw [if_pos (by rcases Classical.not_and_iff_not_or_not.1 hbare with h | h; exact .inl h; exact .inr (by omega))] at HNX
      rw [decide_eq_false hbare] at GB
      clear hbare hf5
      go_wp2_with fail
      refine GB.out.mono ?_
      rintro e w2 ⟨rfl, rfl⟩
      go_wp2_with fail
      refine GE.out.mono ?_
      rintro e w2 ⟨o2, rfl, hn2, ha2⟩
      have HB2 : Hid (Below w.heap.size w w2) := ha2.below HB.out (by have := HG.out; omega) (by have := HG.out; omega)
      have hr2 := HR.out.of_block (ha2.block (g + 1) (by omega) (by omega))
      obtain ⟨A3, c3, u0, u1, u2, v0, v1, v2, ht3, hr3⟩ := hn2.read
      simp only at u0
      have e1 := hr2.cell (i := 1) (by omega)
      replace e1 : World.cell? _ ⟨g + 1, 1, none⟩ = some (.int .i64 n) := e1
      have HN2 := Lib.hid hn2
      have HR2 := Lib.hid hr2
      clear hn2 ha2 hr2 ht3 hr3 u1 u2 v1 v2
      go_wp2_with fail
      refine (HK0.out _).mono ?_
      rintro e w3 ⟨rfl, rfl⟩
      go_wp2
      go_step3
      rw [then_goto, down_goto, Nμ1 (L := .slice A l.length c) (g := g) (k := k + 1) (o := o2) (NFr.mk ⟨rfl, rfl, rfl, rfl, rfl, rfl⟩)]
      exact ⟨⟨k + 1, o2, 1, n, t, HG.out ▸ NFr.mk ⟨rfl, rfl, rfl, rfl, rfl, rfl⟩, by omega, by rw [HNX.out, HG.out]; exact HN2.out.setKeep q0, by rw [HG.out]; exact HR2.out.setOther (a := ⟨g, 0, none⟩) (by show g + 1 ≠ g; omega) _, HB2.out.setCell (by have := HG.out; show _ ≤ g; omega) _⟩, by have := HM.out; omega⟩
  case p1 =>
    rintro a w1 ⟨k, o, kd0, n0, t0, hf, hk, hn, hr, hb⟩
    rw [Nμ1 hf]
    obtain ⟨m, HM⟩ : ∃ m, Hid (m = 2 * (l.length - k) + 1) := ⟨_, rfl⟩
    rw [← HM.out]
    have HB := Lib.hid hb; clear hb
    rw [HG.out] at hf hn hr
    obtain ⟨f, rfl⟩ := hf.out
    clear hf
    by_cases hlt : k < l.length
    · obtain ⟨b, off, rfl, _⟩ := HC.out.form (by omega)
      obtain ⟨x0, x1, x2⟩ := (HC.out.below HB.out).at_ hlt
      have HGET : Hid (l[k]? = some l[k]) := List.getElem?_eq_getElem hlt
      have HNX := Lib.hid (show nRun (l.take (k + 1)) = nStep (nRun (l.take k)) l[k] by rw [List.take_succ_eq_append_getElem hlt, nRun_snoc])
      have HTG := Lib.hid (tlen_get hlt)
      have HYG := Lib.hid (HGD.out l[k] (List.getElem_mem hlt))
      generalize l[k] = y at x0 x1 x2 HGET HNX HTG HYG
      obtain ⟨kd, n, t⟩ := y
      simp only at x0 x1 x2 HTG
      have hfit := HFIT.out k
      have HFT : Hid ((nRun (l.take k)).text.length + t.length ≤ 1099511627776) := by show _ ≤ _; have := HTG.out; have := HTL.out; omega
      obtain ⟨s, HS⟩ : ∃ x, Hid (nRun (l.take k) = x) := ⟨_, rfl⟩
      rw [HS.out] at hn hfit HNX HFT
      obtain ⟨_, _, hf3, hf4, hf5, hf6⟩ := hfit
      have HKG := Lib.hid (fun w => opSum_any s.gone n hf5 hf6 w)
      clear hf3 hf4 hf5 hf6
      have HRW := Lib.hid (cm_chain hr kd n t)
      have p0 := hr.cell (i := 0) (by omega)
      have q0 := hr.frozen 0
      have r1 := hr.set 0 (.int .i64 kd)
      have p1 := r1.cell (i := 1) (by omega)
      have q1 := r1.frozen 1
      have r2 := r1.set 1 (.int .i64 n)
      have p2 := r2.cell (i := 2) (by omega)
      have q2 := r2.frozen 2
      replace p0 : World.cell? _ ⟨g + 1, 0, none⟩ = some (.int .i64 kd0) := p0
      replace p1 : World.cell? _ ⟨g + 1, 1, none⟩ = some (.int .i64 n0) := p1
      replace p2 : World.cell? _ ⟨g + 1, 2, none⟩ = some (.string (bstr t0)) := p2
      have j0 := HRW.out.cell (i := 0) (by omega)
      have j1 := HRW.out.cell (i := 1) (by omega)
      have j2 := HRW.out.cell (i := 2) (by omega)
      replace j0 : World.cell? _ ⟨g + 1, 0, none⟩ = some (.int .i64 kd) := j0
      replace j1 : World.cell? _ ⟨g + 1, 1, none⟩ = some (.int .i64 n) := j1
      replace j2 : World.cell? _ ⟨g + 1, 2, none⟩ = some (.string (bstr t)) := j2
      have hne : g ≠ g + 1 := by omega
      have HN := Lib.hid (((hn.other hne (by omega) 0 (.int .i64 kd)).other hne (by omega) 1 (.int .i64 n)).other hne (by omega) 2 (.string (bstr t)))
      have HBW := Lib.hid (((HB.out.setCell (p := ⟨g + 1, 0, none⟩) (by have := HG.out; show _ ≤ g + 1; omega) (.int .i64 kd)).setCell (p := ⟨g + 1, 1, none⟩) (by have := HG.out; show _ ≤ g + 1; omega) (.int .i64 n)).setCell (p := ⟨g + 1, 2, none⟩) (by have := HG.out; show _ ≤ g + 1; omega) (.string (bstr t)))
      clear hr hn r1 r2 hne
      obtain ⟨A1, c1, z0, z1, z2, y0, y1, y2, ht1, hr1⟩ := HN.out.read
      have HT1 := Lib.hid ht1; have HR1 := Lib.hid hr1
      clear ht1 hr1 z0 y0
      have e1 : ((k : Int) == (l.length : Int)) = false := beq_eq_false_iff_ne.2 (by omega)
      have hkl : k < 1073741824 := by omega
      by_cases h2 : kd = 2
      · subst h2
        rw [nStep, if_pos rfl] at HNX
        have hsz := bstr_size t
        have HSC := Lib.hid (bytes_str t HYG.out.2.2.1)
        obtain ⟨i0, hi0, hz0, hz1, hz2⟩ := info_parts u8_info
        have HI0 := Lib.hid hi0; clear hi0
        have HZ0 := Lib.hid hz0; clear hz0
        have HZ1 := Lib.hid hz1; clear hz1
        have HZ2 := Lib.hid hz2; clear hz2
        go_wp2_with (at_builtin
                     refine wpList_append_own_string _ rfl (.tmp 22) (.tmp 24) 93 9 rfl (g + 2) 5 i0 Try.underlying93 Try.underlying9 HI0.out HZ0.out HZ1.out HZ2.out (.slice A1 s.text.length c1) s.text.length (u8s s.text) rfl HT1.out (bstr t) rfl (by have := HFT.out; rw [hsz]; simp only [maxLen]; omega) (by have := HFT.out; rw [hsz]; omega) HN.out.up ?_
                     intro v3 w3 hown3 hgr3 _
                     rw [hsz, HSC.out, ← u8s_append, ← List.length_append] at hown3
                     obtain ⟨A3, k3, rfl⟩ := own_slice hown3
                     have hp3 := HN.out.setText HT1.out hgr3 hown3
                     rw [List.length_append] at hp3
                     have HN3 := Lib.hid hp3.1
                     have HA3 := Lib.hid hp3.2
                     have hrr := HR1.out.of_block (hgr3.block g HR1.out.lt (fun e => by have := (HT1.out.lt g e.symm).1; omega))
                     have w31 := hrr.cell (i := 1) (by omega)
                     replace w31 : World.cell? _ ⟨g, 1, none⟩ = some (.slice A1 s.text.length c1) := w31
                     have w3f := hrr.frozen 1
                     clear hown3 hgr3 hp3 hrr)
        go_step3
        rw [then_goto, down_goto, Nμ1 (L := .slice (some ⟨b, off, none⟩) l.length c) (g := g) (k := k + 1) (o := o) (NFr.mk ⟨rfl, rfl, rfl, rfl, rfl, rfl⟩)]
        exact ⟨⟨k + 1, o, 2, n, t, HG.out ▸ NFr.mk ⟨rfl, rfl, rfl, rfl, rfl, rfl⟩, by omega, by rw [HNX.out, HG.out]; exact HN3.out, by rw [HG.out]; exact HRW.out.of_block (HA3.out.block (g + 1) (by omega) (by omega)), HA3.out.below HBW.out (by have := HG.out; omega) (by have := HG.out; omega)⟩, by have := HM.out; omega⟩
      by_cases h3 : kd = 3
      · subst h3
        rw [nStep, if_neg h2, if_pos rfl] at HNX
        obtain ⟨q, HQ⟩ : ∃ q, Hid (hld s.gone n = q) := ⟨_, Lib.hid rfl⟩
        simp only [HQ.out] at HNX
        rw [HQ.out] at HKG
        clear h2
        go_wp2_with fail
        refine (HKG.out _).mono ?_
        rintro e w2 ⟨rfl, rfl⟩
        go_wp2
        go_step3
        rw [then_goto, down_goto, Nμ1 (L := .slice (some ⟨b, off, none⟩) l.length c) (g := g) (k := k + 1) (o := o) (NFr.mk ⟨rfl, rfl, rfl, rfl, rfl, rfl⟩)]
        exact ⟨⟨k + 1, o, 3, n, t, HG.out ▸ NFr.mk ⟨rfl, rfl, rfl, rfl, rfl, rfl⟩, by omega, by rw [HNX.out, HG.out]; exact HN.out.setGone q, by rw [HG.out]; exact HRW.out.setOther (a := ⟨g, 2, none⟩) (by show g + 1 ≠ g; omega) _, HBW.out.setCell (by have := HG.out; show _ ≤ g; omega) _⟩, by have := HM.out; omega⟩
      have g2 : (kd == 2) = false := beq_eq_false_iff_ne.2 h2
      have g3 : (kd == 3) = false := beq_eq_false_iff_ne.2 h3
      by_cases h1 : kd = 1
      · subst h1
        by_cases hn1 : 0 < n
        · have hnn := Lib.hid hn1
          go_wp2
          go_step3
          rw [block_goto, then_goto, down_goto, Nμ2 (L := .slice (some ⟨b, off, none⟩) l.length c) (g := g) (k := k + 1) (o := o) (NFr.mk ⟨rfl, rfl, rfl, rfl, rfl, rfl⟩)]
          exact ⟨⟨k, o, n, t, HG.out ▸ NFr.mk ⟨rfl, rfl, rfl, rfl, rfl, rfl⟩, hlt, HGET.out, hnn.out, by rw [HS.out, HG.out]; exact HN.out, by rw [HG.out]; exact HRW.out, HBW.out⟩, by have := HM.out; omega⟩
        · rw [nStep, if_neg h2, if_neg h3, if_pos (.inr (by simp only; omega))] at HNX
          clear h2 h3
          go_wp2
          go_step3
          rw [then_goto, down_goto, Nμ1 (L := .slice (some ⟨b, off, none⟩) l.length c) (g := g) (k := k + 1) (o := o) (NFr.mk ⟨rfl, rfl, rfl, rfl, rfl, rfl⟩)]
          exact ⟨⟨k + 1, o, 1, n, t, HG.out ▸ NFr.mk ⟨rfl, rfl, rfl, rfl, rfl, rfl⟩, by omega, by rw [HNX.out, HG.out]; exact HN.out, by rw [HG.out]; exact HRW.out, HBW.out⟩, by have := HM.out; omega⟩
      · rw [nStep, if_neg h2, if_neg h3, if_pos (.inl h1)] at HNX
        have g1 : (kd == 1) = false := beq_eq_false_iff_ne.2 h1
        clear h1 h2 h3
        go_wp2
        go_step3
        rw [then_goto, down_goto, Nμ1 (L := .slice (some ⟨b, off, none⟩) l.length c) (g := g) (k := k + 1) (o := o) (NFr.mk ⟨rfl, rfl, rfl, rfl, rfl, rfl⟩)]
        exact ⟨⟨k + 1, o, kd, n, t, HG.out ▸ NFr.mk ⟨rfl, rfl, rfl, rfl, rfl, rfl⟩, by omega, by rw [HNX.out, HG.out]; exact HN.out, by rw [HG.out]; exact HRW.out, HBW.out⟩, by have := HM.out; omega⟩
    · have hkl : k = l.length := by omega
      subst hkl
      rw [List.take_length] at hn
      have HN := Lib.hid hn
      clear hn hr
      have e1 : ((l.length : Int) == (l.length : Int)) = true := beq_self_eq_true _
      go_wp2
      go_step3
      rw [then_goto, down_goto, Nμ0]
      exact ⟨⟨o, HG.out ▸ NFr.mk ⟨rfl, rfl, rfl, rfl, rfl, rfl⟩, by rw [HG.out]; exact HN.out, HB.out⟩, by have := HM.out; omega⟩
  case first =>
    intro P0
    have P0' := Lib.hid P0; clear P0
    refine ⟨2 * l.length + 2, ?_⟩
    go_wp2
    go_step3
    rename_i K hK
    refine hK _ _ (down_mono ?_ (P0'.out _ _ ⟨0, .slice none 0 0, 0, 0, [], NFr.mk ⟨rfl, rfl, rfl, rfl, rfl, rfl⟩, Nat.zero_le _, NowAt.start w, cm_start w, ((Below.refl _ _).alloc (Nat.le_refl _) _).alloc (by simp) _⟩))
    rw [Nμ1 (L := .slice A l.length c) (g := w.heap.size) (k := 0) (o := .slice none 0 0) (NFr.mk ⟨rfl, rfl, rfl, rfl, rfl, rfl⟩)]
    omega
end Go.Proofs.Ytnadhpajelkngaa

/- The landed check of normal parts, and Check. Condition: no slice is longer than memory, no text longer than 2^40 bytes. -/
namespace Go.Proofs.Ytnadhpajelkngaa
open Go.RowKit Go.Deep

/-- A part may stand in a normal edit. -/
def Whole (c : CompV) : Prop := ((c.kind = 1 ∨ c.kind = 3) ∧ 1 ≤ c.n ∧ c.text = []) ∨ (c.kind = 2 ∧ c.n = 0 ∧ c.text ≠ [] ∧ ∃ vs, V c.text vs)
/-- What is told of a part. -/
def WholeEnd (kd n : Int) (tx : List Nat) (w : World) (e : Ending) (w' : World) : Prop := ∃ r, (r = true ↔ Whole ⟨kd, n, tx⟩) ∧ e = .returned (.bool r) ∧ Below w.heap.size w w'
theorem empty_no' {l : List Nat} (h : l ≠ []) : ((bstr l).toList != []) = true := by
  have := empty_no h
  cases e : (bstr l).toList with
  | nil => rw [e] at this; simp at this
  | cons a t => rfl
set_option maxHeartbeats 1000000 in
set_option maxRecDepth 100000 in
theorem opWhole_any (kd n : Int) (tx : List Nat) (hb : ∀ x ∈ tx, x < 256) (hl : tx.length ≤ 1099511627776) (w : World) :
    Calls Try.prog 70 #[.agg #[.int .i64 kd, .int .i64 n, .string (bstr tx)]] w (WholeEnd kd n tx w) := by
  have HB := Lib.hid hb; clear hb
  by_cases h13 : kd = 1 ∨ kd = 3
  · by_cases hn : 0 < n
    · by_cases ht : tx = []
      · subst ht
        have hte := empty_yes
        have HR : Hid (Whole ⟨kd, n, []⟩) := .inl ⟨h13, (by show 1 ≤ n; omega), rfl⟩
        rcases h13 with rfl | rfl
        · go_enter Try.func70, Try.ntmps70
          go_wp2
          go_ret
          exact ⟨true, ⟨fun _ => HR.out, fun _ => rfl⟩, rfl, (Below.refl _ _).alloc (Nat.le_refl _) _⟩
        · go_enter Try.func70, Try.ntmps70
          go_wp2
          go_ret
          exact ⟨true, ⟨fun _ => HR.out, fun _ => rfl⟩, rfl, (Below.refl _ _).alloc (Nat.le_refl _) _⟩
      · have hte := empty_no ht
        have HR : Hid (¬ Whole ⟨kd, n, tx⟩) := fun h => by
          rcases h with ⟨_, _, h⟩ | ⟨h, _⟩
          · exact ht h
          · simp only at h; omega
        rcases h13 with rfl | rfl
        · go_enter Try.func70, Try.ntmps70
          go_wp2
          go_ret
          exact ⟨false, ⟨fun h => (by cases h), fun h => absurd h HR.out⟩, rfl, (Below.refl _ _).alloc (Nat.le_refl _) _⟩
        · go_enter Try.func70, Try.ntmps70
          go_wp2
          go_ret
          exact ⟨false, ⟨fun h => (by cases h), fun h => absurd h HR.out⟩, rfl, (Below.refl _ _).alloc (Nat.le_refl _) _⟩
    · have HR : Hid (¬ Whole ⟨kd, n, tx⟩) := fun h => by
        rcases h with ⟨_, h, _⟩ | ⟨h, _⟩
        · simp only at h; omega
        · simp only at h; omega
      rcases h13 with rfl | rfl
      · go_enter Try.func70, Try.ntmps70
        go_wp2
        go_ret
        exact ⟨false, ⟨fun h => (by cases h), fun h => absurd h HR.out⟩, rfl, (Below.refl _ _).alloc (Nat.le_refl _) _⟩
      · go_enter Try.func70, Try.ntmps70
        go_wp2
        go_ret
        exact ⟨false, ⟨fun h => (by cases h), fun h => absurd h HR.out⟩, rfl, (Below.refl _ _).alloc (Nat.le_refl _) _⟩
  · have g1 : (kd == 1) = false := beq_eq_false_iff_ne.2 fun h => h13 (.inl h)
    have g3 : (kd == 3) = false := beq_eq_false_iff_ne.2 fun h => h13 (.inr h)
    by_cases h2 : kd = 2
    · by_cases hn : n = 0
      · subst hn
        by_cases ht : tx = []
        · subst ht
          have hte := empty_yes
          have HR : Hid (¬ Whole ⟨kd, 0, []⟩) := fun h => by
            rcases h with ⟨h, _⟩ | ⟨_, _, h, _⟩
            · exact h13 h
            · exact h rfl
          subst h2
          go_enter Try.func70, Try.ntmps70
          go_wp2
          go_ret
          exact ⟨false, ⟨fun h => (by cases h), fun h => absurd h HR.out⟩, rfl, (Below.refl _ _).alloc (Nat.le_refl _) _⟩
        · have hte := empty_no ht
          have hte' := empty_no' ht
          by_cases hv : ∃ vs, V tx vs
          · have HR : Hid (Whole ⟨kd, 0, tx⟩) := .inr ⟨h2, rfl, ht, hv⟩
            have GV := Lib.hid (fun w => (utfValid_yes hv.choose_spec hl w))
            subst h2
            clear hv
            go_enter Try.func70, Try.ntmps70
            go_wp2_with fail
            refine (GV.out _).mono ?_
            rintro e w1 ⟨rfl, rfl⟩
            go_wp2
            go_ret
            exact ⟨true, ⟨fun _ => HR.out, fun _ => rfl⟩, rfl, (Below.refl _ _).alloc (Nat.le_refl _) _⟩
          · have HR : Hid (¬ Whole ⟨kd, 0, tx⟩) := fun h => by
              rcases h with ⟨h, _⟩ | ⟨_, _, _, h⟩
              · exact h13 h
              · exact hv h
            have GV := Lib.hid (fun w => (utfValid_no hv HB.out hl w))
            subst h2
            clear hv
            go_enter Try.func70, Try.ntmps70
            go_wp2_with fail
            refine (GV.out _).mono ?_
            rintro e w1 ⟨rfl, rfl⟩
            go_wp2
            go_ret
            exact ⟨false, ⟨fun h => (by cases h), fun h => absurd h HR.out⟩, rfl, (Below.refl _ _).alloc (Nat.le_refl _) _⟩
      · have HR : Hid (¬ Whole ⟨kd, n, tx⟩) := fun h => by
          rcases h with ⟨h, _⟩ | ⟨_, h, _⟩
          · exact h13 h
          · exact hn h
        have gn : (n == 0) = false := beq_eq_false_iff_ne.2 hn
        subst h2
        clear hn
        go_enter Try.func70, Try.ntmps70
        go_wp2
        go_ret
        exact ⟨false, ⟨fun h => (by cases h), fun h => absurd h HR.out⟩, rfl, (Below.refl _ _).alloc (Nat.le_refl _) _⟩
    · have g2 : (kd == 2) = false := beq_eq_false_iff_ne.2 h2
      have HR : Hid (¬ Whole ⟨kd, n, tx⟩) := fun h => by
        rcases h with ⟨h, _⟩ | ⟨h, _⟩
        · exact h13 h
        · exact h2 h
      clear h13 h2
      go_enter Try.func70, Try.ntmps70
      go_wp2
      go_ret
      exact ⟨false, ⟨fun h => (by cases h), fun h => absurd h HR.out⟩, rfl, (Below.refl _ _).alloc (Nat.le_refl _) _⟩

set_option maxHeartbeats 4000000 in
set_option maxRecDepth 100000 in
theorem opNormal0_any (A : Option Addr) (c : Nat) (l : List CompV) (hl : l.length ≤ maxLen) (hf : Fine1 l) (w : World) (hc : CompsAt w A l) :
    Calls Try.prog 61 #[.slice A l.length c] w fun e w' => e = .returned (.bool (nrmB l)) ∧ Below w.heap.size w w' := by
  unfold maxLen at hl
  have HC := Lib.hid hc; clear hc
  have HF := Lib.hid hf; clear hf
  obtain ⟨T, HT⟩ : ∃ T, Hid (nrmB l = T) := ⟨_, Lib.hid rfl⟩
  rw [HT.out]
  go_enter Try.func61, Try.ntmps61
  go_wp2
  go_loopw [3, 9] (fun la i wr => ∃ (k : Nat) (a : Int), k ≤ l.length ∧ i = .int .i64 k ∧ la = .int .i64 a ∧ (k = 0 → a = 0) ∧ (0 < k → ∀ p, l[k - 1]? = some p → p.kind = a) ∧ (∀ i c, i < k → l[i]? = some c → NormAt l i c) ∧ Below w.heap.size w wr) (fun _ i _ => l.length - (intOf i).toNat)
  case atStart => exact ⟨0, 0, Nat.zero_le _, rfl, rfl, fun _ => rfl, fun h => by omega, fun i c h => by omega, Below.refl _ _⟩
  case round =>
    obtain ⟨k, la, hk, rfl, rfl, ha0, ha1, hn, hbel⟩ := hrel
    have HA0 := Lib.hid ha0; clear ha0
    have HA1 := Lib.hid ha1; clear ha1
    have HN := Lib.hid hn; clear hn
    have HBEL := Lib.hid hbel; clear hbel
    by_cases hlt : k < l.length
    · obtain ⟨b, off, rfl, _⟩ := HC.out.form (by omega)
      obtain ⟨x0, x1, x2⟩ := (HC.out.below HBEL.out).at_ hlt
      have HGET : Hid (l[k]? = some l[k]) := List.getElem?_eq_getElem hlt
      have HPRE : Hid (0 < k → l[k - 1]? = some l[k - 1]) := fun h => List.getElem?_eq_getElem (by omega)
      have HY := Lib.hid (HF.out l[k] (List.getElem_mem hlt))
      generalize l[k] = y at x0 x1 x2 HGET HY
      have HNO : Hid (¬ NormAt l k y → T = false) := fun h => by rw [← HT.out]; exact nrmB_no fun g => h (g k y HGET.out)
      have HYES : Hid (NormAt l k y → ∀ i c, i < k + 1 → l[i]? = some c → NormAt l i c) := fun h i c hi hc => by
        by_cases e : i = k
        · subst e
          rw [HGET.out] at hc
          injection hc with hc
          subst hc
          exact h
        · exact HN.out i c (by omega) hc
      obtain ⟨kd, n, tx⟩ := y
      simp only at x0 x1 x2
      have hnew : Below wr.heap.size wr (wr.alloc (Obj.cells #[Value.int .i64 kd, Value.int .i64 n, Value.string (bstr tx)] 54)) := (Below.refl _ _).alloc (Nat.le_refl _) _
      have HB1 : Hid (Below w.heap.size w (wr.alloc (Obj.cells #[Value.int .i64 kd, Value.int .i64 n, Value.string (bstr tx)] 54))) := HBEL.out.trans (hnew.mono HBEL.out.size)
      clear hnew
      have GW := Lib.hid (fun w => opWhole_any kd n tx HY.out.1.2.2.1 HY.out.2 w)
      have HSAME : Hid (kd = la → T = false) := fun h => HNO.out fun g => by
        rcases Nat.eq_zero_or_pos k with e | e
        · have := HA0.out e
          rcases g.1 with ⟨g, _⟩ | ⟨g, _⟩ <;> simp only at g <;> omega
        · have h1 := HA1.out e _ (HPRE.out e)
          exact g.2 _ e (HPRE.out e) (by show _ = kd; omega)
      have HLATE : Hid (la = 3 → kd = 2 → T = false) := fun h2 h => HNO.out fun g => by
        rcases Nat.eq_zero_or_pos k with e | e
        · have := HA0.out e; omega
        · have h1 := HA1.out e _ (HPRE.out e)
          rcases g.1 with ⟨g, _⟩ | ⟨_, _, _, _, g⟩
          · simp only at g; omega
          · exact g _ e (HPRE.out e) (by omega)
      have HBAD : Hid (¬ Whole ⟨kd, n, tx⟩ → T = false) := fun h => HNO.out fun g => h (by
        rcases g.1 with g | ⟨h1, h2, h3, h4, _⟩
        · exact .inl g
        · exact .inr ⟨h1, h2, h3, h4⟩)
      have HGOOD : Hid (¬ kd = la → ¬ (la = 3 ∧ kd = 2) → Whole ⟨kd, n, tx⟩ → NormAt l k ⟨kd, n, tx⟩) := fun h1 h2 h => by
        have hp : ∀ p, 0 < k → l[k - 1]? = some p → p.kind = la := fun p h h' => HA1.out h p h'
        refine ⟨?_, fun p h0 h' e => h1 (by have := hp p h0 h'; simp only at e; omega)⟩
        rcases h with g | ⟨g1, g2, g3, g4⟩
        · exact .inl g
        · exact .inr ⟨g1, g2, g3, g4, fun p h0 h' e => h2 ⟨by have := hp p h0 h'; omega, g1⟩⟩
      have HNEXT : Hid (0 < k + 1 → ∀ p, l[k + 1 - 1]? = some p → p.kind = kd) := fun _ p h => by
        rw [Nat.add_sub_cancel, HGET.out] at h
        injection h with h
        subst h
        rfl
      by_cases h3 : la = 3
      · by_cases h2 : kd = 2
        · have HFA := Lib.hid (HLATE.out h3 h2)
          subst h3 h2
          go_wp2
          go_ret
          exact ⟨by rw [HFA.out]; rfl, HB1.out⟩
        · have g2 : (kd == 2) = false := beq_eq_false_iff_ne.2 h2
          by_cases he : kd = la
          · have HFA := Lib.hid (HSAME.out he)
            subst he
            subst h3
            go_wp2
            go_ret
            exact ⟨by rw [HFA.out]; rfl, HB1.out⟩
          · have HG := Lib.hid (HGOOD.out he (fun h => h2 h.2))
            subst h3
            have ge : (kd == 3) = false := beq_eq_false_iff_ne.2 he
            clear he h2
            go_wp2_with fail
            refine (GW.out _).mono ?_
            rintro e w1 ⟨r, hr, rfl, hb1⟩
            have HB2 : Hid (Below w.heap.size w w1) := HB1.out.trans (hb1.mono (by have := HB1.out.size; simpa using this))
            have HR := Lib.hid hr
            have c0 := (hb1.cell (p := ⟨wr.heap.size, 0, none⟩) (by simp)).trans (cell_of_row _ _ _ _ _ _ (heap_alloc_new wr _))
            clear hb1 hr
            cases r with
            | false =>
              have HFA := Lib.hid (HBAD.out fun h => by have := HR.out.2 h; cases this)
              go_wp2
              go_ret
              exact ⟨by rw [HFA.out]; rfl, HB2.out⟩
            | true =>
              have HOK := Lib.hid (HYES.out (HG.out (HR.out.1 rfl)))
              replace c0 : w1.cell? ⟨wr.heap.size, 0, none⟩ = some (.int .i64 kd) := c0
              go_wp2
              go_roundw
              case rel => exact ⟨k + 1, kd, by omega, by go_num, rfl, fun h => by omega, HNEXT.out, HOK.out, HB2.out⟩
              case measure => simp [intOf]; omega
      · have g3 : (la == 3) = false := beq_eq_false_iff_ne.2 h3
        by_cases he : kd = la
        · have HFA := Lib.hid (HSAME.out he)
          subst he
          clear h3
          go_wp2
          go_ret
          exact ⟨by rw [HFA.out]; rfl, HB1.out⟩
        · have HG := Lib.hid (HGOOD.out he (fun h => h3 h.1))
          have ge : (kd == la) = false := beq_eq_false_iff_ne.2 he
          clear he h3
          go_wp2_with fail
          refine (GW.out _).mono ?_
          rintro e w1 ⟨r, hr, rfl, hb1⟩
          have HB2 : Hid (Below w.heap.size w w1) := HB1.out.trans (hb1.mono (by have := HB1.out.size; simpa using this))
          have HR := Lib.hid hr
          have c0 := (hb1.cell (p := ⟨wr.heap.size, 0, none⟩) (by simp)).trans (cell_of_row _ _ _ _ _ _ (heap_alloc_new wr _))
          clear hb1 hr
          cases r with
          | false =>
            have HFA := Lib.hid (HBAD.out fun h => by have := HR.out.2 h; cases this)
            go_wp2
            go_ret
            exact ⟨by rw [HFA.out]; rfl, HB2.out⟩
          | true =>
            have HOK := Lib.hid (HYES.out (HG.out (HR.out.1 rfl)))
            replace c0 : w1.cell? ⟨wr.heap.size, 0, none⟩ = some (.int .i64 kd) := c0
            go_wp2
            go_roundw
            case rel => exact ⟨k + 1, kd, by omega, by go_num, rfl, fun h => by omega, HNEXT.out, HOK.out, HB2.out⟩
            case measure => simp [intOf]; omega
    · have HF : Hid (T = true) := by
        show T = true
        rw [← HT.out]
        exact nrmB_yes fun i c h => HN.out i c (by have := (List.getElem?_eq_some_iff.1 h).1; omega) h
      go_wp2
      go_ret
      exact ⟨by rw [HF.out]; rfl, HBEL.out⟩

theorem opCheck_any (A : Option Addr) (c : Nat) (l : List CompV) (hl : l.length ≤ maxLen) (hf : Fine1 l) (w : World) (hc : CompsAt w A l) :
    Calls Try.prog 53 #[.slice A l.length c] w fun e w' => e = .returned (.int .i64 (rCheck l : Int)) ∧ Below w.heap.size w w' := by
  have HL := Lib.hid hl
  unfold maxLen at hl
  have GN := Lib.hid (opNormal0_any A c l HL.out hf w hc)
  have GB := Lib.hid (fun w h => opBase_any A c l HL.out w h)
  have GO := Lib.hid (fun w h => opOut_any A c l HL.out hf w h)
  have HC := Lib.hid hc; clear hc hf
  obtain ⟨T, HT⟩ : ∃ T, Hid (rCheck l = T) := ⟨_, Lib.hid rfl⟩
  rw [HT.out]
  unfold rCheck at HT
  by_cases h100 : 100 < l.length
  · rw [if_pos h100] at HT
    go_enter Try.func53, Try.ntmps53
    go_wp2
    go_ret
    exact ⟨by rw [← HT.out]; rfl, Below.refl _ _⟩
  · rw [if_neg h100] at HT
    cases hnb : nrmB l with
    | false =>
      rw [hnb, if_pos rfl] at HT
      rw [hnb] at GN
      clear hnb
      go_enter Try.func53, Try.ntmps53
      go_wp2_with fail
      refine GN.out.mono ?_
      rintro e w1 ⟨rfl, hb1⟩
      have HB1 := Lib.hid hb1; clear hb1
      go_wp2
      go_ret
      exact ⟨by rw [← HT.out]; rfl, HB1.out⟩
    | true =>
      rw [hnb, if_neg (by simp)] at HT
      rw [hnb] at GN
      clear hnb
      obtain ⟨p, HP⟩ : ∃ x, Hid (rBase l = x) := ⟨_, Lib.hid rfl⟩
      obtain ⟨q, HQ⟩ : ∃ x, Hid (rOut l = x) := ⟨_, Lib.hid rfl⟩
      rw [HP.out] at GB HT
      rw [HQ.out] at GO HT
      go_enter Try.func53, Try.ntmps53
      go_wp2_with fail
      refine GN.out.mono ?_
      rintro e w1 ⟨rfl, hb1⟩
      have HB1 := Lib.hid hb1; clear hb1
      go_wp2_with fail
      refine (GB.out w1 (HC.out.below HB1.out)).mono ?_
      rintro e w2 ⟨rfl, hb2⟩
      have HB2 : Hid (Below w.heap.size w w2) := HB1.out.trans (hb2.mono HB1.out.size)
      clear hb2
      by_cases hp : 2000 < p
      · rw [if_pos (.inl hp)] at HT
        go_wp2
        go_ret
        exact ⟨by rw [← HT.out]; rfl, HB2.out⟩
      · go_wp2_with fail
        refine (GO.out w2 (HC.out.below HB2.out)).mono ?_
        rintro e w3 ⟨rfl, hb3⟩
        have HB3 : Hid (Below w.heap.size w w3) := HB2.out.trans (hb3.mono HB2.out.size)
        clear hb3
        by_cases hq : 2000 < q
        · rw [if_pos (.inr hq)] at HT
          go_wp2
          go_ret
          exact ⟨by rw [← HT.out]; rfl, HB3.out⟩
        · rw [if_neg (by omega)] at HT
          go_wp2
          go_ret
          exact ⟨by rw [← HT.out]; rfl, HB3.out⟩
end Go.Proofs.Ytnadhpajelkngaa

/- The landed Same, Idle, Keep of parts. Condition: no slice is longer than memory. -/
namespace Go.Proofs.Ytnadhpajelkngaa
open Go.RowKit Go.Deep

set_option maxRecDepth 100000 in
theorem comp_eqlIn (a b x y : Int) (t u : ByteArray) (w : World) :
    (Op.equalIn 10000 54 (.agg #[.int .i64 a, .int .i64 b, .string t]) (.agg #[.int .i64 x, .int .i64 y, .string u])).run Try.prog w = .ok (a == x && (b == y && t.toList == u.toList)) w := by
  have hS : Try.prog.underlying 54 = some (.struct (Try.prog.fieldsOf 54)) := by kernel_rfl
  have hp : Try.prog.stoodInHeld 54 = false := by kernel_rfl
  have u3 := Try.underlying3
  have a3 := Try.isAgg3
  have z3 := Try.sizeOf3
  have u9 := Try.underlying9
  have a9 := Try.isAgg9
  have z9 := Try.sizeOf9
  rw [show (10000 : Nat) = 9999 + 1 from rfl, run_equalIn_agg w 9999 54 _ _ hS hp]
  simp only [Program.fieldsOf, Try.underlying54]
  cases h1 : a == x <;> cases h2 : b == y <;> cases h3 : t.toList == u.toList <;> go_simp <;> simp [h1, h2, h3]
set_option maxRecDepth 100000 in
theorem comp_neq (a b x y : Int) (t u : ByteArray) (w : World) :
    (binOp .neq 54 (.agg #[.int .i64 a, .int .i64 b, .string t]) (.agg #[.int .i64 x, .int .i64 y, .string u])).run Try.prog w = .ok (.bool (!(a == x && (b == y && t.toList == u.toList)))) w := by
  rw [run_neq_struct, comp_eqlIn]
  rfl
theorem comp_guard : Try.prog.eqGuardType Try.prog.depth 54 = false := by kernel_rfl

set_option maxHeartbeats 2000000 in
set_option maxRecDepth 100000 in
theorem slEqual_any (A B : Option Addr) (ca cb : Nat) (l m : List CompV) (hl : l.length ≤ maxLen) (hm : m.length ≤ maxLen) (hgl : ∀ y ∈ l, y.Good) (hgm : ∀ y ∈ m, y.Good) (w : World) (hA : CompsAt w A l) (hB : CompsAt w B m) :
    Calls Try.prog 60 #[.slice A l.length ca, .slice B m.length cb] w fun e w' => e = .returned (.bool (sameB l m)) ∧ Below w.heap.size w w' := by
  unfold maxLen at hl hm
  have HA := Lib.hid hA; clear hA
  have HB := Lib.hid hB; clear hB
  have HGL := Lib.hid hgl; clear hgl
  have HGM := Lib.hid hgm; clear hgm
  obtain ⟨T, HT⟩ : ∃ T, Hid (sameB l m = T) := ⟨_, Lib.hid rfl⟩
  rw [HT.out]
  by_cases hlen : l.length = m.length
  · rw [← hlen]
    have HLEN := Lib.hid hlen
    clear hlen
    go_enter Try.func60, Try.ntmps60
    go_wp2
    go_loopw [13] (fun i wr => ∃ k : Nat, k ≤ l.length ∧ i = .int .i64 k ∧ l.take k = m.take k ∧ Below w.heap.size w wr) (fun i _ => l.length - (intOf i).toNat)
    case atStart => exact ⟨0, Nat.zero_le _, rfl, rfl, Below.refl _ _⟩
    case round =>
      obtain ⟨k, hk, rfl, htk, hbel⟩ := hrel
      have HBEL := Lib.hid hbel; clear hbel
      have HTK := Lib.hid htk; clear htk
      by_cases hlt : k < l.length
      · have hlt2 : k < m.length := by have := HLEN.out; omega
        obtain ⟨b1, o1, rfl, _⟩ := HA.out.form (by omega)
        obtain ⟨b2, o2, rfl, _⟩ := HB.out.form (by omega)
        obtain ⟨x0, x1, x2⟩ := (HA.out.below HBEL.out).at_ hlt
        obtain ⟨y0, y1, y2⟩ := (HB.out.below HBEL.out).at_ hlt2
        have HYES : Hid (l[k] = m[k] → l.take (k + 1) = m.take (k + 1)) := fun h => by rw [List.take_succ_eq_append_getElem hlt, List.take_succ_eq_append_getElem hlt2, HTK.out, h]
        have HNO : Hid (l[k] ≠ m[k] → T = false) := fun h => by rw [← HT.out]; exact sameB_no fun e => h (by subst e; rfl)
        have HG1 := Lib.hid (HGL.out l[k] (List.getElem_mem hlt))
        have HG2 := Lib.hid (HGM.out m[k] (List.getElem_mem hlt2))
        generalize l[k] = c at x0 x1 x2 HYES HNO HG1
        generalize m[k] = d at y0 y1 y2 HYES HNO HG2
        clear hlt2
        obtain ⟨kd, n, tx⟩ := c
        obtain ⟨kd2, n2, tx2⟩ := d
        simp only at x0 x1 x2 y0 y1 y2
        have hgt := comp_guard
        have hcm := fun w => comp_neq kd n kd2 n2 (bstr tx) (bstr tx2) w
        have hce := fun w => comp_eqlIn kd n kd2 n2 (bstr tx) (bstr tx2) w
        by_cases he : kd = kd2 ∧ n = n2 ∧ tx = tx2
        · have HY2 := Lib.hid (HYES.out (by obtain ⟨rfl, rfl, rfl⟩ := he; rfl))
          have hv : (kd == kd2 && (n == n2 && (bstr tx).toList == (bstr tx2).toList)) = true := by obtain ⟨rfl, rfl, rfl⟩ := he; simp
          rw [hv] at hce
          replace hcm := fun w => (hcm w).trans (by rw [hv]; rfl : _ = Result.ok (.bool false) w)
          clear hv he
          go_wp2_with fail
          go_region
          go_wp2
          go_roundw
          case rel => exact ⟨k + 1, by omega, by go_num, HY2.out, HBEL.out.drew⟩
          case measure => simp [intOf]; omega
        · have HF : Hid (T = false) := HNO.out fun h => he (by injection h with h1 h2 h3; exact ⟨h1, h2, h3⟩)
          have hv : (kd == kd2 && (n == n2 && (bstr tx).toList == (bstr tx2).toList)) = false := by
            by_cases e0 : kd = kd2
            · by_cases e1 : n = n2
              · have e2 : ¬ tx = tx2 := fun e => he ⟨e0, e1, e⟩
                rw [bstr_neq fun h => e2 (bstr_inj _ _ HG1.out.2.2.1 HG2.out.2.2.1 h)]
                simp
              · rw [beq_eq_false_iff_ne.2 e1]; simp
            · rw [beq_eq_false_iff_ne.2 e0]; simp
          rw [hv] at hce
          replace hcm := fun w => (hcm w).trans (by rw [hv]; rfl : _ = Result.ok (.bool true) w)
          clear hv he
          go_wp2_with fail
          go_region
          go_wp2
          go_ret
          exact ⟨by rw [HF.out]; rfl, HBEL.out.drew⟩
      · have HF : Hid (T = true) := by
          show T = true
          rw [← HT.out]
          apply sameB_yes
          have := HTK.out
          rwa [List.take_of_length_le (by omega), List.take_of_length_le (by have := HLEN.out; omega)] at this
        go_wp2
        go_ret
        exact ⟨by rw [HF.out]; rfl, HBEL.out⟩
  · have HF : Hid (T = false) := by show T = false; rw [← HT.out]; exact sameB_no fun h => hlen (by rw [h])
    have g0 : ((l.length : Int) == (m.length : Int)) = false := beq_eq_false_iff_ne.2 (by omega)
    have g0' : ((l.length : Int) != (m.length : Int)) = true := bne_iff_ne.2 (by omega)
    clear hlen
    go_enter Try.func60, Try.ntmps60
    go_wp2
    go_ret
    exact ⟨by rw [HF.out]; rfl, Below.refl _ _⟩
theorem opSame_any (A B : Option Addr) (ca cb : Nat) (l m : List CompV) (hl : l.length ≤ maxLen) (hm : m.length ≤ maxLen) (hgl : ∀ y ∈ l, y.Good) (hgm : ∀ y ∈ m, y.Good) (w : World) (hA : CompsAt w A l) (hB : CompsAt w B m) :
    Calls Try.prog 51 #[.slice A l.length ca, .slice B m.length cb] w fun e w' => e = .returned (.bool (sameB l m)) ∧ Below w.heap.size w w' := by
  have GE := Lib.hid (slEqual_any A B ca cb l m hl hm hgl hgm w hA hB)
  obtain ⟨T, HT⟩ : ∃ T, Hid (sameB l m = T) := ⟨_, Lib.hid rfl⟩
  rw [HT.out] at GE ⊢
  clear hA hB hgl hgm
  go_enter Try.func51, Try.ntmps51
  go_wp2_with fail
  refine GE.out.mono ?_
  rintro e w1 ⟨rfl, hb1⟩
  have HB1 := Lib.hid hb1; clear hb1
  go_wp2
  go_ret
  exact ⟨rfl, HB1.out⟩

theorem opKeep_any (n : Int) (w : World) :
    Calls Try.prog 67 #[.int .i64 n] w fun e w' => ∃ A c, e = .returned (.slice A (keepL n).length c) ∧ CompsAt w' A (keepL n) ∧ Below w.heap.size w w' := by
  by_cases h : n < 1
  · have HK : Hid (keepL n = []) := if_pos h
    rw [HK.out]
    go_enter Try.func67, Try.ntmps67
    go_wp2
    go_ret
    exact ⟨none, 0, rfl, .inl rfl, Below.refl _ _⟩
  · have HK : Hid (keepL n = [⟨1, n, []⟩]) := if_neg h
    rw [HK.out]
    have GR := Lib.hid (fun w => opRetain_any n w)
    go_enter Try.func67, Try.ntmps67
    go_wp2_with fail
    refine (GR.out _).mono ?_
    rintro e w1 ⟨rfl, hb1⟩
    have HB1 := Lib.hid hb1; clear hb1
    go_wp2
    go_ret
    refine ⟨some ⟨w1.heap.size, 0, none⟩, 1, rfl, CellsAt.lit (fun j v hj => ?_) rfl, HB1.out.alloc HB1.out.size _⟩
    match j, hj with
    | 0, hj => cases hj; rfl
    | 1, hj => cases hj; rfl
    | 2, hj => cases hj; rfl
end Go.Proofs.Ytnadhpajelkngaa
