/- The library's count of a string's runes is the document's loose count of its bytes, texts or not. Condition: no more than 2^40 bytes. -/
import Derived.Test.YtmedaimndaaiiaaMOm
import Derived.Test.YtmedaimndaaiiaaMBase
import Derived.Laws.RangeString
import Derived.Laws.RangeAny
import Derived.Lib.DecodeN
/- The library's count of a string's runes is the document's loose count of its bytes, texts or not. Condition: no more than 2^40 bytes. -/
namespace Go.Proofs.Ytmedaimndaaiiaa
open Go.RowKit Go.Deep

/-- How many bytes a code point that was read has. -/
def wid : Option (Nat × List Nat) → Nat
  | some (v, _) => (enc v).length
  | none => 1
theorem wid_ite (p : Prop) [Decidable p] (a b : Option (Nat × List Nat)) : wid (if p then a else b) = if p then wid a else wid b := by split <;> rfl
theorem wid_none : wid none = 1 := rfl
theorem wid_some (v : Nat) (r : List Nat) : wid (some (v, r)) = if v < 128 then 1 else if v < 2048 then 2 else if v < 65536 then 3 else 4 := enc_length v
theorem lse_wid (l : List Nat) : lseStep l = wid (st l) := by
  unfold lseStep
  cases st l with
  | none => rfl
  | some p => rfl
theorem snd_ite (p : Prop) [Decidable p] (a b : Nat × Nat) : (if p then a else b).2 = if p then a.2 else b.2 := by split <;> rfl

set_option maxHeartbeats 4000000 in
theorem lse_decode1 (c : Nat) (d e f : Nat) : lseStep [c] = (Lib.decodeN 1 c d e f).2 := by
  rw [lse_wid, st_cons]
  simp only [fur_zero, fur_nil, wid_ite, wid_none, wid_some, Lib.decodeN, snd_ite]
  unfold May
  repeat' split
  all_goals omega
set_option maxHeartbeats 4000000 in
theorem lse_decode2 (c d : Nat) (h : c < 256) (hd : d < 256) (e f : Nat) : lseStep [c, d] = (Lib.decodeN 2 c d e f).2 := by
  rw [lse_wid, st_cons]
  simp only [fur_cons, fur_zero, fur_nil, wid_ite, wid_none, wid_some, Lib.decodeN, snd_ite]
  unfold May
  repeat' split
  all_goals omega
set_option maxHeartbeats 4000000 in
theorem lse_decode3 (c d e : Nat) (h : c < 256) (f : Nat) : lseStep [c, d, e] = (Lib.decodeN 3 c d e f).2 := by
  rw [lse_wid, st_cons]
  simp only [fur_cons, fur_zero, fur_nil, wid_ite, wid_none, wid_some, Lib.decodeN, snd_ite]
  unfold May
  repeat' split
  all_goals omega
set_option maxHeartbeats 8000000 in
theorem lse_decode4 (c d e f : Nat) (t : List Nat) (h : c < 256) (n : Nat) (hn : 4 ≤ n) : lseStep (c :: d :: e :: f :: t) = (Lib.decodeN n c d e f).2 := by
  have n1 : (1 < n) = True := eq_true (by omega)
  have n2 : (2 < n) = True := eq_true (by omega)
  have n3 : (3 < n) = True := eq_true (by omega)
  rw [lse_wid, st_cons]
  simp only [fur_cons, fur_zero, wid_ite, wid_none, wid_some, Lib.decodeN, snd_ite, n1, n2, n3, true_and]
  clear n1 n2 n3
  unfold May
  by_cases h1 : c < 128
  · simp only [h1, if_true]
    repeat' split
    all_goals omega
  by_cases h2 : c < 192
  · simp only [h1, h2, if_true, if_false, show ¬ c / 32 = 6 by omega, show ¬ c / 16 = 14 by omega, show ¬ c / 8 = 30 by omega, false_and]
  by_cases h3 : c < 224
  · simp only [h1, h2, h3, if_true, if_false, show c / 32 = 6 by omega, true_and]
    by_cases d1 : d / 64 = 2
    · simp only [d1, if_true]
      repeat' split
      all_goals omega
    · simp only [d1, if_false, show ¬ c / 16 = 14 by omega, show ¬ c / 8 = 30 by omega, false_and]
  by_cases h4 : c < 240
  · simp only [h1, h2, h3, h4, if_true, if_false, show ¬ c / 32 = 6 by omega, show c / 16 = 14 by omega, true_and, false_and]
    by_cases d1 : d / 64 = 2 <;> by_cases d2 : e / 64 = 2 <;> simp only [d1, d2, if_true, if_false, show ¬ c / 8 = 30 by omega, false_and, and_false, and_true]
    repeat' split
    all_goals omega
  by_cases h5 : c < 248
  · simp only [h1, h2, h3, h4, h5, if_true, if_false, show ¬ c / 32 = 6 by omega, show ¬ c / 16 = 14 by omega, show c / 8 = 30 by omega, true_and, false_and]
    by_cases d1 : d / 64 = 2 <;> by_cases d2 : e / 64 = 2 <;> by_cases d3 : f / 64 = 2 <;> simp only [d1, d2, d3, if_true, if_false, and_false, and_true]
    repeat' split
    all_goals omega
  · simp only [h1, h2, h3, h4, h5, if_false, show ¬ c / 32 = 6 by omega, show ¬ c / 16 = 14 by omega, show ¬ c / 8 = 30 by omega, false_and]

theorem bstr_get (l : List Nat) (hb : ∀ x ∈ l, x < 256) (i c : Nat) (h : l[i]? = some c) : ((bstr l).get! i).toNat = c := by
  have hi : i < l.length := (List.getElem?_eq_some_iff.1 h).1
  have hc : l[i] = c := (List.getElem?_eq_some_iff.1 h).2
  have hlt := hb _ (List.getElem_mem hi)
  have e2 : (bstr l).data.toList[i]? = some (UInt8.ofNat l[i]) := by
    rw [bstr_data, List.getElem?_map, List.getElem?_eq_getElem hi]
    rfl
  have e3 : (bstr l).data[i]? = some (UInt8.ofNat l[i]) := by rw [← Array.getElem?_toList]; exact e2
  show ((bstr l).data[i]!).toNat = c
  rw [Array.getElem!_eq_getD, Array.getD_eq_getD_getElem?, e3, ← hc]
  simp
  omega
/-- The model's own step over a string's bytes is the loose one. -/
theorem decode_lse (l : List Nat) (hb : ∀ x ∈ l, x < 256) (p : Nat) (hp : p < l.length) : (Utf8.decode (bstr l) p).2 = lseStep (l.drop p) := by
  rw [Lib.decode_at, bstr_size]
  have hlen : (l.drop p).length = l.length - p := List.length_drop
  have hg : ∀ k c, (l.drop p)[k]? = some c → ((bstr l).get! (p + k)).toNat = c ∧ c < 256 := fun k c h => by
    rw [List.getElem?_drop] at h
    exact ⟨bstr_get l hb _ _ h, hb _ (List.mem_of_getElem? h)⟩
  generalize l.drop p = r at hlen hg
  rw [← hlen]
  match r, hg, hlen with
  | [], _, hlen => simp at hlen; omega
  | [c], hg, _ =>
    have h0 := hg 0 c rfl
    rw [Nat.add_zero] at h0
    rw [h0.1]
    exact (lse_decode1 c _ _ _).symm
  | [c, d], hg, _ =>
    have h0 := hg 0 c rfl
    have h1 := hg 1 d rfl
    rw [Nat.add_zero] at h0
    rw [h0.1, h1.1]
    exact (lse_decode2 c d h0.2 h1.2 _ _).symm
  | [c, d, e], hg, _ =>
    have h0 := hg 0 c rfl
    have h1 := hg 1 d rfl
    have h2 := hg 2 e rfl
    rw [Nat.add_zero] at h0
    rw [h0.1, h1.1, h2.1]
    exact (lse_decode3 c d e h0.2 _).symm
  | c :: d :: e :: f :: t, hg, _ =>
    have h0 := hg 0 c rfl
    have h1 := hg 1 d rfl
    have h2 := hg 2 e rfl
    have h3 := hg 3 f rfl
    rw [Nat.add_zero] at h0
    rw [h0.1, h1.1, h2.1, h3.1]
    exact (lse_decode4 c d e f t h0.2 _ (by simp)).symm

set_option maxHeartbeats 1000000 in
set_option maxRecDepth 100000 in
theorem runes_any (l : List Nat) (hb : ∀ x ∈ l, x < 256) (hl : l.length ≤ 1099511627776) (w : World) :
    Calls Try.prog 38 #[.string (bstr l)] w fun e w' => e = .returned (.int .i64 (loose l : Int)) ∧ Below w.heap.size w w' := by
  have hsz := bstr_size l
  have HB := Lib.hid hb; clear hb
  obtain ⟨T, HT⟩ : ∃ T, Hid (loose l = T) := ⟨_, Lib.hid rfl⟩
  have HTL : Hid (T ≤ l.length) := by show _ ≤ _; rw [← HT.out]; exact loose_le l
  rw [HT.out]
  go_enter Try.func38, Try.ntmps38
  go_wp2
  go_loopw [2] (fun n wr => ∃ p q : Nat, wr = w.iter (bstr l) p ∧ p ≤ l.length ∧ n = .int .i64 q ∧ q + loose (l.drop p) = T) (fun _ wr => l.length - wr.iterPos w.heap.size)
  case atStart => exact ⟨0, 0, rfl, Nat.zero_le _, rfl, by rw [Nat.zero_add]; exact HT.out⟩
  case round =>
    obtain ⟨p, q, rfl, hp, rfl, hq⟩ := hrel
    have HQ := Lib.hid hq; clear hq
    by_cases hlt : p < l.length
    · have hnx : ∀ ty, (Instr.next (.pointer (some ⟨w.heap.size, 0, none⟩)) true ty).run Try.prog (w.iter (bstr l) p) = _ := fun ty => run_next_any w (bstr l) p ty (by rw [hsz]; exact hlt)
      have HW := Lib.hid (decode_lse l HB.out p hlt)
      have hne : l.drop p ≠ [] := fun e => by have := congrArg List.length e; rw [List.length_drop] at this; simp at this; omega
      have hs1 := lseStep_pos (l.drop p)
      have hs2 := lseStep_le hne
      rw [List.length_drop] at hs2
      have HN := Lib.hid (loose_next hne)
      rw [List.drop_drop] at HN
      clear hne
      obtain ⟨s, HS⟩ : ∃ s, Hid (lseStep (l.drop p) = s) := ⟨_, Lib.hid rfl⟩
      rw [HS.out] at hs1 hs2 HN HW
      have HQ2 : Hid (q + 1 + loose (l.drop (p + s)) = T) := by show _ = _; have := HQ.out; rw [HN.out] at this; omega
      have hqt : q < 1099511627776 := by have := HQ2.out; have := HTL.out; omega
      have hpl : p + s ≤ l.length := by omega
      rw [HW.out] at hnx
      generalize (Utf8.decode (bstr l) p).1 = v at hnx
      go_wp2
      go_roundw
      case rel => exact ⟨p + s, q + 1, rfl, hpl, by go_num, HQ2.out⟩
      case measure => simp; omega
    · have hnx : ∀ ty, (Instr.next (.pointer (some ⟨w.heap.size, 0, none⟩)) true ty).run Try.prog (w.iter (bstr l) p) = _ := fun ty => run_next_end w (bstr l) p ty (by rw [hsz]; exact hlt)
      have HE : Hid (q = T) := by
        show q = T
        have := HQ.out
        rw [List.drop_eq_nil_of_le (by omega), loose_nil] at this
        omega
      go_wp2
      go_ret
      exact ⟨by rw [← HE.out]; rfl, (Below.refl _ _).alloc (Nat.le_refl _) _⟩
end Go.Proofs.Ytmedaimndaaiiaa
