/-
  Go's library on slices of texts: slices.Repeat of a slice of one text: the text n times, in new memory. The conditions stand in the statement (among them the contract of math/bits.Mul).
-/
import Derived.Test.YtkijenblfpmdaaaDoorStrOwn
import Derived.Laws.CopyOwn
import Derived.Laws.OwnMore
import Derived.OwnWalk
import Derived.Deep.RegionLaw
import Derived.LoopN
namespace Go.Proofs.YtkijenblfpmdaaaDoor.Strs
open Go Go.RowKit
open Go.Proofs.YtkijenblfpmdaaaDoor.Kit (mk_bytes on)

/-- the first m of n places filled -/
def filled (s : ByteArray) (n m : Nat) : List Value := List.replicate m (.string s) ++ List.replicate (n - m) (.string ⟨#[]⟩)
theorem filled_zero (s : ByteArray) (n : Nat) : filled s n 0 = List.replicate n (.string ⟨#[]⟩) := by simp [filled]
theorem filled_all (s : ByteArray) (n : Nat) : filled s n n = List.replicate n (.string s) := by simp [filled]
theorem filled_len (s : ByteArray) {n m : Nat} (h : m ≤ n) : (filled s n m).length = n := by simp [filled]; omega
theorem filled_at (s : ByteArray) {n m j : Nat} (h : j < m) : (filled s n m)[j]? = some (.string s) := by
  unfold filled
  rw [List.getElem?_append_left (by simpa using h), List.getElem?_replicate, if_pos h]
theorem filled_splice (s : ByteArray) {n m k : Nat} (h : m + k ≤ n) : splice (filled s n m) m (List.replicate k (.string s)) = filled s n (m + k) := by
  unfold splice filled
  rw [List.take_append_of_le_length (by simp), List.take_of_length_le (by simp), List.drop_append, List.length_replicate, List.length_replicate, List.drop_eq_nil_of_le (by simp), List.nil_append, List.drop_replicate, ← List.append_assoc, List.replicate_append_replicate]
  congr 2; omega
theorem row_full {w : World} {base g n : Nat} {e : TypeId} {xs : List Value} (h : w.ownsRow base e 1 (.slice (some ⟨g, 0, none⟩) n n) n xs) : w.heap[g]? = some (.cells xs.toArray e (0, 0)) := by
  rcases h.2 with ⟨h0, _⟩ | ⟨g', cap, cur, e1, hb, hh, hn, hm, hs, ht⟩
  · cases h0
  · cases e1
    rw [hh, ← ht, List.take_of_length_le (by simp; omega)]
theorem row_of {w : World} {base g n : Nat} {e : TypeId} {xs : List Value} (h : w.heap[g]? = some (.cells xs.toArray e (0, 0))) (hn : xs.length = n) (hb : base ≤ g) (hm : n ≤ maxLen) : w.ownsRow base e 1 (.slice (some ⟨g, 0, none⟩) n n) n xs :=
  ⟨by rw [hn, Nat.mul_one], Or.inr ⟨g, n, xs.toArray, rfl, hb, h, Nat.le_refl _, hm, by rw [Nat.mul_one]; exact hn, by rw [Nat.mul_one]; exact List.take_of_length_le (Nat.le_of_eq hn)⟩⟩
theorem made_row {w w2 : World} {n : Nat} {s : ByteArray} (hown : w2.ownsRow w.heap.size 9 1 (.slice (some ⟨w.heap.size, 0, none⟩) n n) n (madeCells (Value.string ⟨#[]⟩).cells (n * 1)).toList) (hgrow : w.grownBy w2 none) :
    Hid (w2.heap[w.heap.size]? = some (.cells (filled s n 0).toArray 9 (0, 0))) ∧ Hid (Below w.heap.size w w2) := by
  rw [show (madeCells (Value.string ⟨#[]⟩).cells (n * 1)).toList = filled s n 0 by rw [filled_zero, Nat.mul_one]; exact toList_madeCells_one _ n] at hown
  exact ⟨row_full hown, (Below.refl _ w).grown hgrow (Nat.le_refl _) (fun _ h => by cases h)⟩
theorem one_src {w w2 : World} {ad : Addr} {s : ByteArray} (hb : Below w.heap.size w w2) (hc : w.cell? ad = some (.string s)) (hlt : ad.block < w.heap.size) {k : Nat} (hk : k ≤ 1) : ∀ j v, (List.replicate k (Value.string s))[j]? = some v → w2.cell? (ad.add j) = some v := by
  intro j v hj
  rw [List.getElem?_replicate] at hj
  split at hj
  · obtain rfl : j = 0 := by omega
    cases hj
    rw [show ad.add 0 = ad by unfold Addr.add; simp, hb.cell hlt]
    exact hc
  · cases hj
theorem fill_src {w : World} {g n m k : Nat} {s : ByteArray} {e : TypeId} (h : w.heap[g]? = some (.cells (filled s n m).toArray e (0, 0))) (hk : k ≤ m) : ∀ j v, (List.replicate k (Value.string s))[j]? = some v → w.cell? ((⟨g, 0, none⟩ : Addr).add j) = some v := by
  intro j v hj
  rw [List.getElem?_replicate] at hj
  split at hj
  · cases hj
    rw [Addr.add_lit, Nat.zero_add]
    have := filled_at s (n := n) (m := m) (j := j) (by omega)
    simp [World.cell?, h, this]
  · cases hj
set_option maxHeartbeats 1000000 in
theorem repeat_one (HM : ∀ (n : Nat) (w : World), n < 18446744073709551616 → Calls Tryd.prog 29 #[.int .u64 1, .int .u64 n] w fun e w' => e = .returned (.tuple #[.int .u64 0, .int .u64 n]) ∧ w' = w)
    (ad : Addr) (s : ByteArray) (c n : Nat) (w : World) (hc : w.cell? ad = some (.string s)) (hlt : ad.block < w.heap.size) (hn : n ≤ 8796093022208) :
    Calls Tryd.prog 20 #[.slice (some ad) 1 c, .int .i64 n] w fun e w' => ∃ v, e = .returned v ∧ w'.ownsRow w.heap.size 9 1 v n (List.replicate n (.string s)) ∧ Below w.heap.size w w' := by
  obtain ⟨i0, hi, hz0, hz1, hz2⟩ := info_parts text_info
  have HM := Lib.hid (HM n w (by omega))
  have hp : ¬ ((n : Int) < 0) := by omega
  have hcv : IntKind.u64.wrap (n : Int) = n := by rw [IntKind.wrap_u64]; omega
  have hcv2 : IntKind.i64.wrap (n : Int) = n := by rw [IntKind.wrap_i64]; omega
  have hgt : decide ((9223372036854775807 : Int) < (n : Int)) = false := by simp; omega
  have HMR := Lib.hid (fun (w2 : World) => @made_row w w2 n s)
  have HSR := Lib.hid (fun (w2 : World) (hb : Below w.heap.size w w2) (k : Nat) => @one_src w w2 ad s hb hc hlt k)
  have HW := Lib.hid hi
  obtain ⟨k, hk, hk1, hk2, hk3⟩ : ∃ k, k = Nat.min 1 n ∧ k ≤ 1 ∧ k ≤ n ∧ (0 < n → 0 < k) := ⟨_, rfl, Nat.min_le_left 1 n, Nat.min_le_right 1 n, fun h => by show 0 < min 1 n; omega⟩
  have HL : Hid ((List.replicate k (Value.string s)).length = Nat.min 1 n) := by show _ = _; rw [List.length_replicate]; exact hk
  have HF : Hid (0 + (List.replicate k (Value.string s)).length ≤ (filled s n 0).length) := by show _ ≤ _; rw [List.length_replicate, filled_len s (Nat.zero_le n)]; omega
  have HO : Hid (∀ k, ∀ v ∈ List.replicate k (Value.string s), v.oneCell' = true) := fun k v hv => by rw [List.eq_of_mem_replicate hv]; rfl
  have HZ : Hid ((Tryd.prog.info? 9).map (·.size) = some 1) := by show _ = _; rw [hi, ← hz1]; rfl
  have HE : Hid (∀ m k, m + k ≤ n → splice (filled s n m) m (List.replicate k (.string s)) = filled s n (m + k)) := fun m k h => filled_splice s h
  clear hk hi
  go_enter Tryd.func20, Tryd.ntmps20
  go_wp2_with fail
  refine (HM.out).mono ?_
  rintro e w1 ⟨rfl, rfl⟩
  generalize hg : w1.heap.size = g at *
  go_wp2_with (first
    | (at_make; refine wpList_make_full _ rfl _ _ 25 rfl w1.heap.size 9 i0 (.string ⟨#[]⟩) 1 Tryd.underlying25 HW.out hz0 hz1 .i64 .i64 _ _ n rfl rfl rfl rfl (by rw [hz2]; omega) (by unfold maxLen; omega) (Nat.le_refl _) ?_; intro w2 hown hgrow; rw [hg] at hown; obtain ⟨HH, HB⟩ := HMR.out w2 hown hgrow; have HS := Lib.hid (HSR.out w2 HB.out k hk1); clear hown hgrow; rw [hg])
    | (refine wpList_copy_splice (o := ⟨some 33, _, _, _, _, _⟩) rfl (.tmp 31) (.tmp 32) 25 25 rfl 9 Tryd.underlying25 HZ.out _ _ _ _ _ _ rfl rfl g 0 (filled s n 0) 9 HH.out (List.replicate k (.string s)) HL.out (fun _ => ⟨rfl, ad, rfl, HS.out⟩) HF.out (HO.out k) g w1 HB.out (Nat.le_refl _) ?_; intro w3 HH3 hB3; rw [HE.out 0 k (by omega), Nat.zero_add] at HH3; rw [List.length_replicate]))
  clear HB HS
  have HB3 := Lib.hid hB3
  clear hB3
  go_loopw [8] (fun i wr => ∃ m : Nat, m ≤ n ∧ (0 < n → 0 < m) ∧ i = .int .i64 m ∧ Hid (wr.heap[g]? = some (.cells (filled s n m).toArray 9 (0, 0))) ∧ Hid (Below g w1 wr)) (fun i _ => n - (intOf i).toNat)
  case atStart => exact ⟨k, hk2, hk3, rfl, HH3, HB3⟩
  case round =>
    obtain ⟨m, hmn, hm0, rfl, HX, HY⟩ := hrel
    by_cases hlm : m < n
    · have hm1 := hm0 (by omega)
      obtain ⟨j, hj, hj1, hj2, hj3⟩ : ∃ j, j = Nat.min m (n - m) ∧ j ≤ m ∧ m + j ≤ n ∧ 0 < j := ⟨_, rfl, Nat.min_le_left _ _, by have := Nat.min_le_right m (n - m); show m + min m (n - m) ≤ n; omega, by show 0 < min m (n - m); omega⟩
      have HLj : Hid ((List.replicate j (Value.string s)).length = Nat.min m (n - m)) := by show _ = _; rw [List.length_replicate]; exact hj
      have HFj : Hid (m + (List.replicate j (Value.string s)).length ≤ (filled s n m).length) := by show _ ≤ _; rw [List.length_replicate, filled_len s hmn]; exact hj2
      have HSj := Lib.hid (fun (w' : World) (h : w'.heap[g]? = _) => fill_src (w := w') (g := g) (n := n) (s := s) (e := 9) h hj1)
      have hwj : IntKind.i64.wrap ((m : Int) + (j : Int)) = m + j := by rw [IntKind.wrap_i64]; omega
      clear hj
      have hne : ¬ (n = m) := by omega
      have HD : Hid ((if n = m then some (⟨g, 0, none⟩ : Addr) else some ⟨g, m, none⟩) = some ⟨g, m, none⟩) := if_neg hne
      clear hne
      go_wp2_with fail
      go_region_law (refine step_copy_splice rfl (.tmp 41) (.tmp 44) 25 25 rfl 9 Tryd.underlying25 HZ.out (if n = m then some ⟨g, 0, none⟩ else some ⟨g, m, none⟩) (some ⟨g, 0, none⟩) (n - m) (n - m) m n (by simp [Act.eval, Act.put]) (by simp [Act.eval, Act.put]) g m (filled s n m) 9 HX.out (List.replicate j (.string s)) HLj.out (fun _ => ⟨HD.out, ⟨g, 0, none⟩, rfl, HSj.out _ HX.out⟩) HFj.out (HO.out j) g w1 HY.out.drew (Nat.le_refl _) ?_; intro w4 HX4 hB4; rw [HE.out m j hj2] at HX4; rw [List.length_replicate]; have HB4 := Lib.hid hB4; clear hB4)
      go_wp2_with fail
      go_roundw
      case rel => exact ⟨m + j, hj2, fun _ => by omega, by omega, HX4⟩
      case measure => simp [intOf]; omega
    · obtain rfl : m = n := by omega
      go_wp2_with fail
      go_ret
      rw [hg]
      refine ⟨_, rfl, ?_, HY.out⟩
      rw [← filled_all]
      exact row_of HX.out (filled_len s (Nat.le_refl _)) (Nat.le_refl _) (by unfold maxLen; omega)
end Go.Proofs.YtkijenblfpmdaaaDoor.Strs
