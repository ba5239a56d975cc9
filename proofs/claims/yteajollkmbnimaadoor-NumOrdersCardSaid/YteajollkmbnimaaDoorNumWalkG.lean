/-
  Layer 1 (num), walks: Natural: the order of any two texts, part by part; the world as it was, but for draws.
-/
import Derived.Test.YteajollkmbnimaaDoorNumWalkF
namespace Go.Proofs.YteajollkmbnimaaDoor.NumW
open Go Go.RowKit Go.Proofs.YteajollkmbnimaaDoor.NumM

theorem drop_bytes (s : ByteArray) (k : Nat) : (s.extract k s.size).data.toList = s.data.toList.drop k := by
  rw [Lib.extract_data, List.take_of_length_le (by rw [List.length_drop, ← Lib.size_eq]; exact Nat.le_refl _)]
theorem bytes_ne {s : ByteArray} (h : 0 < s.size) : s.data.toList ≠ [] := by rw [bytes_cons h]; simp
/-- the first part of a text that isn't empty -/
theorem part_exists {s : ByteArray} (h : 0 < s.size) : ∃ x : ByteArray, x.data.toList = headPart s.data.toList ∧ 0 < x.size ∧ x.size ≤ s.size := by
  refine ⟨⟨(headPart s.data.toList).toArray⟩, rfl, ?_⟩
  have := part_pos (bytes_ne h)
  rw [← Lib.size_eq] at this
  have e : (⟨(headPart s.data.toList).toArray⟩ : ByteArray).size = (headPart s.data.toList).length := rfl
  omega
theorem nat_on {s t x y : ByteArray} (hs : 0 < s.size) (ht : 0 < t.size) (hx : x.data.toList = headPart s.data.toList) (hy : y.data.toList = headPart t.data.toList) (h : cmpParts x.data.toList y.data.toList = 0) :
    nat s.data.toList t.data.toList = nat (s.extract x.size s.size).data.toList (t.extract y.size t.size).data.toList := by
  rw [nat_step (bytes_ne hs) (bytes_ne ht), ← hx, ← hy, if_pos h, drop_bytes, drop_bytes, ← Lib.size_eq, ← Lib.size_eq]
theorem nat_off {s t x y : ByteArray} (hs : 0 < s.size) (ht : 0 < t.size) (hx : x.data.toList = headPart s.data.toList) (hy : y.data.toList = headPart t.data.toList) (h : ¬ cmpParts x.data.toList y.data.toList = 0) :
    nat s.data.toList t.data.toList = cmpParts x.data.toList y.data.toList := by
  rw [nat_step (bytes_ne hs) (bytes_ne ht), ← hx, ← hy, if_neg h]
theorem nat_out {s t : ByteArray} (h : ¬ 0 < s.size ∨ ¬ 0 < t.size) : nat s.data.toList t.data.toList = Lib.compareInt s.size t.size := by
  rw [nat_done (by rcases h with h | h; exact Or.inl (bytes_nil h); exact Or.inr (bytes_nil h)), ← Lib.size_eq, ← Lib.size_eq]

set_option maxHeartbeats 1000000 in
set_option maxRecDepth 100000 in
theorem natural_any (a b : ByteArray) (ha : a.size ≤ maxLen) (hb : b.size ≤ maxLen) (w : World) :
    Calls Tryd.prog 11 #[.string a, .string b] w fun e w' => e = .returned (.int .i64 (nat a.data.toList b.data.toList)) ∧ ∃ n, w' = w.drewN n := by
  unfold maxLen at ha hb
  go_enter Tryd.func11, Tryd.ntmps11
  go_wp2
  go_loopw [0, 1] (fun u v wr => ∃ s t : ByteArray, u = .string s ∧ v = .string t ∧ s.size ≤ a.size ∧ t.size ≤ b.size ∧ Hid (nat a.data.toList b.data.toList = nat s.data.toList t.data.toList) ∧ ∃ n, wr = w.drewN n) (fun u _ _ => strSize u)
  case atStart => exact ⟨a, b, rfl, rfl, Nat.le_refl _, Nat.le_refl _, rfl, 0, rfl⟩
  case round =>
    obtain ⟨s, t, rfl, rfl, hs, ht, hn, m, rfl⟩ := hrel
    by_cases hs0 : 0 < s.size
    · have he1 := list_full hs0
      have hn1 := list_ne hs0
      by_cases ht0 : 0 < t.size
      · have he2 := list_full ht0
        have hn2 := list_ne ht0
        obtain ⟨x, hx, hx0, hx1⟩ := part_exists hs0
        obtain ⟨y, hy, hy0, hy1⟩ := part_exists ht0
        have HX := Lib.hid hx
        have HY := Lib.hid hy
        have HC := Lib.hid (compareParts_any x y (by unfold maxLen; omega) (by unfold maxLen; omega) hx0 hy0)
        have HON := Lib.hid (fun h => nat_on hs0 ht0 hx hy h)
        have HOFF := Lib.hid (fun h => nat_off hs0 ht0 hx hy h)
        clear hx hy
        generalize hc : cmpParts x.data.toList y.data.toList = c at *
        by_cases h0 : c = 0
        · subst h0
          have HN := Lib.hid (hn.out.trans (HON.out rfl))
          go_wp2_with fail
          refine (firstPart_any s x HX.out hs0 (by unfold maxLen; omega) _).mono ?_
          rintro e w' ⟨rfl, rfl⟩
          go_wp2_with fail
          refine (firstPart_any t y HY.out ht0 (by unfold maxLen; omega) _).mono ?_
          rintro e w' ⟨rfl, rfl⟩
          go_wp2_with fail
          refine (HC.out _).mono ?_
          rintro e w' ⟨rfl, rfl⟩
          go_wp2_with fail
          go_quiet (fail)
          go_wp2_with fail
          go_roundw
          case rel => exact ⟨_, _, rfl, rfl, by simp [ByteArray.size_extract]; omega, by simp [ByteArray.size_extract]; omega, HN, m + nq, by rw [World.drewN_drewN]⟩
          case measure => simp [strSize, ByteArray.size_extract]; omega
        · have hb2 : (c != 0) = true := by simpa using h0
          have HN := Lib.hid (hn.out.trans (HOFF.out h0))
          clear h0 hc
          go_wp2_with fail
          refine (firstPart_any s x HX.out hs0 (by unfold maxLen; omega) _).mono ?_
          rintro e w' ⟨rfl, rfl⟩
          go_wp2_with fail
          refine (firstPart_any t y HY.out ht0 (by unfold maxLen; omega) _).mono ?_
          rintro e w' ⟨rfl, rfl⟩
          go_wp2_with fail
          refine (HC.out _).mono ?_
          rintro e w' ⟨rfl, rfl⟩
          go_wp2_with fail
          go_ret
          exact ⟨ret_int HN.out.symm, m, rfl⟩
      · have he2 := list_none ht0
        have hn2 := list_nil ht0
        have HN := Lib.hid (hn.out.trans (nat_out (Or.inr ht0)))
        go_wp2_with (go_at_call 21; refine (Tryd.cmp_Compare_int _ _ _).mono ?_; rintro e w' ⟨rfl, rfl⟩)
        go_ret
        exact ⟨ret_int HN.out.symm, m, rfl⟩
    · have he1 := list_none hs0
      have hn1 := list_nil hs0
      have HN := Lib.hid (hn.out.trans (nat_out (t := t) (Or.inl hs0)))
      go_wp2_with (go_at_call 21; refine (Tryd.cmp_Compare_int _ _ _).mono ?_; rintro e w' ⟨rfl, rfl⟩)
      go_ret
      exact ⟨ret_int HN.out.symm, m, rfl⟩
end Go.Proofs.YteajollkmbnimaaDoor.NumW
