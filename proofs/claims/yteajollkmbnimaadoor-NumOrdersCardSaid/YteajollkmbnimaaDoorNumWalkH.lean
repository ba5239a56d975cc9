/-
  Layer 1 (num), walks: the plain answer's Natural, which calls itself: what it returns at every two texts; the world as it was, but for draws.
-/
import Derived.Test.YteajollkmbnimaaDoorNumWalkG
namespace Go.Proofs.YteajollkmbnimaaDoor.NumW
open Go Go.RowKit Go.Proofs.YteajollkmbnimaaDoor.NumM

theorem quiet_more {P : Program} {f : FuncId} {args : Array Value} {w : World} {a n : Nat} {v : Value}
    (h : Calls P f args (w.drewN (a + n)) fun e w' => e = .returned v ∧ ∃ m, w' = (w.drewN (a + n)).drewN m) :
    Calls P f args (w.drewN (a + n)) fun e w'' => e = .returned v ∧ ∃ m, w'' = w.drewN (a + m) :=
  h.mono fun _ _ ⟨he, m, hm⟩ => ⟨he, n + m, by rw [hm, World.drewN_drewN, Nat.add_assoc]⟩
theorem quiet_more_same {P : Program} {f : FuncId} {args : Array Value} {w : World} {a n : Nat} {v : Value}
    (h : Calls P f args (w.drewN (a + n)) fun e w' => e = .returned v ∧ w' = w.drewN (a + n)) :
    Calls P f args (w.drewN (a + n)) fun e w'' => e = .returned v ∧ ∃ m, w'' = w.drewN (a + m) :=
  h.mono fun _ _ ⟨he, hm⟩ => ⟨he, n, hm⟩

theorem less_at (a b : ByteArray) (c : Int) (hc : Lib.compareBytes a.data.toList b.data.toList = c) (w : World) :
    Calls Tryd.prog 22 #[.string a, .string b] w fun e w' => e = .returned (.int .i64 c) ∧ w' = w := by
  rw [← hc]; exact less_any a b w
theorem bare_at (a u : ByteArray) (hu : u.data.toList = Lib.trimLeftB a.data.toList 48) (ha : a.size ≤ maxLen) (w : World) :
    Calls Tryd.prog 24 #[.string a] w fun e w' => e = .returned (.string u) ∧ w' = w :=
  (bare_any a ha w).mono fun _ _ ⟨he, hw⟩ => ⟨by rw [he]; exact ret_str (mk_of hu), hw⟩
theorem run_at (a : ByteArray) (n : Nat) (hn : run a.data.toList = n) (ha : a.size ≤ maxLen) (w : World) :
    Calls Tryd.prog 23 #[.string a] w fun e w' => e = .returned (.int .i64 n) ∧ w' = w := by
  rw [← hn]; exact run_any a ha w

theorem take_bytes (s : ByteArray) (k : Nat) : (s.extract 0 k).data.toList = s.data.toList.take k := by
  rw [Lib.extract_data, List.drop_zero]; rfl
theorem part_is {s : ByteArray} {n k : Nat} (hn : run s.data.toList = n) (hk : k = max 1 n) : headPart s.data.toList = (s.extract 0 k).data.toList := by
  rw [take_bytes, hk, ← hn]; rfl
theorem part_size {s : ByteArray} {n k : Nat} (h0 : 0 < s.size) (hn : run s.data.toList = n) (hk : k = max 1 n) : 1 ≤ k ∧ k ≤ s.size := by
  have := run_le s.data.toList
  rw [← Lib.size_eq] at this
  omega
theorem run_head {s : ByteArray} (h0 : 0 < s.size) : (run s.data.toList = 0 → dig s[0] = false) ∧ (0 < run s.data.toList → dig s[0] = true) := by
  rw [bytes_cons h0]
  cases hd : dig s[0] with
  | true => rw [run_cons_pos hd]; exact ⟨fun h => by omega, fun _ => rfl⟩
  | false => rw [run_cons_no hd]; exact ⟨fun _ => rfl, fun h => by omega⟩
theorem level_empty {a b : ByteArray} (h : ¬ 0 < a.size ∨ ¬ 0 < b.size) : Lib.compareBytes a.data.toList b.data.toList = nat a.data.toList b.data.toList := by
  rw [nat_out h]
  by_cases ha : 0 < a.size
  · have hb : ¬ 0 < b.size := by rcases h with h | h; exact absurd ha h; exact h
    rw [bytes_nil hb, bytes_cons ha]
    unfold Lib.compareBytes Lib.compareInt
    rw [if_neg (by omega), if_pos (by omega)]
  · rw [bytes_nil ha]
    by_cases hb : 0 < b.size
    · rw [bytes_cons hb]
      unfold Lib.compareBytes Lib.compareInt
      rw [if_pos (by omega)]
    · rw [bytes_nil hb]
      unfold Lib.compareBytes Lib.compareInt
      rw [if_neg (by omega), if_neg (by omega)]

/-- one step, told by the first parts' lengths -/
theorem nat_cut {a b : ByteArray} {n m k j : Nat} (ha : 0 < a.size) (hb : 0 < b.size) (hn : run a.data.toList = n) (hm : run b.data.toList = m) (hk : k = max 1 n) (hj : j = max 1 m) :
    nat a.data.toList b.data.toList = if cmpParts (a.extract 0 k).data.toList (b.extract 0 j).data.toList = 0 then nat (a.extract k a.size).data.toList (b.extract j b.size).data.toList else cmpParts (a.extract 0 k).data.toList (b.extract 0 j).data.toList := by
  have h1 := part_size ha hn hk
  have h2 := part_size hb hm hj
  rw [nat_step (bytes_ne ha) (bytes_ne hb), part_is hn hk, part_is hm hj, drop_bytes, drop_bytes]
  rw [← Lib.size_eq, ← Lib.size_eq, ByteArray.size_extract, ByteArray.size_extract]
  rw [show min k a.size - 0 = k by omega, show min j b.size - 0 = j by omega]
theorem parts_here {a b : ByteArray} {n m k j : Nat} (ha : 0 < a.size) (hb : 0 < b.size) (hn : run a.data.toList = n) (hm : run b.data.toList = m) (hk : k = max 1 n) (hj : j = max 1 m) :
    cmpParts (a.extract 0 k).data.toList (b.extract 0 j).data.toList = if 0 < n ∧ 0 < m ∧ cmpNums (a.extract 0 k).data.toList (b.extract 0 j).data.toList ≠ 0 then cmpNums (a.extract 0 k).data.toList (b.extract 0 j).data.toList else Lib.compareBytes (a.extract 0 k).data.toList (b.extract 0 j).data.toList := by
  have e1 : (a.extract 0 k).data.toList.headD 0 = a[0] := by rw [← part_is hn hk, part_head, head_of ha]
  have e2 : (b.extract 0 j).data.toList.headD 0 = b[0] := by rw [← part_is hm hj, part_head, head_of hb]
  have r1 := run_head ha
  have r2 := run_head hb
  rw [hn] at r1
  rw [hm] at r2
  unfold cmpParts
  rw [e1, e2]
  by_cases h1 : 0 < n
  · by_cases h2 : 0 < m
    · simp only [r1.2 h1, r2.2 h2, h1, h2, true_and]
    · simp [r2.1 (by omega), h2]
  · simp [r1.1 (by omega), h1]

def Sorted (a b : ByteArray) : Prop := ∀ w : World, Calls Tryd.prog 12 #[.string a, .string b] w fun e w' => e = .returned (.int .i64 (nat a.data.toList b.data.toList)) ∧ ∃ n, w' = w.drewN n

set_option maxHeartbeats 1000000 in
set_option maxRecDepth 100000 in
theorem sorted_empty (a b : ByteArray) (h : ¬ 0 < a.size ∨ ¬ 0 < b.size) : Sorted a b := by
  intro w
  have HL := Lib.hid (level_empty h)
  by_cases ha : 0 < a.size
  · have hb : ¬ 0 < b.size := by rcases h with h | h; exact absurd ha h; exact h
    have e1 := list_full ha
    have e2 := list_ne ha
    have e3 := list_none hb
    have e4 := list_nil hb
    clear h
    go_enter Tryd.func12, Tryd.ntmps12
    go_wp2_with (go_at_call 22; refine (less_at a b _ HL.out _).mono ?_; rintro e w' ⟨rfl, rfl⟩)
    go_ret
    exact ⟨rfl, 0, rfl⟩
  · have e3 := list_none ha
    have e4 := list_nil ha
    clear h
    go_enter Tryd.func12, Tryd.ntmps12
    go_wp2_with (go_at_call 22; refine (less_at a b _ HL.out _).mono ?_; rintro e w' ⟨rfl, rfl⟩)
    go_ret
    exact ⟨rfl, 0, rfl⟩

set_option maxHeartbeats 1000000 in
set_option maxRecDepth 100000 in
/-- a part that is no number -/
theorem sorted_plain (a b : ByteArray) (ha : 0 < a.size) (hb : 0 < b.size) (has : a.size ≤ maxLen) (hbs : b.size ≤ maxLen) (n m k j : Nat) (hn : run a.data.toList = n) (hm : run b.data.toList = m) (hk : k = max 1 n) (hj : j = max 1 m)
    (hz : ¬ 0 < n ∨ ¬ 0 < m) (ih : Sorted (a.extract k a.size) (b.extract j b.size)) : Sorted a b := by
  intro w
  have hks := part_size ha hn hk
  have hjs := part_size hb hm hj
  have hcut := nat_cut ha hb hn hm hk hj
  have hpar := parts_here ha hb hn hm hk hj
  rw [if_neg (fun e => by rcases hz with h | h; exact h e.1; exact h e.2.1)] at hpar
  rw [hpar] at hcut
  have e1 := list_full ha
  have e2 := list_ne ha
  have e3 := list_full hb
  have e4 := list_ne hb
  have hmx : max (n : Int) 1 = (k : Int) := by omega
  have hmy : max (m : Int) 1 = (j : Int) := by omega
  have RA := Lib.hid (run_at a n hn has)
  have RB := Lib.hid (run_at b m hm hbs)
  have IH := Lib.hid ih
  generalize hc : Lib.compareBytes (a.extract 0 k).data.toList (b.extract 0 j).data.toList = c at *
  have LS := Lib.hid (less_at _ _ c hc)
  have hb1 : (k : Int) ≤ (a.size : Int) := by omega
  have hb2 : (j : Int) ≤ (b.size : Int) := by omega
  have hb3 : k ≤ a.size := by omega
  have hb4 : j ≤ b.size := by omega
  unfold maxLen at has hbs
  clear hpar hc hk hj hn hm ih
  by_cases h0 : c = 0
  · subst h0
    rw [if_pos rfl] at hcut
    have HC := Lib.hid hcut
    clear hcut
    by_cases hn0 : 0 < n
    · have hm0 : ¬ 0 < m := by rcases hz with h | h; exact absurd hn0 h; exact h
      have hz1 : ((n : Int) == 0) = false := by simp; omega
      have hz2 : ((m : Int) == 0) = true := by simp; omega
      clear hz
      go_enter Tryd.func12, Tryd.ntmps12
      go_wp2_with fail
      refine (RA.out _).mono ?_
      rintro e w' ⟨rfl, rfl⟩
      go_wp2_with fail
      refine (RB.out _).mono ?_
      rintro e w' ⟨rfl, rfl⟩
      go_wp2_with fail
      go_quiet ((go_at_call 22; exact Calls.quiet_of_same (LS.out _)))
      go_wp2_with fail
      go_quiet ((go_at_call 12; exact quiet_more (IH.out _)))
      go_wp2_with fail
      go_ret
      exact ⟨ret_int HC.out.symm, _, by rw [World.drewN_drewN]⟩
    · have hz1 : ((n : Int) == 0) = true := by simp; omega
      clear hz
      go_enter Tryd.func12, Tryd.ntmps12
      go_wp2_with fail
      refine (RA.out _).mono ?_
      rintro e w' ⟨rfl, rfl⟩
      go_wp2_with fail
      refine (RB.out _).mono ?_
      rintro e w' ⟨rfl, rfl⟩
      go_wp2_with fail
      go_quiet ((go_at_call 22; exact Calls.quiet_of_same (LS.out _)))
      go_wp2_with fail
      go_quiet ((go_at_call 12; exact quiet_more (IH.out _)))
      go_wp2_with fail
      go_ret
      exact ⟨ret_int HC.out.symm, _, by rw [World.drewN_drewN]⟩
  · rw [if_neg h0] at hcut
    have hcb : (c != 0) = true := by simpa using h0
    have HC := Lib.hid hcut
    clear hcut h0
    by_cases hn0 : 0 < n
    · have hm0 : ¬ 0 < m := by rcases hz with h | h; exact absurd hn0 h; exact h
      have hz1 : ((n : Int) == 0) = false := by simp; omega
      have hz2 : ((m : Int) == 0) = true := by simp; omega
      clear hz
      go_enter Tryd.func12, Tryd.ntmps12
      go_wp2_with fail
      refine (RA.out _).mono ?_
      rintro e w' ⟨rfl, rfl⟩
      go_wp2_with fail
      refine (RB.out _).mono ?_
      rintro e w' ⟨rfl, rfl⟩
      go_wp2_with fail
      go_quiet ((go_at_call 22; exact Calls.quiet_of_same (LS.out _)))
      go_wp2_with fail
      go_ret
      exact ⟨ret_int HC.out.symm, _, rfl⟩
    · have hz1 : ((n : Int) == 0) = true := by simp; omega
      clear hz
      go_enter Tryd.func12, Tryd.ntmps12
      go_wp2_with fail
      refine (RA.out _).mono ?_
      rintro e w' ⟨rfl, rfl⟩
      go_wp2_with fail
      refine (RB.out _).mono ?_
      rintro e w' ⟨rfl, rfl⟩
      go_wp2_with fail
      go_quiet ((go_at_call 22; exact Calls.quiet_of_same (LS.out _)))
      go_wp2_with fail
      go_ret
      exact ⟨ret_int HC.out.symm, _, rfl⟩

/-- what the plain answer's tests on the bare digits come to -/
theorem nums_three {u v : ByteArray} {x y : List UInt8} (hu : u.data.toList = Lib.trimLeftB x 48) (hv : v.data.toList = Lib.trimLeftB y 48) :
    (cmpNums x y = -1 ∧ (u.size < v.size ∨ u.size = v.size ∧ Op.bytesLess u.toList v.toList = true)) ∨ (cmpNums x y = 0 ∧ u = v) ∨ (cmpNums x y = 1 ∧ ¬ u = v ∧ ¬ u.size < v.size ∧ (u.size = v.size → Op.bytesLess u.toList v.toList = false)) := by
  by_cases h : u.size = v.size
  · have e := nums_same hu hv h
    rcases cmpB_three u.data.toList v.data.toList with h1 | h1 | h1
    · left
      refine ⟨by rw [e, h1], Or.inr ⟨h, ?_⟩⟩
      rw [less_cmpB, Lib.toList_data, Lib.toList_data, h1]; rfl
    · right; left
      exact ⟨by rw [e, h1], ba_ext (cmpB_zero _ _ h1)⟩
    · right; right
      refine ⟨by rw [e, h1], ?_, by omega, fun _ => ?_⟩
      · intro e2; rw [e2, cmpB_self] at h1; omega
      · rw [less_cmpB, Lib.toList_data, Lib.toList_data, h1]; rfl
  · have e := nums_other hu hv h
    unfold Lib.compareInt at e
    by_cases h2 : u.size < v.size
    · left
      exact ⟨by rw [e, if_pos (by omega)], Or.inl h2⟩
    · right; right
      exact ⟨by rw [e, if_neg (by omega), if_pos (by omega)], fun e2 => h (by rw [e2]), h2, fun e2 => absurd e2 h⟩

set_option maxHeartbeats 2000000 in
set_option maxRecDepth 100000 in
/-- two numbers -/
theorem sorted_nums (a b : ByteArray) (ha : 0 < a.size) (hb : 0 < b.size) (has : a.size ≤ maxLen) (hbs : b.size ≤ maxLen) (n m : Nat) (hn : run a.data.toList = n) (hm : run b.data.toList = m)
    (hn0 : 0 < n) (hm0 : 0 < m) (ih : Sorted (a.extract n a.size) (b.extract m b.size)) : Sorted a b := by
  intro w
  have hks := part_size ha hn (k := n) (by omega)
  have hjs := part_size hb hm (k := m) (by omega)
  have hcut := nat_cut ha hb hn hm (k := n) (j := m) (by omega) (by omega)
  have hpar := parts_here ha hb hn hm (k := n) (j := m) (by omega) (by omega)
  have e1 := list_full ha
  have e2 := list_ne ha
  have e3 := list_full hb
  have e4 := list_ne hb
  have hz1 : ((n : Int) == 0) = false := by simp; omega
  have hz2 : ((m : Int) == 0) = false := by simp; omega
  have RA := Lib.hid (run_at a n hn has)
  have RB := Lib.hid (run_at b m hm hbs)
  have IH := Lib.hid ih
  obtain ⟨u, hu⟩ : ∃ u : ByteArray, u.data.toList = Lib.trimLeftB (a.extract 0 n).data.toList 48 := ⟨⟨(Lib.trimLeftB (a.extract 0 n).data.toList 48).toArray⟩, rfl⟩
  obtain ⟨v, hv⟩ : ∃ u : ByteArray, u.data.toList = Lib.trimLeftB (b.extract 0 m).data.toList 48 := ⟨⟨(Lib.trimLeftB (b.extract 0 m).data.toList 48).toArray⟩, rfl⟩
  have UA := Lib.hid (bare_at _ u hu (by rw [ByteArray.size_extract]; unfold maxLen at has ⊢; omega))
  have VB := Lib.hid (bare_at _ v hv (by rw [ByteArray.size_extract]; unfold maxLen at hbs ⊢; omega))
  have h3 := nums_three hu hv
  have hus : u.size ≤ a.size := by
    have := trim_len (a.extract 0 n).data.toList
    rw [← hu, ← Lib.size_eq, ← Lib.size_eq, ByteArray.size_extract] at this
    omega
  have hvs : v.size ≤ b.size := by
    have := trim_len (b.extract 0 m).data.toList
    rw [← hv, ← Lib.size_eq, ← Lib.size_eq, ByteArray.size_extract] at this
    omega
  generalize hc : Lib.compareBytes (a.extract 0 n).data.toList (b.extract 0 m).data.toList = c at *
  have LS := Lib.hid (less_at _ _ c hc)
  have hb1 : (n : Int) ≤ (a.size : Int) := by omega
  have hb2 : (m : Int) ≤ (b.size : Int) := by omega
  have hb3 : n ≤ a.size := by omega
  have hb4 : m ≤ b.size := by omega
  unfold maxLen at has hbs
  clear hc hn hm ih hu hv
  rcases h3 with ⟨q1, q2⟩ | ⟨q1, q2⟩ | ⟨q1, q2, q3, q4⟩
  · rw [if_pos ⟨hn0, hm0, by omega⟩, q1] at hpar
    rw [hpar, if_neg (by omega)] at hcut
    have HC := Lib.hid hcut
    clear hcut hpar q1
    rcases q2 with q2 | ⟨q2, q3⟩
    · have q5 : (u.size : Int) < (v.size : Int) := by omega
      go_enter Tryd.func12, Tryd.ntmps12
      go_wp2_with fail
      refine (RA.out _).mono ?_
      rintro e w' ⟨rfl, rfl⟩
      go_wp2_with fail
      refine (RB.out _).mono ?_
      rintro e w' ⟨rfl, rfl⟩
      go_wp2_with fail
      go_quiet ((first | (go_at_call_of 24 (Value.string (a.extract 0 n)); exact Calls.quiet_of_same (UA.out _)) | (go_at_call_of 24 (Value.string (b.extract 0 m)); exact Calls.quiet_of_same (VB.out _))))
      go_wp2_with fail
      go_ret
      exact ⟨ret_int HC.out.symm, _, rfl⟩
    · have q5 : ¬ (u.size : Int) < (v.size : Int) := by omega
      have q6 : ((u.size : Int) == (v.size : Int)) = true := by simp; omega
      clear q2
      go_enter Tryd.func12, Tryd.ntmps12
      go_wp2_with fail
      refine (RA.out _).mono ?_
      rintro e w' ⟨rfl, rfl⟩
      go_wp2_with fail
      refine (RB.out _).mono ?_
      rintro e w' ⟨rfl, rfl⟩
      go_wp2_with fail
      go_quiet ((first | (go_at_call_of 24 (Value.string (a.extract 0 n)); exact Calls.quiet_of_same (UA.out _)) | (go_at_call_of 24 (Value.string (b.extract 0 m)); exact Calls.quiet_of_same (VB.out _))))
      go_wp2_with fail
      go_ret
      exact ⟨ret_int HC.out.symm, _, rfl⟩
  · subst q2
    rw [if_neg (fun e => e.2.2 q1)] at hpar
    rw [hpar] at hcut
    have q5 : Op.bytesLess u.toList u.toList = false := by rw [less_cmpB, cmpB_self]; rfl
    clear hpar q1
    by_cases h0 : c = 0
    · subst h0
      rw [if_pos rfl] at hcut
      have HC := Lib.hid hcut
      clear hcut
      go_enter Tryd.func12, Tryd.ntmps12
      go_wp2_with fail
      refine (RA.out _).mono ?_
      rintro e w' ⟨rfl, rfl⟩
      go_wp2_with fail
      refine (RB.out _).mono ?_
      rintro e w' ⟨rfl, rfl⟩
      go_wp2_with fail
      go_quiet ((first | (go_at_call_of 24 (Value.string (a.extract 0 n)); exact Calls.quiet_of_same (UA.out _)) | (go_at_call_of 24 (Value.string (b.extract 0 m)); exact Calls.quiet_of_same (VB.out _))))
      go_wp2_with fail
      go_quiet ((go_at_call 22; exact quiet_more_same (LS.out _)))
      go_wp2_with fail
      go_quiet ((go_at_call 12; exact quiet_more (IH.out _)))
      go_wp2_with fail
      go_ret
      exact ⟨ret_int HC.out.symm, _, by rw [World.drewN_drewN]⟩
    · rw [if_neg h0] at hcut
      have hcb : (c != 0) = true := by simpa using h0
      have HC := Lib.hid hcut
      clear hcut h0
      go_enter Tryd.func12, Tryd.ntmps12
      go_wp2_with fail
      refine (RA.out _).mono ?_
      rintro e w' ⟨rfl, rfl⟩
      go_wp2_with fail
      refine (RB.out _).mono ?_
      rintro e w' ⟨rfl, rfl⟩
      go_wp2_with fail
      go_quiet ((first | (go_at_call_of 24 (Value.string (a.extract 0 n)); exact Calls.quiet_of_same (UA.out _)) | (go_at_call_of 24 (Value.string (b.extract 0 m)); exact Calls.quiet_of_same (VB.out _))))
      go_wp2_with fail
      go_quiet ((go_at_call 22; exact quiet_more_same (LS.out _)))
      go_wp2_with fail
      go_ret
      exact ⟨ret_int HC.out.symm, _, rfl⟩
  · rw [if_pos ⟨hn0, hm0, by omega⟩, q1] at hpar
    rw [hpar, if_neg (by omega)] at hcut
    have HC := Lib.hid hcut
    have q5 : ¬ (u.size : Int) < (v.size : Int) := by omega
    have q6 : (u.toList == v.toList) = false := by
      rw [Lib.toList_data, Lib.toList_data]
      by_cases e : u.data.toList = v.data.toList
      · exact absurd (ba_ext e) q2
      · simpa using e
    clear hcut hpar q1 q2 q3
    by_cases q7 : u.size = v.size
    · have q8 := q4 q7
      have q9 : ((u.size : Int) == (v.size : Int)) = true := by simp; omega
      clear q4 q7
      go_enter Tryd.func12, Tryd.ntmps12
      go_wp2_with fail
      refine (RA.out _).mono ?_
      rintro e w' ⟨rfl, rfl⟩
      go_wp2_with fail
      refine (RB.out _).mono ?_
      rintro e w' ⟨rfl, rfl⟩
      go_wp2_with fail
      go_quiet ((first | (go_at_call_of 24 (Value.string (a.extract 0 n)); exact Calls.quiet_of_same (UA.out _)) | (go_at_call_of 24 (Value.string (b.extract 0 m)); exact Calls.quiet_of_same (VB.out _))))
      go_wp2_with fail
      go_ret
      exact ⟨ret_int HC.out.symm, _, rfl⟩
    · have q9 : ((u.size : Int) == (v.size : Int)) = false := by simp; omega
      clear q4 q7
      go_enter Tryd.func12, Tryd.ntmps12
      go_wp2_with fail
      refine (RA.out _).mono ?_
      rintro e w' ⟨rfl, rfl⟩
      go_wp2_with fail
      refine (RB.out _).mono ?_
      rintro e w' ⟨rfl, rfl⟩
      go_wp2_with fail
      go_quiet ((first | (go_at_call_of 24 (Value.string (a.extract 0 n)); exact Calls.quiet_of_same (UA.out _)) | (go_at_call_of 24 (Value.string (b.extract 0 m)); exact Calls.quiet_of_same (VB.out _))))
      go_wp2_with fail
      go_ret
      exact ⟨ret_int HC.out.symm, _, rfl⟩

theorem sorted_all : ∀ (k : Nat) (a b : ByteArray), a.size ≤ k → a.size ≤ maxLen → b.size ≤ maxLen → Sorted a b := by
  intro k
  induction k with
  | zero => intro a b hk _ _; exact sorted_empty a b (Or.inl (by omega))
  | succ k ih =>
    intro a b hk ha hb
    by_cases h0 : 0 < a.size
    · by_cases h1 : 0 < b.size
      · have p1 := part_size h0 (n := run a.data.toList) (k := max 1 (run a.data.toList)) rfl rfl
        have p2 := part_size h1 (n := run b.data.toList) (k := max 1 (run b.data.toList)) rfl rfl
        by_cases hz : 0 < run a.data.toList ∧ 0 < run b.data.toList
        · exact sorted_nums a b h0 h1 ha hb _ _ rfl rfl hz.1 hz.2 (ih _ _ (by rw [ByteArray.size_extract]; omega) (by rw [ByteArray.size_extract]; unfold maxLen at ha ⊢; omega) (by rw [ByteArray.size_extract]; unfold maxLen at hb ⊢; omega))
        · exact sorted_plain a b h0 h1 ha hb _ _ _ _ rfl rfl rfl rfl (by omega) (ih _ _ (by rw [ByteArray.size_extract]; omega) (by rw [ByteArray.size_extract]; unfold maxLen at ha ⊢; omega) (by rw [ByteArray.size_extract]; unfold maxLen at hb ⊢; omega))
      · exact sorted_empty a b (Or.inr h1)
    · exact sorted_empty a b (Or.inl h0)
theorem refNatural_any (a b : ByteArray) (ha : a.size ≤ maxLen) (hb : b.size ≤ maxLen) (w : World) :
    Calls Tryd.prog 12 #[.string a, .string b] w fun e w' => e = .returned (.int .i64 (nat a.data.toList b.data.toList)) ∧ ∃ n, w' = w.drewN n :=
  sorted_all a.size a b (Nat.le_refl _) ha hb w
end Go.Proofs.YteajollkmbnimaaDoor.NumW
