/-
  Layer 1 (num), walks: the plain answer's Natural, Pad and the plain answer's Pad, and the law NumOrders: it returns true at every two texts and every width; nothing that was there is changed.
-/
import Derived.Test.YteajollkmbnimaaDoorNumLaws
import Derived.Test.YteajollkmbnimaaDoorNumWalkH
namespace Go.Proofs.YteajollkmbnimaaDoor.NumW
open Go Go.RowKit Go.Proofs.YteajollkmbnimaaDoor.NumM

/-- Pad's answer -/
def padL (l : List UInt8) (n : Int) : List UInt8 := if n ≤ 4096 then l ++ List.replicate (n.toNat - l.length) 32 else l
theorem pad_same {l : List UInt8} {n : Int} (h : 4096 < n ∨ n ≤ l.length) : padL l n = l := by
  unfold padL
  by_cases h1 : n ≤ 4096
  · rw [if_pos h1]
    rcases h with h | h
    · omega
    · rw [Nat.sub_eq_zero_of_le (by omega)]; simp
  · rw [if_neg h1]
theorem repeat_blank : ∀ (c : Nat), Lib.repeatL [32] c = List.replicate c 32
  | 0 => rfl
  | c + 1 => by rw [List.replicate_succ, ← repeat_blank c]; rfl
theorem cat_bytes (a b : ByteArray) : (a ++ b).data.toList = a.data.toList ++ b.data.toList := by
  rw [ByteArray.data_append, Array.toList_append]
theorem pad_more {s d : ByteArray} {n : Int} (h1 : n ≤ 4096) (_h2 : ¬ n ≤ s.size) (hd : d.data.toList = padL s.data.toList n) : s ++ ⟨(Lib.repeatL [32] (n.toNat - s.size)).toArray⟩ = d := by
  refine ba_ext ?_
  rw [cat_bytes, hd, padL, if_pos h1, repeat_blank, ← Lib.size_eq]
theorem pad_here {s d : ByteArray} {n : Int} (h : 4096 < n ∨ n ≤ s.size) (hd : d.data.toList = padL s.data.toList n) : s = d := by
  refine ba_ext ?_
  rw [hd, pad_same (by rw [← Lib.size_eq]; exact h)]
theorem pad_step {t : ByteArray} {n : Int} (h3 : n ≤ 4096) (hlt : (t.size : Int) < n) : padL t.data.toList n = padL (t ++ ⟨#[32]⟩).data.toList n := by
  have e : (t ++ (⟨#[32]⟩ : ByteArray)).data.toList = t.data.toList ++ [32] := by rw [cat_bytes]
  rw [e]
  unfold padL
  rw [if_pos h3, if_pos h3, List.length_append, ← Lib.size_eq, List.append_assoc]
  have e2 : n.toNat - t.size = (n.toNat - (t.size + [(32 : UInt8)].length)) + 1 := by simp; omega
  rw [e2, List.replicate_succ]
  rfl
theorem blanks (c : Int) (h0 : 0 ≤ c) (h1 : c ≤ 4096) (w : World) : Calls Tryd.prog 25 #[.string ⟨#[32]⟩, .int .i64 c] w fun e w' => e = .returned (.string ⟨(Lib.repeatL [32] c.toNat).toArray⟩) ∧ Below w.heap.size w w' := by
  obtain ⟨k, rfl⟩ := Int.eq_ofNat_of_zero_le h0
  have hk : k ≤ 4096 := by omega
  exact Tryd.strings_Repeat ⟨#[32]⟩ k w (by omega) (by show 1 * k ≤ _; omega)

set_option maxHeartbeats 400000 in
theorem pad_any (s d : ByteArray) (n : Int) (hs : s.size ≤ 2000) (hd : d.data.toList = padL s.data.toList n) (w : World) :
    Calls Tryd.prog 13 #[.string s, .int .i64 n] w fun e w' => e = .returned (.string d) ∧ Below w.heap.size w w' := by
  by_cases h1 : (4096 : Int) < n
  · have HE := Lib.hid (pad_here (Or.inl h1) hd)
    clear hd
    go_enter Tryd.func13, Tryd.ntmps13
    go_wp2_with fail
    go_ret
    exact ⟨ret_str HE.out, Below.refl _ _⟩
  · by_cases h2 : n ≤ (s.size : Int)
    · have HE := Lib.hid (pad_here (Or.inr h2) hd)
      clear hd
      go_enter Tryd.func13, Tryd.ntmps13
      go_wp2_with fail
      go_ret
      exact ⟨ret_str HE.out, Below.refl _ _⟩
    · have HE := Lib.hid (pad_more (by omega) h2 hd)
      have hlen : (⟨(Lib.repeatL [32] (n - (s.size : Int)).toNat).toArray⟩ : ByteArray).size = (n - (s.size : Int)).toNat := by
        rw [size_mk, Lib.repeatL_length]; simp
      have e1 : (n - (s.size : Int)).toNat = n.toNat - s.size := by omega
      have HB := Lib.hid (blanks (n - (s.size : Int)) (by omega) (by omega))
      rw [e1] at HB hlen
      generalize (⟨(Lib.repeatL [32] (n.toNat - s.size)).toArray⟩ : ByteArray) = b at *
      have hbs : b.size ≤ 4096 := by omega
      clear hd e1 hlen
      go_enter Tryd.func13, Tryd.ntmps13
      go_wp2_with fail
      refine (HB.out _).mono ?_
      rintro e w1 ⟨rfl, hb1⟩
      have B1 := Lib.hid hb1
      clear hb1
      go_wp2_with fail
      go_ret
      exact ⟨ret_str HE.out, B1.out⟩

set_option maxHeartbeats 400000 in
theorem refPad_any (s d : ByteArray) (n : Int) (hs : s.size ≤ 2000) (hd : d.data.toList = padL s.data.toList n) (w : World) :
    Calls Tryd.prog 14 #[.string s, .int .i64 n] w fun e w' => e = .returned (.string d) ∧ w' = w := by
  by_cases h1 : (4096 : Int) < n
  · have HE := Lib.hid (pad_here (Or.inl h1) hd)
    clear hd
    go_enter Tryd.func14, Tryd.ntmps14
    go_wp2_with fail
    go_ret
    exact ⟨ret_str HE.out, rfl⟩
  · have h3 : n ≤ 4096 := by omega
    have HD := Lib.hid hd
    clear hd h1
    go_enter Tryd.func14, Tryd.ntmps14
    go_wp2
    go_loop [0] (fun i => ∃ t : ByteArray, t.size ≤ 4096 ∧ i = .string t ∧ Hid (padL s.data.toList n = padL t.data.toList n)) (fun i => n.toNat - strSize i)
    case atStart => exact ⟨s, by omega, rfl, rfl⟩
    case round =>
      obtain ⟨t, ht, rfl, hp⟩ := hrel
      by_cases hlt : (t.size : Int) < n
      · go_wp2
        go_round
        case rel => exact ⟨t ++ ⟨#[32]⟩, by rw [ByteArray.size_append]; show t.size + 1 ≤ 4096; omega, rfl, hp.out.trans (pad_step h3 hlt)⟩
        case measure =>
          show n.toNat - (t ++ ⟨#[32]⟩).size < n.toNat - t.size
          rw [ByteArray.size_append]
          show n.toNat - (t.size + 1) < _
          omega
      · go_wp2
        go_ret
        exact ⟨ret_str (pad_here (Or.inr (by omega)) (HD.out.trans hp.out)), rfl⟩

theorem cmpI_three (x y : Int) : -1 ≤ Lib.compareInt x y ∧ Lib.compareInt x y ≤ 1 := by unfold Lib.compareInt; split <;> (try split) <;> omega
theorem nums_bound (x y : List UInt8) : -1 ≤ cmpNums x y ∧ cmpNums x y ≤ 1 := by
  unfold cmpNums
  split
  · rcases cmpB_three (Lib.trimLeftB x 48) (Lib.trimLeftB y 48) with h | h | h <;> omega
  · exact cmpI_three _ _
theorem parts_bound (x y : List UInt8) : -1 ≤ cmpParts x y ∧ cmpParts x y ≤ 1 := by
  unfold cmpParts
  split
  · exact nums_bound x y
  · rcases cmpB_three x y with h | h | h <;> omega
theorem natF_bound : ∀ (f : Nat) (a b : List UInt8), -1 ≤ natF f a b ∧ natF f a b ≤ 1
  | 0, a, b => cmpI_three _ _
  | f + 1, a, b => by
    unfold natF
    split
    · exact cmpI_three _ _
    · split
      · exact natF_bound f _ _
      · exact parts_bound _ _

theorem orders_here (a b : ByteArray) (c : Int) (hc : nat a.data.toList b.data.toList = c) (ha : a.size ≤ maxLen) (hb : b.size ≤ maxLen) (w : World) :
    Calls Tryd.prog 11 #[.string a, .string b] w fun e w' => e = .returned (.int .i64 c) ∧ Below w.heap.size w w' := by
  rw [← hc]; exact natural_below a b ha hb w
theorem orders_ref (a b : ByteArray) (c : Int) (hc : nat a.data.toList b.data.toList = c) (ha : a.size ≤ maxLen) (hb : b.size ≤ maxLen) (w : World) :
    Calls Tryd.prog 12 #[.string a, .string b] w fun e w' => e = .returned (.int .i64 c) ∧ Below w.heap.size w w' := by
  rw [← hc]
  exact (refNatural_any a b ha hb w).mono fun _ _ ⟨he, n, hw⟩ => ⟨he, by rw [hw]; exact below_draws _ _⟩

set_option maxHeartbeats 400000 in
theorem numOrders_long (a b : ByteArray) (n : Int) (h : (2000 : Int) < a.size ∨ (2000 : Int) < b.size) (w : World) (hh : Held w) :
    Calls Tryd.prog 5 #[.string a, .string b, .int .i64 n] w fun e w' => e = .returned (.bool true) ∧ Below w.heap.size w w' := by
  have HH := Lib.hid hh
  clear hh
  by_cases h1 : (2000 : Int) < a.size
  · clear h
    go_enter Tryd.func5, Tryd.ntmps5
    go_wp2_with fail
    refine (lives_any _ HH.out).mono ?_
    rintro e w1 ⟨rfl, hb1⟩
    have B1 := Lib.hid hb1
    clear hb1
    go_wp2_with fail
    go_ret
    exact ⟨rfl, B1.out⟩
  · have h2 : (2000 : Int) < b.size := by rcases h with h | h; exact absurd h h1; exact h
    clear h
    go_enter Tryd.func5, Tryd.ntmps5
    go_wp2_with fail
    refine (lives_any _ HH.out).mono ?_
    rintro e w1 ⟨rfl, hb1⟩
    have B1 := Lib.hid hb1
    clear hb1
    go_wp2_with fail
    go_ret
    exact ⟨rfl, B1.out⟩

set_option maxHeartbeats 1000000 in
theorem numOrders_short (a b : ByteArray) (n : Int) (ha : (a.size : Int) ≤ 2000) (hb : (b.size : Int) ≤ 2000) (same : Bool) (hs1 : (a.toList == b.toList) = same) (c : Int) (hc : nat a.data.toList b.data.toList = c) (hs2 : (c == 0) = same) (w : World) (hh : Held w) :
    Calls Tryd.prog 5 #[.string a, .string b, .int .i64 n] w fun e w' => e = .returned (.bool true) ∧ Below w.heap.size w w' := by
  have hcb : -1 ≤ c ∧ c ≤ 1 := by rw [← hc]; exact natF_bound _ _ _
  obtain ⟨c1, c2⟩ := hcb
  have hsw : nat b.data.toList a.data.toList = -c := by rw [nat_swap, hc]
  have NA := Lib.hid (orders_here a b c hc (by unfold maxLen; omega) (by unfold maxLen; omega))
  have NR := Lib.hid (orders_ref a b c hc (by unfold maxLen; omega) (by unfold maxLen; omega))
  have NB := Lib.hid (orders_here b a (-c) hsw (by unfold maxLen; omega) (by unfold maxLen; omega))
  obtain ⟨d, hd⟩ : ∃ d : ByteArray, d.data.toList = padL a.data.toList n := ⟨⟨(padL a.data.toList n).toArray⟩, rfl⟩
  have PA := Lib.hid (pad_any a d n (by omega) hd)
  have PR := Lib.hid (refPad_any a d n (by omega) hd)
  have HH := Lib.hid hh
  clear hh hd hc hsw
  go_enter Tryd.func5, Tryd.ntmps5
  go_wp2_with fail
  refine (NA.out _).mono ?_
  rintro e w1 ⟨rfl, hb1⟩
  have H1 := Lib.hid (HH.out.on hb1)
  have B1 := Lib.hid hb1
  clear hb1
  go_wp2_with fail
  refine (NR.out _).mono ?_
  rintro e w2 ⟨rfl, hb2⟩
  have H2 := Lib.hid (H1.out.on hb2)
  have B2 := Lib.hid (Below.on B1.out hb2)
  clear hb2
  go_wp2_with fail
  refine (NB.out _).mono ?_
  rintro e w3 ⟨rfl, hb3⟩
  have H3 := Lib.hid (H2.out.on hb3)
  have B3 := Lib.hid (Below.on B2.out hb3)
  clear hb3
  go_wp2_with fail
  refine (PA.out _).mono ?_
  rintro e w4 ⟨rfl, hb4⟩
  have H4 := Lib.hid (H3.out.on hb4)
  have B4 := Lib.hid (Below.on B3.out hb4)
  clear hb4
  go_wp2_with fail
  refine (PR.out _).mono ?_
  rintro e w5 ⟨rfl, rfl⟩
  go_wp2_with fail
  refine (lives_any _ H4.out).mono ?_
  rintro e w6 ⟨rfl, hb6⟩
  have B6 := Lib.hid (Below.on B4.out hb6)
  clear hb6
  go_wp2_with fail
  go_ret
  exact ⟨rfl, B6.out⟩

theorem numOrders_any (a b : ByteArray) (n : Int) (w : World) (hh : Held w) :
    Calls Tryd.prog 5 #[.string a, .string b, .int .i64 n] w fun e w' => e = .returned (.bool true) ∧ Below w.heap.size w w' := by
  by_cases h : (2000 : Int) < a.size ∨ (2000 : Int) < b.size
  · exact numOrders_long a b n h w hh
  · by_cases e : a.data.toList = b.data.toList
    · exact numOrders_short a b n (by omega) (by omega) true (by rw [Lib.toList_data, Lib.toList_data, e]; simp) _ rfl (by rw [e, nat_self]; rfl) w hh
    · refine numOrders_short a b n (by omega) (by omega) false (by rw [Lib.toList_data, Lib.toList_data]; simpa using e) _ rfl ?_ w hh
      rw [beq_eq_false_iff_ne]
      exact fun e2 => e (nat_zero e2)
theorem numOrders_law (a : ByteArray) (_ha : a.size ≤ 140737488351232) (b : ByteArray) (_hb : b.size ≤ 140737488351232) (n : Int) (_h0 : -9223372036854775808 ≤ n) (_h1 : n ≤ 9223372036854775807) (w : World) (hh : Held w) :
    Calls Tryd.prog 5 #[.string a, .string b, .int .i64 n] w fun e w' => e = .returned (.bool true) ∧ Below w.heap.size w w' :=
  numOrders_any a b n w hh
end Go.Proofs.YteajollkmbnimaaDoor.NumW
