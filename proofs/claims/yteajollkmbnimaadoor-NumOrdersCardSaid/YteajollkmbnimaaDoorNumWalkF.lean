/-
  Layer 1 (num), walks: Natural and what it calls: the order of any two texts, part by part; the world as it was, or with draws alone.
-/
import Derived.Test.YteajollkmbnimaaDoorNumWalkE
namespace Go.Proofs.YteajollkmbnimaaDoor.NumW
open Go Go.RowKit Go.Proofs.YteajollkmbnimaaDoor.NumM

theorem ba_ext {a b : ByteArray} (h : a.data.toList = b.data.toList) : a = b := by rw [← mk_bytes a, h, mk_bytes b]
theorem part_take (l : List UInt8) {k : Nat} (h : k = max 1 (run l)) : headPart l = l.take k := by subst h; rfl

set_option maxHeartbeats 400000 in
theorem firstPart_any (s d : ByteArray) (hd : d.data.toList = headPart s.data.toList) (h0 : 0 < s.size) (hs : s.size ≤ maxLen) (w : World) :
    Calls Tryd.prog 19 #[.string s] w fun e w' => e = .returned (.string d) ∧ w' = w := by
  have hr := run_le s.data.toList
  rw [← Lib.size_eq] at hr
  have hsm := hs
  unfold maxLen at hs
  have HD := Lib.hid hd
  clear hd
  go_enter Tryd.func19, Tryd.ntmps19
  go_wp2_with (go_at_call 27; refine (digitsAhead_any s hsm _).mono ?_; rintro e w' ⟨rfl, rfl⟩)
  go_ret
  exact ⟨ret_str (ba_ext (by rw [HD.out, Lib.extract_data, List.drop_zero, part_take _ (k := (max 1 ((run s.data.toList : Nat) : Int)).toNat) (by omega)]; rfl)), rfl⟩

theorem trim_len (l : List UInt8) : (Lib.trimLeftB l 48).length ≤ l.length := by unfold Lib.trimLeftB; exact (List.dropWhile_sublist _).length_le
theorem bare_lib (s d : ByteArray) (h : d.data.toList = Lib.trimLeftB s.data.toList 48) (w : World) :
    Calls Tryd.prog 48 #[.string s, .string ⟨#[48]⟩] w fun e w' => e = .returned (.string d) ∧ w' = w :=
  (Tryd.strings_TrimLeft_one s 48 (by decide) w).mono fun _ _ ⟨he, hw⟩ => ⟨by rw [he]; exact ret_str (mk_of h), hw⟩
theorem nums_same {u v : ByteArray} {x y : List UInt8} (hu : u.data.toList = Lib.trimLeftB x 48) (hv : v.data.toList = Lib.trimLeftB y 48) (h : u.size = v.size) : cmpNums x y = Lib.compareBytes u.data.toList v.data.toList := by
  unfold cmpNums
  rw [← hu, ← hv, ← Lib.size_eq, ← Lib.size_eq, if_pos h]
theorem nums_other {u v : ByteArray} {x y : List UInt8} (hu : u.data.toList = Lib.trimLeftB x 48) (hv : v.data.toList = Lib.trimLeftB y 48) (h : ¬ u.size = v.size) : cmpNums x y = Lib.compareInt u.size v.size := by
  unfold cmpNums
  rw [← hu, ← hv, ← Lib.size_eq, ← Lib.size_eq, if_neg h]

set_option maxHeartbeats 400000 in
theorem compareNumbers_any (x y : ByteArray) (_hx : x.size ≤ maxLen) (_hy : y.size ≤ maxLen) (w : World) :
    Calls Tryd.prog 32 #[.string x, .string y] w fun e w' => e = .returned (.int .i64 (cmpNums x.data.toList y.data.toList)) ∧ w' = w := by
  obtain ⟨u, hu⟩ : ∃ u : ByteArray, u.data.toList = Lib.trimLeftB x.data.toList 48 := ⟨⟨(Lib.trimLeftB x.data.toList 48).toArray⟩, rfl⟩
  obtain ⟨v, hv⟩ : ∃ u : ByteArray, u.data.toList = Lib.trimLeftB y.data.toList 48 := ⟨⟨(Lib.trimLeftB y.data.toList 48).toArray⟩, rfl⟩
  have hu2 : u.size ≤ x.size := by rw [Lib.size_eq, Lib.size_eq, hu]; exact trim_len _
  have hv2 : v.size ≤ y.size := by rw [Lib.size_eq, Lib.size_eq, hv]; exact trim_len _
  unfold maxLen at _hx _hy
  have HS := Lib.hid (fun h => nums_same hu hv h)
  have HO := Lib.hid (fun h => nums_other hu hv h)
  have HU := Lib.hid hu
  have HV := Lib.hid hv
  clear hu hv
  by_cases he : u.size = v.size
  · have HE := Lib.hid he
    have hb : ((u.size : Int) != (v.size : Int)) = false := by rw [he]; simp
    clear he
    go_enter Tryd.func32, Tryd.ntmps32
    go_wp2_with fail
    refine (bare_lib x u HU.out _).mono ?_
    rintro e w' ⟨rfl, rfl⟩
    go_wp2_with fail
    refine (bare_lib y v HV.out _).mono ?_
    rintro e w' ⟨rfl, rfl⟩
    go_wp2_with fail
    refine (Tryd.strings_Compare u v _).mono ?_
    rintro e w' ⟨rfl, rfl⟩
    go_wp2_with fail
    go_ret
    exact ⟨ret_int (HS.out HE.out).symm, rfl⟩
  · have hb : ((u.size : Int) != (v.size : Int)) = true := by simp; omega
    have HE := Lib.hid he
    clear he
    go_enter Tryd.func32, Tryd.ntmps32
    go_wp2_with fail
    refine (bare_lib x u HU.out _).mono ?_
    rintro e w' ⟨rfl, rfl⟩
    go_wp2_with fail
    refine (bare_lib y v HV.out _).mono ?_
    rintro e w' ⟨rfl, rfl⟩
    go_wp2_with fail
    refine (Tryd.cmp_Compare_int _ _ _).mono ?_
    rintro e w' ⟨rfl, rfl⟩
    go_wp2_with fail
    go_ret
    exact ⟨ret_int (HO.out HE.out).symm, rfl⟩

theorem head_of {s : ByteArray} (h : 0 < s.size) : s.data.toList.headD 0 = s[0] := by rw [bytes_cons h]; rfl
theorem parts_no {x y : ByteArray} (hx : 0 < x.size) (hy : 0 < y.size) (h : dig x[0] = false ∨ dig y[0] = false) : cmpParts x.data.toList y.data.toList = Lib.compareBytes x.data.toList y.data.toList := by
  unfold cmpParts
  rw [head_of hx, head_of hy, if_neg]
  rcases h with h | h <;> simp [h]
theorem parts_yes {x y : ByteArray} (hx : 0 < x.size) (hy : 0 < y.size) (h : dig x[0] = true) (h2 : dig y[0] = true) (h3 : ¬ cmpNums x.data.toList y.data.toList = 0) : cmpParts x.data.toList y.data.toList = cmpNums x.data.toList y.data.toList := by
  unfold cmpParts
  rw [head_of hx, head_of hy, if_pos ⟨h, h2, h3⟩]
theorem parts_level {x y : ByteArray} (hx : 0 < x.size) (hy : 0 < y.size) (h3 : cmpNums x.data.toList y.data.toList = 0) : cmpParts x.data.toList y.data.toList = Lib.compareBytes x.data.toList y.data.toList := by
  unfold cmpParts
  rw [head_of hx, head_of hy, if_neg (fun e => e.2.2 h3)]

set_option maxHeartbeats 400000 in
theorem compareParts_any (x y : ByteArray) (hx : x.size ≤ maxLen) (hy : y.size ≤ maxLen) (hx0 : 0 < x.size) (hy0 : 0 < y.size) (w : World) :
    Calls Tryd.prog 20 #[.string x, .string y] w fun e w' => e = .returned (.int .i64 (cmpParts x.data.toList y.data.toList)) ∧ w' = w := by
  have hxm := Lib.hid hx
  have hym := Lib.hid hy
  unfold maxLen at hx hy
  cases hd1 : dig x[0] with
  | false =>
    have HP := Lib.hid (parts_no hx0 hy0 (Or.inl hd1))
    have HD := Lib.hid hd1
    clear hd1
    go_enter Tryd.func20, Tryd.ntmps20
    go_wp2_with (first | (go_at_call 31; refine (isDigit_no _ HD.out _).mono ?_; rintro e w' ⟨rfl, rfl⟩) | (go_at_call 33; refine (Tryd.strings_Compare x y _).mono ?_; rintro e w' ⟨rfl, rfl⟩))
    go_ret
    exact ⟨ret_int HP.out.symm, rfl⟩
  | true =>
    cases hd2 : dig y[0] with
    | false =>
      have HP := Lib.hid (parts_no hx0 hy0 (Or.inr hd2))
      have HD := Lib.hid hd1
      have HE := Lib.hid hd2
      clear hd1 hd2
      go_enter Tryd.func20, Tryd.ntmps20
      go_wp2_with fail
      refine (isDigit_yes _ HD.out _).mono ?_
      rintro e w' ⟨rfl, rfl⟩
      go_wp2_with fail
      refine (isDigit_no _ HE.out _).mono ?_
      rintro e w' ⟨rfl, rfl⟩
      go_wp2_with fail
      refine (Tryd.strings_Compare x y _).mono ?_
      rintro e w' ⟨rfl, rfl⟩
      go_wp2_with fail
      go_ret
      exact ⟨ret_int HP.out.symm, rfl⟩
    | true =>
      have HC := Lib.hid (compareNumbers_any x y hxm.out hym.out)
      have HN := Lib.hid (fun h3 => parts_yes hx0 hy0 hd1 hd2 h3)
      have HL := Lib.hid (fun h3 => parts_level hx0 hy0 h3)
      have HD := Lib.hid hd1
      have HE := Lib.hid hd2
      clear hd1 hd2
      generalize hc : cmpNums x.data.toList y.data.toList = c at *
      by_cases h0 : c = 0
      · subst h0
        have HL2 := Lib.hid (HL.out rfl)
        go_enter Tryd.func20, Tryd.ntmps20
        go_wp2_with fail
        refine (isDigit_yes _ HD.out _).mono ?_
        rintro e w' ⟨rfl, rfl⟩
        go_wp2_with fail
        refine (isDigit_yes _ HE.out _).mono ?_
        rintro e w' ⟨rfl, rfl⟩
        go_wp2_with fail
        refine (HC.out _).mono ?_
        rintro e w' ⟨rfl, rfl⟩
        go_wp2_with fail
        refine (Tryd.strings_Compare x y _).mono ?_
        rintro e w' ⟨rfl, rfl⟩
        go_wp2_with fail
        go_ret
        exact ⟨ret_int HL2.out.symm, rfl⟩
      · have hb : (c != 0) = true := by simpa using h0
        have HN2 := Lib.hid (HN.out h0)
        clear h0 hc
        go_enter Tryd.func20, Tryd.ntmps20
        go_wp2_with fail
        refine (isDigit_yes _ HD.out _).mono ?_
        rintro e w' ⟨rfl, rfl⟩
        go_wp2_with fail
        refine (isDigit_yes _ HE.out _).mono ?_
        rintro e w' ⟨rfl, rfl⟩
        go_wp2_with fail
        refine (HC.out _).mono ?_
        rintro e w' ⟨rfl, rfl⟩
        go_wp2_with fail
        go_ret
        exact ⟨ret_int HN2.out.symm, rfl⟩
end Go.Proofs.YteajollkmbnimaaDoor.NumW
