/-
  Layer 18 (dots): ways: the document's own Way and the program's. The conditions stand in the statements.
-/
import Derived.Test.YtoahbkmngmapaaaDoorW18Walk
import Derived.Test.YtoahbkmngmapaaaDoorW04Walk
import Derived.Test.YtoahbkmngmapaaaDoorLibJoin
namespace Go.Proofs.YtoahbkmngmapaaaDoor.W18
set_option maxRecDepth 100000
open Go Go.RowKit Go.Proofs.YtoahbkmngmapaaaDoor.M18 Go.Proofs.YtoahbkmngmapaaaDoor.Strs
open Go.Proofs.YtoahbkmngmapaaaDoor.M04 (parts slashed total parts_total total_cons parts_count)
open Go.Proofs.YtoahbkmngmapaaaDoor.W04 (sofar sofar_first sofar_more sofar_zero sofar_end sofar_len slashed_len Makes refParts_any parts_makes)
open Go.Proofs.YtoahbkmngmapaaaDoor.Kit (ret_str ret_bool mk_of mk_bytes ba_ext cat_bytes on below_draws)

/-- a part, as it is meant -/
def way (o : Bool) (l : Bytes) : Bytes := if o = true then toP l else l
theorem way_len (o : Bool) (l : Bytes) : (way o l).length ≤ l.length := by
  unfold way
  split
  · exact to_len l
  · exact Nat.le_refl _
theorem way_total (o : Bool) : ∀ L : List Bytes, total (L.map (way o)) ≤ total L
  | [] => Nat.le_refl _
  | p :: L => by
    have h1 := way_total o L
    have h2 := way_len o p
    rw [List.map_cons, total_cons, total_cons]; omega
theorem way_at (o : Bool) {L : List Bytes} {k : Nat} (h : k < L.length) : (L.map (way o)).getD k [] = way o (L.getD k []) := by
  simp [List.getD_eq_getElem?_getD, h]
theorem part_size {L : List Bytes} {k : Nat} (hk : k < L.length) : (L.getD k []).length ≤ total L := by
  induction L generalizing k with
  | nil => simp at hk
  | cons a L ih =>
    rw [total_cons]
    cases k with
    | zero => show a.length ≤ _; omega
    | succ k => have := ih (k := k) (by simpa using hk); show (L.getD k []).length ≤ _; omega
theorem far_first (o : Bool) {L : List Bytes} (h : 0 < L.length) : sofar (L.map (way o)) 0 1 = way o (L.getD 0 []) := by
  rw [← way_at o h]; exact sofar_first (by rw [List.length_map]; exact h)
theorem far_more (o : Bool) {L : List Bytes} {k : Nat} (h : 0 < k) (hk : k < L.length) : sofar (L.map (way o)) 0 (k + 1) = sofar (L.map (way o)) 0 k ++ 47 :: way o (L.getD k []) := by
  rw [← way_at o hk]; exact sofar_more h (by rw [List.length_map]; exact hk)
theorem far_end (o : Bool) {L : List Bytes} {k : Nat} (h : ¬ k < L.length) : sofar (L.map (way o)) 0 k = slashed (L.map (way o)) := by
  rw [sofar_end (by rw [List.length_map]; exact h), List.drop_zero]
theorem far_len (o : Bool) (L : List Bytes) (k : Nat) : (sofar (L.map (way o)) 0 k).length ≤ total L := Nat.le_trans (sofar_len _ _ _) (way_total o L)
theorem slashed_way (o : Bool) (L : List Bytes) : (slashed (L.map (way o))).length ≤ total L := Nat.le_trans (slashed_len _) (way_total o L)

set_option maxHeartbeats 2000000 in
theorem refWay_on {s d : ByteArray} {w : World} (hd : d.data.toList = slashed ((parts s.data.toList).map (way true))) (hs : s.size ≤ 1099511627776) :
    Calls Tryd.prog 6 #[.string s, .bool true] w fun e w' => e = .returned (.string d) ∧ Below w.heap.size w w' := by
  have HPS := Lib.hid (refParts_any s hs)
  have HL : Hid (total (parts s.data.toList) ≤ 1099511627777) := by
    show _ ≤ _
    have h2 := parts_total s.data.toList
    rw [← Lib.size_eq] at h2
    omega
  have HD := Lib.hid hd
  have HT : Hid (∀ (p q : ByteArray) (w : World), q.data.toList = toP p.data.toList → p.size ≤ 9223372036854775807 → Calls Tryd.prog 4 #[.string p] w fun e w' => e = .returned (.string q) ∧ w' = w) := fun p q w h1 h2 => refTo_any h1 h2
  clear hd
  generalize parts s.data.toList = a at *
  go_enter Tryd.func6, Tryd.ntmps6
  go_wp2_with fail
  refine (HPS.out _).mono ?_
  rintro e w1 ⟨v, rfl, hown1, hb1⟩
  have T1 := Lib.hid (Texts.of_own hown1)
  have B1 := Lib.hid hb1
  clear hown1 hb1
  obtain ⟨A, ca, rfl, hA1, hA2⟩ := T1.out.form
  unfold maxLen at hA2
  generalize hna : a.length = na at *
  have HNA := Lib.hid hna
  clear hna
  go_wp2_with fail
  go_loop [6, 7] (fun o i => ∃ (k : Nat) (t : ByteArray), k ≤ na ∧ i = .int .i64 k ∧ o = .string t ∧ Hid (t.data.toList = sofar (a.map (way true)) 0 k)) (fun _ i => na - (intOf i).toNat)
  case atStart => exact ⟨0, ⟨#[]⟩, Nat.zero_le _, rfl, rfl, (sofar_zero _ 0).symm⟩
  case round =>
    obtain ⟨k, t, hk, rfl, rfl, ht⟩ := hrel
    have hts : t.size ≤ 1099511627777 := by rw [Lib.size_eq, ht.out]; exact Nat.le_trans (far_len true a k) HL.out
    by_cases hlt : k < na
    · obtain ⟨ad, p, rfl, hbl, hc, hp⟩ := T1.out.at_ hlt
      obtain ⟨q, hq⟩ : ∃ q : ByteArray, q.data.toList = toP p.data.toList := ⟨⟨(toP p.data.toList).toArray⟩, rfl⟩
      have hps : p.size ≤ 1099511627777 := by rw [Lib.size_eq, hp]; exact Nat.le_trans (part_size (by rw [HNA.out]; exact hlt)) HL.out
      have hqs : q.size ≤ 1099511627777 := by have := to_len p.data.toList; rw [← hq, ← Lib.size_eq, ← Lib.size_eq] at this; omega
      have HQ := Lib.hid (HT.out p q w1 hq (by omega))
      have HE : Hid (q.data.toList = way true (a.getD k [])) := by show _ = _; rw [hq, hp]; rfl
      clear hp hq
      by_cases h0 : 0 < k
      · have HX : Hid ((t ++ ⟨#[47]⟩ ++ q).data.toList = sofar (a.map (way true)) 0 (k + 1)) := by
          show _ = _
          rw [cat_bytes, cat_bytes, ht.out, far_more true h0 (by rw [HNA.out]; exact hlt), HE.out, List.append_assoc]; rfl
        go_wp2_with fail
        refine HQ.out.mono ?_
        rintro e w2 ⟨rfl, rfl⟩
        go_wp2_with fail
        go_round
        case rel => exact ⟨k + 1, _, by omega, by go_num, rfl, HX⟩
        case measure => simp [intOf]; omega
      · have HX : Hid ((t ++ q).data.toList = sofar (a.map (way true)) 0 (k + 1)) := by
          have hk0 : k = 0 := by omega
          show _ = _
          rw [cat_bytes, ht.out, hk0, sofar_zero, far_first true (by rw [HNA.out]; omega), HE.out, hk0]; rfl
        go_wp2_with fail
        refine HQ.out.mono ?_
        rintro e w2 ⟨rfl, rfl⟩
        go_wp2_with fail
        go_round
        case rel => exact ⟨k + 1, _, by omega, by go_num, rfl, HX⟩
        case measure => simp [intOf]; omega
    · have HE := Lib.hid (far_end true (L := a) (k := k) (by rw [HNA.out]; exact hlt))
      go_wp2_with fail
      go_ret
      exact ⟨ret_str (ba_ext (by rw [HD.out, ht.out, HE.out])), B1.out⟩
set_option maxHeartbeats 2000000 in
theorem refWay_off {s d : ByteArray} {w : World} (hd : d.data.toList = slashed ((parts s.data.toList).map (way false))) (hs : s.size ≤ 1099511627776) :
    Calls Tryd.prog 6 #[.string s, .bool false] w fun e w' => e = .returned (.string d) ∧ Below w.heap.size w w' := by
  have HPS := Lib.hid (refParts_any s hs)
  have HL : Hid (total (parts s.data.toList) ≤ 1099511627777) := by
    show _ ≤ _
    have h2 := parts_total s.data.toList
    rw [← Lib.size_eq] at h2
    omega
  have HD := Lib.hid hd
  clear hd
  generalize parts s.data.toList = a at *
  go_enter Tryd.func6, Tryd.ntmps6
  go_wp2_with fail
  refine (HPS.out _).mono ?_
  rintro e w1 ⟨v, rfl, hown1, hb1⟩
  have T1 := Lib.hid (Texts.of_own hown1)
  have B1 := Lib.hid hb1
  clear hown1 hb1
  obtain ⟨A, ca, rfl, hA1, hA2⟩ := T1.out.form
  unfold maxLen at hA2
  generalize hna : a.length = na at *
  have HNA := Lib.hid hna
  clear hna
  go_wp2_with fail
  go_loop [6, 7] (fun o i => ∃ (k : Nat) (t : ByteArray), k ≤ na ∧ i = .int .i64 k ∧ o = .string t ∧ Hid (t.data.toList = sofar (a.map (way false)) 0 k)) (fun _ i => na - (intOf i).toNat)
  case atStart => exact ⟨0, ⟨#[]⟩, Nat.zero_le _, rfl, rfl, (sofar_zero _ 0).symm⟩
  case round =>
    obtain ⟨k, t, hk, rfl, rfl, ht⟩ := hrel
    have hts : t.size ≤ 1099511627777 := by rw [Lib.size_eq, ht.out]; exact Nat.le_trans (far_len false a k) HL.out
    by_cases hlt : k < na
    · obtain ⟨ad, p, rfl, hbl, hc, hp⟩ := T1.out.at_ hlt
      have hps : p.size ≤ 1099511627777 := by rw [Lib.size_eq, hp]; exact Nat.le_trans (part_size (by rw [HNA.out]; exact hlt)) HL.out
      have HE : Hid (p.data.toList = way false (a.getD k [])) := hp
      clear hp
      by_cases h0 : 0 < k
      · have HX : Hid ((t ++ ⟨#[47]⟩ ++ p).data.toList = sofar (a.map (way false)) 0 (k + 1)) := by
          show _ = _
          rw [cat_bytes, cat_bytes, ht.out, far_more false h0 (by rw [HNA.out]; exact hlt), HE.out, List.append_assoc]; rfl
        go_wp2_with fail
        go_round
        case rel => exact ⟨k + 1, _, by omega, by go_num, rfl, HX⟩
        case measure => simp [intOf]; omega
      · have HX : Hid ((t ++ p).data.toList = sofar (a.map (way false)) 0 (k + 1)) := by
          have hk0 : k = 0 := by omega
          show _ = _
          rw [cat_bytes, ht.out, hk0, sofar_zero, far_first false (by rw [HNA.out]; omega), HE.out, hk0]; rfl
        go_wp2_with fail
        go_round
        case rel => exact ⟨k + 1, _, by omega, by go_num, rfl, HX⟩
        case measure => simp [intOf]; omega
    · have HE := Lib.hid (far_end false (L := a) (k := k) (by rw [HNA.out]; exact hlt))
      go_wp2_with fail
      go_ret
      exact ⟨ret_str (ba_ext (by rw [HD.out, ht.out, HE.out])), B1.out⟩
end Go.Proofs.YtoahbkmngmapaaaDoor.W18
