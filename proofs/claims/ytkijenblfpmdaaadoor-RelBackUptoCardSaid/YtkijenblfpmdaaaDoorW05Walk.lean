/-
  Layer 5 (rel), walks: the plain answers To and End: what each returns at texts of at most 2^31 bytes; new memory may be laid, nothing that was there is changed.
-/
import Derived.Test.YtkijenblfpmdaaaDoorW05Math
import Derived.Deep.QuietTactic
import Derived.Deep.RegionWith
import Derived.Deep.RegionHeld3
namespace Go.Proofs.YtkijenblfpmdaaaDoor.W05
open Go Go.RowKit Go.Proofs.YtkijenblfpmdaaaDoor.Strs Go.Proofs.YtkijenblfpmdaaaDoor.M04 Go.Proofs.YtkijenblfpmdaaaDoor.M05
open Go.Proofs.YtkijenblfpmdaaaDoor.W04 (refClean_any refParts_any refJoin_any eq_bytes ne_bytes clean_size ret_under part_bound flat_next flat_all flat_bound)
open Go.Proofs.YtkijenblfpmdaaaDoor.Kit (ret_str ret_bool mk_of mk_bytes ba_ext cat_bytes list_full list_ne list_none list_nil bytes_nil bytes_cons byte_eq byte_ne below_draws on drop_bytes)

/-- the way so far: i parts up -/
theorem flat_up (k : Nat) : (List.replicate k dd).flatMap (fun p => 47 :: p) ++ [47, 46, 46] = (List.replicate (k + 1) dd).flatMap (fun p => 47 :: p) := by
  rw [List.replicate_succ', List.flatMap_append]; rfl
theorem way_flat {a b : List Bytes} {n : Nat} (h : lcp a b = n) : way a b = List.replicate (a.length - n) dd ++ b.drop n := by unfold way; rw [h]
theorem up_next {t : ByteArray} {m : Nat} (h : t.data.toList = (List.replicate m dd).flatMap (fun p => 47 :: p)) : (t ++ ⟨#[47, 46, 46]⟩).data.toList = (List.replicate (m + 1) dd).flatMap (fun p => 47 :: p) := by
  rw [cat_bytes, h, ← flat_up] <;> rfl
theorem dn_next {t p : ByteArray} {R b : List Bytes} {k m : Nat} (hk : k + m < b.length) (hp : p.data.toList = b.getD (k + m) []) (h : t.data.toList = (R ++ (b.drop k).take m).flatMap (fun p => 47 :: p)) : (t ++ (⟨#[47]⟩ ++ p)).data.toList = (R ++ (b.drop k).take (m + 1)).flatMap (fun p => 47 :: p) := by
  have h2 : m < (b.drop k).length := by rw [List.length_drop]; omega
  rw [List.take_succ_eq_append_getElem h2, List.getElem_drop, cat_bytes, cat_bytes, h, hp, ← List.append_assoc, List.flatMap_append]
  have e : b[k + m]'hk = b.getD (k + m) [] := by simp [hk]
  rw [e]; simp <;> rfl
theorem up_len (m : Nat) : ((List.replicate m dd).flatMap (fun p => 47 :: p)).length = 3 * m := by rw [flat_total, total_repl]
theorem dn_len (R b : List Bytes) (k m : Nat) : ((R ++ (b.drop k).take m).flatMap (fun p => 47 :: p)).length ≤ total (R ++ b.drop k) := by
  rw [flat_total, total_append, total_append]
  conv => rhs; rw [← List.take_append_drop m (b.drop k), total_append]
  omega
theorem way_end {t : ByteArray} {L : List Bytes} (h : t.data.toList = L.flatMap (fun p => 47 :: p)) (h0 : ¬ 0 < t.size) : L = [] := by
  rw [bytes_nil h0] at h
  cases L with
  | nil => rfl
  | cons p L => simp at h
theorem way_tail {t : ByteArray} {L : List Bytes} (h : t.data.toList = L.flatMap (fun p => 47 :: p)) (h0 : 0 < t.size) : L ≠ [] ∧ (t.extract 1 t.size).data.toList = slashed L := by
  have hne : L ≠ [] := by
    rintro rfl
    have := Lib.size_eq t
    rw [h] at this
    simp only [List.flatMap_nil, List.length_nil] at this; omega
  refine ⟨hne, ?_⟩
  rw [drop_bytes, h, flat_slashed L hne]; rfl

set_option maxHeartbeats 2000000 in
theorem refTo_any (dir s d : ByteArray) (hd : d.data.toList = to dir.data.toList s.data.toList) (hs : dir.size ≤ 2147483648) (hs2 : s.size ≤ 2147483648) (w : World) :
    Calls Tryd.prog 7 #[.string dir, .string s] w fun e w' => e = .returned (.string d) ∧ Below w.heap.size w w' := by
  obtain ⟨cd, hcd⟩ : ∃ c : ByteArray, c.data.toList = clean dir.data.toList := ⟨⟨(clean dir.data.toList).toArray⟩, rfl⟩
  obtain ⟨cs, hcs⟩ : ∃ c : ByteArray, c.data.toList = clean s.data.toList := ⟨⟨(clean s.data.toList).toArray⟩, rfl⟩
  have z1 := clean_size hcd
  have z2 := clean_size hcs
  have HCD := Lib.hid (refClean_any dir cd hcd (by omega))
  have HCS := Lib.hid (refClean_any s cs hcs (by omega))
  have HPD := Lib.hid (refParts_any cd (by omega))
  have HPS := Lib.hid (refParts_any cs (by omega))
  have HD : Hid (d.data.toList = if way (parts cd.data.toList) (parts cs.data.toList) = [] then [46] else slashed (way (parts cd.data.toList) (parts cs.data.toList))) := by
    show _ = _
    rw [hd, hcd, hcs]; rfl
  have HW : Hid (total (way (parts cd.data.toList) (parts cs.data.toList)) ≤ 8589934608) := by
    show _ ≤ _
    have := way_total dir.data.toList s.data.toList
    rw [hcd, hcs]
    rw [← Lib.size_eq, ← Lib.size_eq] at this
    omega
  have HTA : Hid (total (parts cs.data.toList) ≤ 2147483651) := by
    show _ ≤ _
    have := parts_total cs.data.toList
    rw [← Lib.size_eq] at this
    omega
  clear hd hcd hcs z1 z2
  generalize parts cd.data.toList = a at *
  generalize parts cs.data.toList = b at *
  go_enter Tryd.func7, Tryd.ntmps7
  go_wp2_with fail
  refine (HCD.out _).mono ?_
  rintro e w1 ⟨rfl, hb1⟩
  have B1 := Lib.hid hb1
  clear hb1
  go_wp2_with fail
  refine (HPD.out _).mono ?_
  rintro e w2 ⟨va, rfl, hown2, hb2⟩
  have TA := Lib.hid (Texts.of_own hown2)
  have B2 := Lib.hid (on B1.out hb2)
  clear hown2 hb2
  go_wp2_with fail
  refine (HCS.out _).mono ?_
  rintro e w3 ⟨rfl, hb3⟩
  have TA := Lib.hid ((TA.out.below hb3).more hb3.size)
  have B3 := Lib.hid (on B2.out hb3)
  clear hb3
  go_wp2_with fail
  refine (HPS.out _).mono ?_
  rintro e w4 ⟨vb, rfl, hown4, hb4⟩
  have TA := Lib.hid ((TA.out.below hb4).more hb4.size)
  have TB := Lib.hid (Texts.of_own hown4)
  have B4 := Lib.hid (on B3.out hb4)
  clear hown4 hb4 B1 B2 B3
  obtain ⟨A, ca, rfl, hA1, hA2⟩ := TA.out.form
  obtain ⟨B, cb, rfl, hB1, hB2⟩ := TB.out.form
  unfold maxLen at hA2 hB2
  have HST := Lib.hid (lcp_stop a b)
  have HWF := Lib.hid (fun n => way_flat (a := a) (b := b) (n := n))
  generalize hna : a.length = na at *
  generalize hnb : b.length = nb at *
  have HNA := Lib.hid hna
  have HNB := Lib.hid hnb
  clear hna hnb
  go_wp2_with fail
  go_loopw [7] (fun i wr => ∃ k : Nat, k ≤ na ∧ k ≤ nb ∧ i = .int .i64 k ∧ Hid (∀ j, j < k → a.getD j [] = b.getD j []) ∧ ∃ q, wr = w4.drewN q) (fun i _ => na - (intOf i).toNat)
  case atStart => exact ⟨0, Nat.zero_le _, Nat.zero_le _, rfl, fun j hj => by omega, 0, rfl⟩
  case round =>
    obtain ⟨k, hka, hkb, rfl, hr, q, rfl⟩ := hrel
    by_cases hlt : k < na ∧ k < nb
    · obtain ⟨hla, hlb⟩ := hlt
      obtain ⟨ad, p, rfl, hbl, hc, hp⟩ := TA.out.at_ hla
      obtain ⟨ad2, p2, rfl, hbl2, hc2, hp2⟩ := TB.out.at_ hlb
      by_cases hpp : p.data.toList = p2.data.toList
      · have tp := eq_bytes hpp
        have HX : Hid (∀ j, j < k + 1 → a.getD j [] = b.getD j []) := fun j hj => by
          by_cases e : j = k
          · rw [e, ← hp, ← hp2]; exact hpp
          · exact hr.out j (by omega)
        clear hp hp2 hpp
        go_wp2_with fail
        go_quiet (fail)
        go_wp2_with fail
        go_roundw
        case rel => exact ⟨k + 1, by omega, by omega, by go_num, HX, q + nq, by first | rfl | rw [World.drewN_drewN]⟩
        case measure => simp [intOf]; omega
      · have tp := ne_bytes hpp
        have HN := Lib.hid (HST.out k hr.out hka hkb (fun _ _ => by rw [← hp, ← hp2]; exact hpp))
        clear hp hp2 hpp
        go_wp2_with fail
        go_quiet (fail)
        go_wp2_with fail
        have BW : ∀ m, Below w.heap.size w (w4.drewN m) := fun m => B4.out.trans ((below_draws w4 m).mono B4.out.size)
        have HWY := HWF.out k HN.out
        have HTW : Hid (total (List.replicate (na - k) dd ++ b.drop k) ≤ 8589934608) := by have := HW.out; rw [HWY] at this; exact this
        have HDW : Hid (d.data.toList = if List.replicate (na - k) dd ++ b.drop k = [] then [46] else slashed (List.replicate (na - k) dd ++ b.drop k)) := by have := HD.out; rw [HWY] at this; exact this
        clear HWY
        go_loop [8, 9] (fun o i => ∃ (m : Nat) (t : ByteArray), k + m ≤ na ∧ i = .int .i64 ((k + m : Nat) : Int) ∧ o = .string t ∧ Hid (t.data.toList = (List.replicate m dd).flatMap (fun p => 47 :: p))) (fun _ i => na - (intOf i).toNat)
        case atStart => exact ⟨0, ⟨#[]⟩, by omega, rfl, rfl, rfl⟩
        case round =>
          obtain ⟨m, t, hm, rfl, rfl, ht⟩ := hrel
          have hts : t.size ≤ 8589934608 := by
            have h1 := up_len m
            have h2 := HTW.out
            rw [total_append, total_repl] at h2
            rw [Lib.size_eq, ht.out, h1]; omega
          by_cases hlm : k + m < na
          · have HT3 : Hid (t.data.toList ++ [47, 46, 46] = (List.replicate (m + 1) dd).flatMap (fun p => 47 :: p)) := by show _ = _; rw [ht.out, flat_up]
            have hs3 : (⟨#[47, 46, 46]⟩ : ByteArray).size = 3 := rfl
            go_wp2_with fail
            go_round
            case rel => exact ⟨m + 1, by omega, by omega, HT3⟩
            case measure => simp [intOf]; omega
          · obtain rfl : m = na - k := by omega
            have HT0 : Hid (t.data.toList = (List.replicate (na - k) dd ++ (b.drop k).take 0).flatMap (fun p => 47 :: p)) := by show _ = _; rw [List.take_zero, List.append_nil]; exact ht.out
            go_wp2_with fail
            go_loop [8, 10] (fun o i => ∃ (m : Nat) (t : ByteArray), k + m ≤ nb ∧ i = .int .i64 ((k + m : Nat) : Int) ∧ o = .string t ∧ Hid (t.data.toList = (List.replicate (na - k) dd ++ (b.drop k).take m).flatMap (fun p => 47 :: p))) (fun _ i => nb - (intOf i).toNat)
            case atStart => exact ⟨0, t, by omega, rfl, rfl, HT0⟩
            case round =>
              obtain ⟨m2, t2, hm2, rfl, rfl, ht2⟩ := hrel
              have hts2 : t2.size ≤ 8589934608 := by rw [Lib.size_eq, ht2.out]; exact Nat.le_trans (dn_len _ _ _ _) HTW.out
              by_cases hlm2 : k + m2 < nb
              · obtain ⟨ad3, p3, he3, hbl3, hc3, hp3⟩ := TB.out.at_ hlm2
                cases he3
                have hps3 : p3.size ≤ 2147483651 := by rw [Lib.size_eq, hp3]; exact Nat.le_trans (part_bound (by rw [HNB.out]; exact hlm2)) HTA.out
                have HT2 := Lib.hid (dn_next (R := List.replicate (na - k) dd) (k := k) (m := m2) (by rw [HNB.out]; exact hlm2) hp3 ht2.out)
                clear hp3
                go_wp2_with fail
                go_round
                case rel => exact ⟨m2 + 1, _, by omega, by go_num, rfl, HT2⟩
                case measure => simp [intOf]; omega
              · have HTE : Hid (t2.data.toList = (List.replicate (na - k) dd ++ b.drop k).flatMap (fun p => 47 :: p)) := by
                  have := ht2.out
                  rw [List.take_of_length_le (by rw [List.length_drop, HNB.out]; omega)] at this
                  exact this
                by_cases h0 : 0 < t2.size
                · have hf := list_full h0
                  have hn := list_ne h0
                  have HX := Lib.hid (way_tail HTE.out h0)
                  go_wp2_with fail
                  go_ret
                  exact ⟨ret_str (ba_ext (by rw [HX.out.2, HDW.out, if_neg HX.out.1])), by first | exact BW _ | (rw [World.drewN_drewN]; exact BW _)⟩
                · have hf := list_none h0
                  have hn := list_nil h0
                  have HX := Lib.hid (way_end HTE.out h0)
                  go_wp2_with fail
                  go_ret
                  exact ⟨ret_str (ba_ext (by rw [HDW.out, if_pos HX.out] <;> rfl)), by first | exact BW _ | (rw [World.drewN_drewN]; exact BW _)⟩
    · have HN := Lib.hid (HST.out k hr.out hka hkb (fun h1 h2 => absurd ⟨h1, h2⟩ hlt))
      by_cases hla : k < na
      · have hlb : ¬ k < nb := fun e => hlt ⟨hla, e⟩
        have hg : decide ((k : Int) < (nb : Int)) = false := by simp; omega
        clear hlt
        go_wp2_with fail
        go_quiet (fail)
        go_wp2_with fail
        have BW : ∀ m, Below w.heap.size w (w4.drewN m) := fun m => B4.out.trans ((below_draws w4 m).mono B4.out.size)
        have HWY := HWF.out k HN.out
        have HTW : Hid (total (List.replicate (na - k) dd ++ b.drop k) ≤ 8589934608) := by have := HW.out; rw [HWY] at this; exact this
        have HDW : Hid (d.data.toList = if List.replicate (na - k) dd ++ b.drop k = [] then [46] else slashed (List.replicate (na - k) dd ++ b.drop k)) := by have := HD.out; rw [HWY] at this; exact this
        clear HWY
        go_loop [8, 9] (fun o i => ∃ (m : Nat) (t : ByteArray), k + m ≤ na ∧ i = .int .i64 ((k + m : Nat) : Int) ∧ o = .string t ∧ Hid (t.data.toList = (List.replicate m dd).flatMap (fun p => 47 :: p))) (fun _ i => na - (intOf i).toNat)
        case atStart => exact ⟨0, ⟨#[]⟩, by omega, rfl, rfl, rfl⟩
        case round =>
          obtain ⟨m, t, hm, rfl, rfl, ht⟩ := hrel
          have hts : t.size ≤ 8589934608 := by
            have h1 := up_len m
            have h2 := HTW.out
            rw [total_append, total_repl] at h2
            rw [Lib.size_eq, ht.out, h1]; omega
          by_cases hlm : k + m < na
          · have HT3 : Hid (t.data.toList ++ [47, 46, 46] = (List.replicate (m + 1) dd).flatMap (fun p => 47 :: p)) := by show _ = _; rw [ht.out, flat_up]
            have hs3 : (⟨#[47, 46, 46]⟩ : ByteArray).size = 3 := rfl
            go_wp2_with fail
            go_round
            case rel => exact ⟨m + 1, by omega, by omega, HT3⟩
            case measure => simp [intOf]; omega
          · obtain rfl : m = na - k := by omega
            have HT0 : Hid (t.data.toList = (List.replicate (na - k) dd ++ (b.drop k).take 0).flatMap (fun p => 47 :: p)) := by show _ = _; rw [List.take_zero, List.append_nil]; exact ht.out
            go_wp2_with fail
            go_loop [8, 10] (fun o i => ∃ (m : Nat) (t : ByteArray), k + m ≤ nb ∧ i = .int .i64 ((k + m : Nat) : Int) ∧ o = .string t ∧ Hid (t.data.toList = (List.replicate (na - k) dd ++ (b.drop k).take m).flatMap (fun p => 47 :: p))) (fun _ i => nb - (intOf i).toNat)
            case atStart => exact ⟨0, t, by omega, rfl, rfl, HT0⟩
            case round =>
              obtain ⟨m2, t2, hm2, rfl, rfl, ht2⟩ := hrel
              have hts2 : t2.size ≤ 8589934608 := by rw [Lib.size_eq, ht2.out]; exact Nat.le_trans (dn_len _ _ _ _) HTW.out
              by_cases hlm2 : k + m2 < nb
              · exact absurd hlm2 (by omega)
              · have HTE : Hid (t2.data.toList = (List.replicate (na - k) dd ++ b.drop k).flatMap (fun p => 47 :: p)) := by
                  have := ht2.out
                  rw [List.take_of_length_le (by rw [List.length_drop, HNB.out]; omega)] at this
                  exact this
                by_cases h0 : 0 < t2.size
                · have hf := list_full h0
                  have hn := list_ne h0
                  have HX := Lib.hid (way_tail HTE.out h0)
                  go_wp2_with fail
                  go_ret
                  exact ⟨ret_str (ba_ext (by rw [HX.out.2, HDW.out, if_neg HX.out.1])), by first | exact BW _ | (rw [World.drewN_drewN]; exact BW _)⟩
                · have hf := list_none h0
                  have hn := list_nil h0
                  have HX := Lib.hid (way_end HTE.out h0)
                  go_wp2_with fail
                  go_ret
                  exact ⟨ret_str (ba_ext (by rw [HDW.out, if_pos HX.out] <;> rfl)), by first | exact BW _ | (rw [World.drewN_drewN]; exact BW _)⟩
      · have hg : decide ((k : Int) < (na : Int)) = false := by simp; omega
        clear hlt
        go_wp2_with fail
        go_quiet (fail)
        go_wp2_with fail
        have BW : ∀ m, Below w.heap.size w (w4.drewN m) := fun m => B4.out.trans ((below_draws w4 m).mono B4.out.size)
        have HWY := HWF.out k HN.out
        have HTW : Hid (total (List.replicate (na - k) dd ++ b.drop k) ≤ 8589934608) := by have := HW.out; rw [HWY] at this; exact this
        have HDW : Hid (d.data.toList = if List.replicate (na - k) dd ++ b.drop k = [] then [46] else slashed (List.replicate (na - k) dd ++ b.drop k)) := by have := HD.out; rw [HWY] at this; exact this
        clear HWY
        go_loop [8, 9] (fun o i => ∃ (m : Nat) (t : ByteArray), k + m ≤ na ∧ i = .int .i64 ((k + m : Nat) : Int) ∧ o = .string t ∧ Hid (t.data.toList = (List.replicate m dd).flatMap (fun p => 47 :: p))) (fun _ i => na - (intOf i).toNat)
        case atStart => exact ⟨0, ⟨#[]⟩, by omega, rfl, rfl, rfl⟩
        case round =>
          obtain ⟨m, t, hm, rfl, rfl, ht⟩ := hrel
          have hts : t.size ≤ 8589934608 := by
            have h1 := up_len m
            have h2 := HTW.out
            rw [total_append, total_repl] at h2
            rw [Lib.size_eq, ht.out, h1]; omega
          by_cases hlm : k + m < na
          · exact absurd hlm (by omega)
          · obtain rfl : m = na - k := by omega
            have HT0 : Hid (t.data.toList = (List.replicate (na - k) dd ++ (b.drop k).take 0).flatMap (fun p => 47 :: p)) := by show _ = _; rw [List.take_zero, List.append_nil]; exact ht.out
            go_wp2_with fail
            go_loop [8, 10] (fun o i => ∃ (m : Nat) (t : ByteArray), k + m ≤ nb ∧ i = .int .i64 ((k + m : Nat) : Int) ∧ o = .string t ∧ Hid (t.data.toList = (List.replicate (na - k) dd ++ (b.drop k).take m).flatMap (fun p => 47 :: p))) (fun _ i => nb - (intOf i).toNat)
            case atStart => exact ⟨0, t, by omega, rfl, rfl, HT0⟩
            case round =>
              obtain ⟨m2, t2, hm2, rfl, rfl, ht2⟩ := hrel
              have hts2 : t2.size ≤ 8589934608 := by rw [Lib.size_eq, ht2.out]; exact Nat.le_trans (dn_len _ _ _ _) HTW.out
              by_cases hlm2 : k + m2 < nb
              · obtain ⟨ad3, p3, he3, hbl3, hc3, hp3⟩ := TB.out.at_ hlm2
                cases he3
                have hps3 : p3.size ≤ 2147483651 := by rw [Lib.size_eq, hp3]; exact Nat.le_trans (part_bound (by rw [HNB.out]; exact hlm2)) HTA.out
                have HT2 := Lib.hid (dn_next (R := List.replicate (na - k) dd) (k := k) (m := m2) (by rw [HNB.out]; exact hlm2) hp3 ht2.out)
                clear hp3
                go_wp2_with fail
                go_round
                case rel => exact ⟨m2 + 1, _, by omega, by go_num, rfl, HT2⟩
                case measure => simp [intOf]; omega
              · have HTE : Hid (t2.data.toList = (List.replicate (na - k) dd ++ b.drop k).flatMap (fun p => 47 :: p)) := by
                  have := ht2.out
                  rw [List.take_of_length_le (by rw [List.length_drop, HNB.out]; omega)] at this
                  exact this
                by_cases h0 : 0 < t2.size
                · have hf := list_full h0
                  have hn := list_ne h0
                  have HX := Lib.hid (way_tail HTE.out h0)
                  go_wp2_with fail
                  go_ret
                  exact ⟨ret_str (ba_ext (by rw [HX.out.2, HDW.out, if_neg HX.out.1])), by first | exact BW _ | (rw [World.drewN_drewN]; exact BW _)⟩
                · have hf := list_none h0
                  have hn := list_nil h0
                  have HX := Lib.hid (way_end HTE.out h0)
                  go_wp2_with fail
                  go_ret
                  exact ⟨ret_str (ba_ext (by rw [HDW.out, if_pos HX.out] <;> rfl)), by first | exact BW _ | (rw [World.drewN_drewN]; exact BW _)⟩

/-! ### End -/
theorem rel_none {t : ByteArray} (h : ¬ 0 < t.size) : rel t.data.toList = false := by rw [bytes_nil h]; rfl
theorem rel_some {t : ByteArray} (h : 0 < t.size) : rel t.data.toList = decide (t[0] ≠ 47) := by
  rw [bytes_cons h]
  simp [rel]
set_option maxHeartbeats 400000 in
theorem refEnd_any (dir t d : ByteArray) (hd : d.data.toList = join dir.data.toList t.data.toList) (hs : dir.size + t.size < 1099511627776) (w : World) :
    Calls Tryd.prog 6 #[.string dir, .string t] w fun e w' => e = .returned (.tuple #[.string d, .bool (rel t.data.toList)]) ∧ Below w.heap.size w w' := by
  have HJ := Lib.hid (refJoin_any dir t d hd hs)
  clear hd
  by_cases h0 : 0 < t.size
  · have hf := list_full h0
    have hn := list_ne h0
    by_cases h47 : (t[0].toNat : Int) = 47
    · have HR : Hid (rel t.data.toList = false) := by show _ = _; rw [rel_some h0, byte_eq (d := 47) h47]; rfl
      have t47 : ((t[0].toNat : Int) != 47) = false := by simp [h47]
      generalize rel t.data.toList = r at *
      clear h47
      obtain rfl : r = false := HR.out
      go_enter Tryd.func6, Tryd.ntmps6
      go_wp2_with fail
      go_region_with (refine (HJ.out _).mono ?_; rintro e w1 ⟨rfl, hb⟩)
      all_goals (go_wp2_with fail; go_ret2)
      all_goals exact ⟨rfl, on (below_draws w 1) hb⟩
    · have HR : Hid (rel t.data.toList = true) := by show _ = _; rw [rel_some h0]; simpa using byte_ne (d := 47) h47
      have t47 : ((t[0].toNat : Int) != 47) = true := by simp [h47]
      generalize rel t.data.toList = r at *
      clear h47
      obtain rfl : r = true := HR.out
      go_enter Tryd.func6, Tryd.ntmps6
      go_wp2_with fail
      go_region_with (refine (HJ.out _).mono ?_; rintro e w1 ⟨rfl, hb⟩)
      all_goals (go_wp2_with fail; go_ret2)
      all_goals exact ⟨rfl, on (below_draws w 1) hb⟩
  · obtain rfl : t = ⟨#[]⟩ := ba_ext (bytes_nil h0)
    show Calls _ _ _ _ fun e w' => e = .returned (.tuple #[.string d, .bool false]) ∧ Below w.heap.size w w'
    clear h0
    go_enter Tryd.func6, Tryd.ntmps6
    go_wp2_with fail
    first
      | go_region_with (refine (HJ.out _).mono ?_; rintro e w1 ⟨rfl, hb⟩)
      | fail
    all_goals (go_wp2_with fail; go_ret2)
    all_goals exact ⟨rfl, on (below_draws w 1) hb⟩
end Go.Proofs.YtkijenblfpmdaaaDoor.W05
