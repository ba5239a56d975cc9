/-
  Layer 5 (rel), walks: what the landed program's alike, way, To, Steps, End and Same return, at texts of at most 2^29 bytes; nothing that was there is changed.
-/
import Derived.Test.YtkijenblfpmdaaaDoorW05Walk
import Derived.Test.YtkijenblfpmdaaaDoorW04Use
import Derived.Test.YtkijenblfpmdaaaDoorW04Code
import Derived.Test.YtkijenblfpmdaaaDoorLibJoin
import Derived.Test.YtkijenblfpmdaaaDoorLibRepeat
namespace Go.Proofs.YtkijenblfpmdaaaDoor.W05
open Go Go.RowKit Go.Proofs.YtkijenblfpmdaaaDoor.Strs Go.Proofs.YtkijenblfpmdaaaDoor.M04 Go.Proofs.YtkijenblfpmdaaaDoor.M05
open Go.Proofs.YtkijenblfpmdaaaDoor.W04 (refParts_hands refParts_any Hands text_of size_of eq_bytes ne_bytes clean_at clean_size parts_any join_at slashed_len)
open Go.Proofs.YtkijenblfpmdaaaDoor.Kit (ret_str ret_bool ret_int mk_of mk_bytes ba_ext below_draws on list_full list_ne list_none list_nil bytes_nil bytes_cons byte_eq byte_ne)

/-- do two ways end at one place? -/
def sameEnd (dir a b : Bytes) : Bool := decide (join dir a = join dir b) && (rel a == rel b)
theorem beq_text (a b : ByteArray) : (a.toList == b.toList) = decide (a.data.toList = b.data.toList) := by
  rw [Lib.toList_data, Lib.toList_data]
  by_cases h : a.data.toList = b.data.toList
  · simp [h]
  · rw [decide_eq_false h, beq_eq_false_iff_ne]; exact h
set_option maxHeartbeats 1000000 in
theorem alike_any (va vb : Value) (a b : List Bytes) (w : World) (TA : Texts w.heap.size w va a) (TB : Texts w.heap.size w vb b) : Calls Tryd.prog 25 #[va, vb] w fun e w' => e = .returned (.int .i64 (lcp a b : Nat)) ∧ ∃ q, w' = w.drewN q := by
  obtain ⟨A, ca, rfl, hA1, hA2⟩ := TA.form
  obtain ⟨B, cb, rfl, hB1, hB2⟩ := TB.form
  unfold maxLen at hA2 hB2
  have TA := Lib.hid TA
  have TB := Lib.hid TB
  have HST := Lib.hid (lcp_stop a b)
  generalize lcp a b = r at *
  obtain ⟨n, hn, hna, hnb, hnx⟩ : ∃ n, n = min a.length b.length ∧ n ≤ a.length ∧ n ≤ b.length ∧ (n = a.length ∨ n = b.length) := ⟨_, rfl, by omega, by omega, by omega⟩
  have hmin : min (a.length : Int) (b.length : Int) = (n : Int) := by omega
  clear hn
  go_enter Tryd.func25, Tryd.ntmps25
  go_wp2_with fail
  go_loopw [13] (fun i wr => ∃ k : Nat, k ≤ n ∧ i = .int .i64 k ∧ Hid (∀ j, j < k → a.getD j [] = b.getD j []) ∧ ∃ q, wr = w.drewN q) (fun i _ => n - (intOf i).toNat)
  case atStart => exact ⟨0, Nat.zero_le _, rfl, fun j hj => by omega, 0, rfl⟩
  case round =>
    obtain ⟨k, hk, rfl, hr, q, rfl⟩ := hrel
    by_cases hlt : k < n
    · obtain ⟨ad, p, rfl, hbl, hc, hp⟩ := TA.out.at_ (k := k) (by omega)
      obtain ⟨ad2, p2, rfl, hbl2, hc2, hp2⟩ := TB.out.at_ (k := k) (by omega)
      have hlA : decide ((k : Int) < (a.length : Int)) = true := by simp; omega
      have hlB : decide ((k : Int) < (b.length : Int)) = true := by simp; omega
      have tl : decide ((k : Int) < (n : Int)) = true := by simp; omega
      by_cases hpp : p.data.toList = p2.data.toList
      · have tp := eq_bytes hpp
        have HX : Hid (∀ j, j < k + 1 → a.getD j [] = b.getD j []) := fun j hj => by
          by_cases e : j = k
          · rw [e, ← hp, ← hp2]; exact hpp
          · exact hr.out j (by omega)
        clear hp hp2 hpp
        go_wp2_with fail
        go_quiet (fail)
        go_wp2_with fail
        go_roundw
        case rel => exact ⟨k + 1, by omega, by go_num, HX, q + nq, by first | rfl | rw [World.drewN_drewN]⟩
        case measure => simp [intOf]; omega
      · have tp := ne_bytes hpp
        have HN := Lib.hid (HST.out k hr.out (by omega) (by omega) (fun _ _ => by rw [← hp, ← hp2]; exact hpp))
        clear hp hp2 hpp
        go_wp2_with fail
        go_quiet (fail)
        go_wp2_with fail
        go_ret
        exact ⟨ret_int (by rw [HN.out]), _, by first | rfl | rw [World.drewN_drewN]⟩
    · obtain rfl : k = n := by omega
      have HN := Lib.hid (HST.out k hr.out (by omega) (by omega) (fun h1 h2 => by omega))
      go_wp2_with fail
      go_ret
      exact ⟨ret_int (by rw [HN.out]), _, rfl⟩
/-- what way returns -/
def Goes (w : World) (n : Nat) (L : List Bytes) (e : Ending) (w' : World) : Prop := ∃ v, e = .returned (.tuple #[.int .i64 (n : Int), v]) ∧ Texts w'.heap.size w' v L ∧ Below w.heap.size w w'
set_option maxHeartbeats 1000000 in
theorem way_any (dir s : ByteArray) (hs : dir.size ≤ 1073741824) (hs2 : s.size ≤ 1073741824) (w : World) :
    Calls Tryd.prog 18 #[.string dir, .string s] w (Goes w ((parts (clean dir.data.toList)).length - lcp (parts (clean dir.data.toList)) (parts (clean s.data.toList))) ((parts (clean s.data.toList)).drop (lcp (parts (clean dir.data.toList)) (parts (clean s.data.toList))))) := by
  obtain ⟨cd, hcd⟩ := text_of (clean dir.data.toList)
  obtain ⟨cs, hcs⟩ := text_of (clean s.data.toList)
  have z1 := clean_size hcd
  have z2 := clean_size hcs
  have HCD := Lib.hid (clean_at dir cd hcd (by omega))
  have HCS := Lib.hid (clean_at s cs hcs (by omega))
  have HPD := Lib.hid (parts_any cd (by omega))
  have HPS := Lib.hid (parts_any cs (by omega))
  rw [← hcd, ← hcs]
  clear hcd hcs z1 z2
  generalize parts cd.data.toList = a at *
  generalize parts cs.data.toList = b at *
  have hla := lcp_left a b
  have hlb := lcp_right a b
  have HAL := Lib.hid (fun va vb (w : World) => alike_any va vb a b w)
  generalize lcp a b = n at *
  go_enter Tryd.func18, Tryd.ntmps18
  go_wp2_with fail
  refine (HCD.out _).mono ?_
  rintro e w1 ⟨rfl, hb1⟩
  have B1 := Lib.hid hb1
  clear hb1
  go_wp2_with fail
  refine (HPD.out _).mono ?_
  rintro e w2 ⟨va, rfl, ht, hb2⟩
  have TA := Lib.hid ht
  have B2 := Lib.hid (on B1.out hb2)
  clear ht hb2 B1
  go_wp2_with fail
  refine (HCS.out _).mono ?_
  rintro e w3 ⟨rfl, hb3⟩
  have TA := Lib.hid ((TA.out.below hb3).more hb3.size)
  have B3 := Lib.hid (on B2.out hb3)
  clear hb3 B2
  go_wp2_with fail
  refine (HPS.out _).mono ?_
  rintro e w4 ⟨vb, rfl, ht, hb4⟩
  have TA := Lib.hid ((TA.out.below hb4).more hb4.size)
  have TB := Lib.hid ht
  have B4 := Lib.hid (on B3.out hb4)
  clear ht hb4 B3
  go_wp2_with fail
  refine (HAL.out _ _ _ TA.out TB.out).mono ?_
  rintro e w5 ⟨rfl, q, rfl⟩
  obtain ⟨A, ca, rfl, hA1, hA2⟩ := TA.out.form
  obtain ⟨B, cb, rfl, hB1, hB2⟩ := TB.out.form
  unfold maxLen at hA2 hB2
  have hsub : (a.length : Int) - (n : Int) = ((a.length - n : Nat) : Int) := by omega
  go_wp2_with fail
  go_quiet (fail)
  go_wp2_with fail
  all_goals go_ret2
  · obtain rfl : cb = n := by omega
    exact ⟨_, rfl, TB.out.drop_all hlb, B4.out.trans ((below_draws w4 _).mono B4.out.size)⟩
  · exact ⟨_, rfl, TB.out.drop hlb, B4.out.trans ((below_draws w4 _).mono B4.out.size)⟩
theorem steps_any (dir s : ByteArray) (hs : dir.size ≤ 536870912) (hs2 : s.size ≤ 536870912) (w : World) : Calls Tryd.prog 10 #[.string dir, .string s] w fun e w' => e = .returned (.int .i64 (steps dir.data.toList s.data.toList : Nat)) ∧ Below w.heap.size w w' := by
  have H := Lib.hid (way_any dir s (by omega) (by omega))
  have HB : Hid (steps dir.data.toList s.data.toList ≤ 4294967296) := by
    show _ ≤ _
    have h1 := way_total dir.data.toList s.data.toList
    have h2 := total_len (way (parts (clean dir.data.toList)) (parts (clean s.data.toList)))
    unfold steps
    rw [← Lib.size_eq, ← Lib.size_eq] at h1
    omega
  have HS : Hid (steps dir.data.toList s.data.toList = ((parts (clean dir.data.toList)).length - lcp (parts (clean dir.data.toList)) (parts (clean s.data.toList))) + ((parts (clean s.data.toList)).drop (lcp (parts (clean dir.data.toList)) (parts (clean s.data.toList)))).length) := by
    show _ = _
    unfold steps way
    rw [List.length_append, List.length_replicate]
  generalize (parts (clean dir.data.toList)).length - lcp (parts (clean dir.data.toList)) (parts (clean s.data.toList)) = n at *
  generalize (parts (clean s.data.toList)).drop (lcp (parts (clean dir.data.toList)) (parts (clean s.data.toList))) = L at *
  generalize steps dir.data.toList s.data.toList = r at *
  obtain rfl := HS.out
  go_enter Tryd.func10, Tryd.ntmps10
  go_wp2_with fail
  refine (H.out _).mono ?_
  rintro e w1 ⟨v, rfl, ht, hb1⟩
  have B1 := Lib.hid hb1
  clear hb1
  obtain ⟨A, c, rfl, h1, h2⟩ := ht.form
  clear ht
  have hr := HB.out
  go_wp2_with fail
  go_ret
  exact ⟨ret_int (by simp), B1.out⟩
theorem mul_one (n : Nat) (w : World) (h : n < 18446744073709551616) : Calls Tryd.prog 29 #[.int .u64 1, .int .u64 n] w fun e w' => e = .returned (.tuple #[.int .u64 0, .int .u64 n]) ∧ w' = w := by
  have := Tryd.bits_Mul 1 n (by omega) h w
  rw [Nat.one_mul, Nat.div_eq_of_lt h, Nat.mod_eq_of_lt h] at this
  exact this
theorem texts_none {B : Nat} {w : World} {n c : Nat} {L : List Bytes} (h : Texts B w (.slice none n c) L) : L = [] ∧ n = 0 := by
  obtain ⟨hn, h1, h2⟩ := h.count
  obtain ⟨A', c', e, h3, h4, h5⟩ := h
  cases e
  rcases Nat.eq_zero_or_pos L.length with h | h
  · exact ⟨List.length_eq_zero_iff.1 h, h⟩
  · obtain ⟨ad, e, -⟩ := h5 h
    cases e
theorem texts_cells {B : Nat} {w : World} {ad : Addr} {n c : Nat} {L : List Bytes} (h : Texts B w (.slice (some ad) n c) L) : ∀ j u, (L.map strV)[j]? = some u → w.cell? (ad.add j) = some u := by
  intro j u hj
  obtain ⟨A', c', e, h3, h4, h5⟩ := h
  cases e
  rw [List.getElem?_map] at hj
  obtain ⟨l, hl, rfl⟩ := Option.map_eq_some_iff.1 hj
  have hj2 := (List.getElem?_eq_some_iff.1 hl).1
  obtain ⟨ad', e, -, hc⟩ := h5 (by omega)
  cases e
  have := hc j hj2
  rw [List.getD_eq_getElem?_getD, hl] at this
  exact this
theorem strs_one (L : List Bytes) : ∀ u ∈ L.map strV, u.oneCell' = true := by
  intro u hu
  obtain ⟨l, -, rfl⟩ := List.mem_map.1 hu
  rfl
/-- what is gone on with: two points n times, then the parts of L -/
theorem cells_texts {n : Nat} {L : List Bytes} : List.replicate n (Value.string ⟨#[46, 46]⟩) ++ L.map strV = (List.replicate n dd ++ L).map strV := by
  rw [List.map_append, List.map_replicate]; rfl
set_option maxHeartbeats 1000000 in
theorem to_at (dir s d : ByteArray) (hd : d.data.toList = to dir.data.toList s.data.toList) (hs : dir.size ≤ 536870912) (hs2 : s.size ≤ 536870912) (w : World) : Calls Tryd.prog 9 #[.string dir, .string s] w fun e w' => e = .returned (.string d) ∧ Below w.heap.size w w' := by
  obtain ⟨i0, hi, hz0, hz1, hz2⟩ := info_parts text_info
  have H := Lib.hid (way_any dir s (by omega) (by omega))
  have HT : Hid ((way (parts (clean dir.data.toList)) (parts (clean s.data.toList))).length ≤ 4294967296 ∧ (slashed (way (parts (clean dir.data.toList)) (parts (clean s.data.toList)))).length ≤ 8589934592) := by
    show _ ∧ _
    have h1 := way_total dir.data.toList s.data.toList
    have h2 := total_len (way (parts (clean dir.data.toList)) (parts (clean s.data.toList)))
    have h3 := slashed_len (way (parts (clean dir.data.toList)) (parts (clean s.data.toList)))
    rw [← Lib.size_eq, ← Lib.size_eq] at h1
    omega
  have HD : Hid (d.data.toList = if way (parts (clean dir.data.toList)) (parts (clean s.data.toList)) = [] then [46] else slashed (way (parts (clean dir.data.toList)) (parts (clean s.data.toList)))) := hd
  have HW : Hid (way (parts (clean dir.data.toList)) (parts (clean s.data.toList)) = List.replicate ((parts (clean dir.data.toList)).length - lcp (parts (clean dir.data.toList)) (parts (clean s.data.toList))) dd ++ (parts (clean s.data.toList)).drop (lcp (parts (clean dir.data.toList)) (parts (clean s.data.toList)))) := rfl
  clear hd
  generalize (parts (clean dir.data.toList)).length - lcp (parts (clean dir.data.toList)) (parts (clean s.data.toList)) = n at *
  generalize (parts (clean s.data.toList)).drop (lcp (parts (clean dir.data.toList)) (parts (clean s.data.toList))) = L at *
  generalize way (parts (clean dir.data.toList)) (parts (clean s.data.toList)) = X at *
  obtain rfl := HW.out
  have hlen : n + L.length ≤ 4294967296 := by have := HT.out.1; rw [List.length_append, List.length_replicate] at this; exact this
  go_enter Tryd.func9, Tryd.ntmps9
  by_cases h0 : n = 0 ∧ L = []
  · obtain ⟨rfl, rfl⟩ := h0
    go_wp2_with fail
    refine (H.out _).mono ?_
    rintro e w1 ⟨v, rfl, ht, hb1⟩
    have B1 := Lib.hid hb1
    clear hb1
    obtain ⟨A, c, rfl, h1, h2⟩ := ht.form
    clear ht
    go_wp2_with fail
    go_ret
    exact ⟨ret_str (ba_ext HD.out.symm), B1.out⟩
  · have HDE : Hid (d.data.toList = slashed (List.replicate n dd ++ L)) := by
      show _ = _
      rw [HD.out, if_neg]
      intro e
      rw [List.append_eq_nil_iff, List.replicate_eq_nil_iff] at e
      exact h0 e
    have hL : n = 0 → 0 < L.length := fun e => by
      rcases Nat.eq_zero_or_pos L.length with h | h
      · exact absurd ⟨e, List.length_eq_zero_iff.1 h⟩ h0
      · exact h
    have HJ := Lib.hid (fun (v : Value) (w : World) (h : Texts w.heap.size w v (List.replicate n dd ++ L)) => join_texts v _ d w h HDE.out (by have := HT.out.1; omega) (by have := HT.out.2; omega))
    go_wp2_with fail
    refine (H.out _).mono ?_
    rintro e w1 ⟨v, rfl, ht, hb1⟩
    have B1 := Lib.hid hb1
    clear hb1
    obtain ⟨A, c, rfl, h1, h2⟩ := ht.form
    have TL := Lib.hid ht
    clear ht
    have HRP := Lib.hid (fun (g : Nat) (W : World) (hcell : W.cell? ⟨g, 0, none⟩ = some (.string ⟨#[46, 46]⟩)) (hg : g < W.heap.size) => repeat_one mul_one ⟨g, 0, none⟩ ⟨#[46, 46]⟩ 1 n W hcell hg (by omega))
    rcases Nat.eq_zero_or_pos n with hn0 | hn0
    all_goals (
      try (have hl0 := hL hn0; have hl1 : ((L.length : Int) == 0) = false := beq_eq_false_iff_ne.2 (by omega))
      try (have hl1 : ((n : Int) == 0) = false := beq_eq_false_iff_ne.2 (by omega))
      try subst hn0
      go_wp2_with fail
      have hcell : (w1.alloc (.cells #[.string ⟨#[46, 46]⟩] 9)).cell? ⟨w1.heap.size, 0, none⟩ = some (.string ⟨#[46, 46]⟩) := by have := cell_one_new w1 (.string ⟨#[46, 46]⟩) 9 0 _ rfl; rw [W04.add_zero_at] at this; exact this
      have TL2 := Lib.hid ((TL.out.alloc (Nat.le_refl _) (.cells #[.string ⟨#[46, 46]⟩] 9)))
      have B2 := Lib.hid (B1.out.alloc B1.out.size (.cells #[.string ⟨#[46, 46]⟩] 9))
      have hsz : (w1.alloc (.cells #[.string ⟨#[46, 46]⟩] 9)).heap.size = w1.heap.size + 1 := by simp
      generalize w1.alloc (.cells #[.string ⟨#[46, 46]⟩] 9) = W at *
      refine (HRP.out _ W hcell (by rw [hsz]; exact Nat.lt_succ_self _)).mono ?_
      rintro e w2 ⟨v, rfl, hown, hb2⟩
      have TL3 := Lib.hid (((TL2.out.more (by omega : w1.heap.size ≤ W.heap.size)).below hb2).more hb2.size)
      have B3 := Lib.hid (on B2.out hb2)
      have hw2 := hb2.size
      have hww := B2.out.size
      clear hb2 TL2 B2 TL hcell
      rcases A with _ | ad
      · obtain ⟨hLe, hl⟩ := texts_none TL3.out
        subst hLe
        go_wp2_with (at_builtin; refine wpList_append_nothing rfl _ _ 25 rfl W.heap.size 9 i0 1 Tryd.underlying25 hi _ _ _ _ rfl hown rfl ?_)
        refine (HJ.out _ _ (by rw [List.append_nil]; exact Texts.of_own (by rw [List.map_replicate]; exact hown))).mono ?_
        rintro e w3 ⟨rfl, hb3⟩
        go_wp2_with fail
        go_ret
        exact ⟨rfl, on B3.out hb3⟩
      · have HC := Lib.hid (texts_cells TL3.out)
        have HS1 := Lib.hid (strs_one L)
        go_wp2_with (at_builtin; refine wpList_append_own _ rfl _ _ 25 rfl W.heap.size 9 i0 (.string ⟨#[]⟩) 1 16 Tryd.underlying25 hi hz0 hz1 hz2 rfl (by decide) _ _ _ rfl hown ad _ _ (L.map strV) rfl (by rw [List.length_map, Nat.mul_one]) HC.out HS1.out (by unfold maxLen; omega) (by omega) hw2 ?_; intro v' w3 hown' hgrow _; have HO := Lib.hid hown'; have HG := Lib.hid hgrow; clear hown' hgrow)
        rw [cells_texts] at HO
        refine (HJ.out _ _ (Texts.of_own HO.out)).mono ?_
        rintro e w4 ⟨rfl, hb4⟩
        go_wp2_with fail
        go_ret
        exact ⟨rfl, on (B3.out.grown HG.out B3.out.size (fun k hk => Nat.le_trans hww (hown.lt k hk).1)) hb4⟩)
theorem text_pair {a b : ByteArray} (h : a = b) (x : Bool) : Ending.returned (.tuple #[.string a, .bool x]) = .returned (.tuple #[.string b, .bool x]) := by rw [h]
theorem end_at (dir t d : ByteArray) (hd : d.data.toList = join dir.data.toList t.data.toList) (hs : dir.size ≤ 536870912) (hs2 : t.size ≤ 2147483648) (w : World) : Calls Tryd.prog 5 #[.string dir, .string t] w fun e w' => e = .returned (.tuple #[.string d, .bool (rel t.data.toList)]) ∧ Below w.heap.size w w' := by
  have H := Lib.hid (join_at dir t d hd (by omega))
  have HX := Lib.hid (Tryd.strings_HasPrefix t ⟨#[47]⟩)
  rw [show Lib.hasPrefix t.data.toList (⟨#[47]⟩ : ByteArray).data.toList = decide (t.data.toList.head? = some 47) from W04.prefix_slash _] at HX
  clear hd
  by_cases h0 : 0 < t.size
  · have hn := list_ne h0
    have hf := list_full h0
    have HR : Hid (rel t.data.toList = !decide (t.data.toList.head? = some 47)) := by
      show _ = _
      unfold rel
      rw [decide_eq_true (Kit.bytes_ne h0)]; simp
    generalize rel t.data.toList = r at *
    generalize decide (t.data.toList.head? = some 47) = p at *
    obtain rfl := HR.out
    go_enter Tryd.func5, Tryd.ntmps5
    go_wp2_with fail
    refine (H.out _).mono ?_
    rintro e w1 ⟨rfl, hb1⟩
    have B1 := Lib.hid hb1
    clear hb1
    go_wp2_with fail
    refine (HX.out _).mono ?_
    rintro e w2 ⟨rfl, rfl⟩
    go_wp2_with fail
    go_ret2
    exact ⟨rfl, B1.out⟩
  · have hn := list_nil h0
    have hf := list_none h0
    obtain HR : Hid (rel t.data.toList = false) := by show _ = _; rw [bytes_nil h0]; rfl
    generalize rel t.data.toList = r at *
    obtain rfl := HR.out
    go_enter Tryd.func5, Tryd.ntmps5
    go_wp2_with fail
    refine (H.out _).mono ?_
    rintro e w1 ⟨rfl, hb1⟩
    have B1 := Lib.hid hb1
    clear hb1
    go_wp2_with fail
    go_ret2
    exact ⟨rfl, B1.out⟩
set_option maxHeartbeats 400000 in
theorem same_any (dir a b : ByteArray) (hs : dir.size ≤ 536870912) (hs2 : a.size ≤ 536870912) (hs3 : b.size ≤ 536870912) (w : World) : Calls Tryd.prog 11 #[.string dir, .string a, .string b] w fun e w' => e = .returned (.bool (sameEnd dir.data.toList a.data.toList b.data.toList)) ∧ Below w.heap.size w w' := by
  obtain ⟨x, hx⟩ := text_of (join dir.data.toList a.data.toList)
  obtain ⟨y, hy⟩ := text_of (join dir.data.toList b.data.toList)
  have HX := Lib.hid (end_at dir a x hx (by omega) (by omega))
  have HY := Lib.hid (end_at dir b y hy (by omega) (by omega))
  have HS : Hid (sameEnd dir.data.toList a.data.toList b.data.toList = ((x.toList == y.toList) && (rel a.data.toList == rel b.data.toList))) := by
    show _ = _
    unfold sameEnd
    rw [beq_text, hx, hy]
  clear hx hy
  generalize sameEnd dir.data.toList a.data.toList b.data.toList = r at *
  generalize rel a.data.toList = p at *
  generalize rel b.data.toList = q at *
  go_enter Tryd.func11, Tryd.ntmps11
  cases hxy : (x.toList == y.toList) with
  | true =>
    have hxe := beq_iff_eq.1 hxy
    rw [hxy] at HS
    obtain rfl := HS.out
    clear hxe
    go_wp2_with fail
    refine (HX.out _).mono ?_
    rintro e w1 ⟨rfl, hb1⟩
    have B1 := Lib.hid hb1
    clear hb1
    go_wp2_with fail
    refine (HY.out _).mono ?_
    rintro e w2 ⟨rfl, hb2⟩
    have B2 := Lib.hid (on B1.out hb2)
    clear hb2
    go_wp2_with fail
    go_ret
    exact ⟨ret_bool (by simp), B2.out⟩
  | false =>
    rw [hxy] at HS
    obtain rfl := HS.out
    have hxe := beq_eq_false_iff_ne.1 hxy
    go_wp2_with fail
    refine (HX.out _).mono ?_
    rintro e w1 ⟨rfl, hb1⟩
    have B1 := Lib.hid hb1
    clear hb1
    go_wp2_with fail
    refine (HY.out _).mono ?_
    rintro e w2 ⟨rfl, hb2⟩
    have B2 := Lib.hid (on B1.out hb2)
    clear hb2
    go_wp2_with fail
    go_ret
    exact ⟨ret_bool (by simp), B2.out⟩
end Go.Proofs.YtkijenblfpmdaaaDoor.W05
