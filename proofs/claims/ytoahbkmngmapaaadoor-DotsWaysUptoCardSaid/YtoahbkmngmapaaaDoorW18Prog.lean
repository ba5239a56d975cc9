/-
  Layer 18 (dots): the program's Way and Any. The conditions stand in the statements.
-/
import Derived.Test.YtoahbkmngmapaaaDoorW18Way
namespace Go.Proofs.YtoahbkmngmapaaaDoor.W18
set_option maxRecDepth 100000
open Go Go.RowKit Go.Proofs.YtoahbkmngmapaaaDoor.M18 Go.Proofs.YtoahbkmngmapaaaDoor.Strs
open Go.Proofs.YtoahbkmngmapaaaDoor.M04 (parts slashed total parts_total total_cons parts_count)
open Go.Proofs.YtoahbkmngmapaaaDoor.W04 (Makes parts_makes)
open Go.Proofs.YtoahbkmngmapaaaDoor.Kit (ret_str ret_bool ret_int mk_of mk_bytes ba_ext cat_bytes on below_draws)

/-- the parts when k of them are changed -/
def upto (L : List Bytes) (k : Nat) : List Bytes := (L.take k).map (way true) ++ L.drop k
theorem upto_zero (L : List Bytes) : upto L 0 = L := by unfold upto; simp
theorem upto_len (L : List Bytes) (k : Nat) : (upto L k).length = L.length := by unfold upto; simp; omega
theorem upto_end {L : List Bytes} {k : Nat} (hk : ¬ k < L.length) : upto L k = L.map (way true) := by
  unfold upto; rw [List.take_of_length_le (by omega), List.drop_of_length_le (by omega), List.append_nil]
theorem upto_at {L : List Bytes} {k : Nat} (hk : k < L.length) : (upto L k)[k]? = some (L.getD k []) := by
  unfold upto
  rw [List.getElem?_append_right (by simp; omega)]
  simp [Nat.min_eq_left (Nat.le_of_lt hk), hk]
theorem upto_next {L : List Bytes} {k : Nat} (hk : k < L.length) : (upto L k).set k (toP (L.getD k [])) = upto L (k + 1) := by
  have e : (L.drop k).set 0 (toP (L.getD k [])) = toP (L.getD k []) :: L.drop (k + 1) := by rw [List.drop_eq_getElem_cons hk]; rfl
  have e2 : ((L.take k).map (way true)).length = k := by simp; omega
  unfold upto
  rw [List.set_append_right _ _ (by rw [e2]; exact Nat.le_refl _), e2, Nat.sub_self, e, List.take_succ_eq_append_getElem hk, List.map_append, List.append_assoc]
  simp [way, hk]
/-- a row of texts of the call's own -/
def Row (w : World) (base : Nat) (v : Value) (L : List Bytes) : Prop := w.ownsRow base 9 1 v L.length (L.map strV)
section
variable {w wr : World} {base g n c k : Nat} {A : Option Addr} {L : List Bytes}
theorem Row.spot (h : Row w base (.slice A n c) L) (h0 : 0 < L.length) : ∃ g, A = some ⟨g, 0, none⟩ ∧ base ≤ g := by
  rcases h.2 with ⟨_, hz⟩ | ⟨g, cap, cur, hv, hb, hg, hn, hc, _⟩
  · omega
  · injection hv with h1 h2 h3
    exact ⟨g, h1, hb⟩
theorem Row.form {v : Value} (h : Row w base v L) : ∃ A c, v = .slice A L.length c ∧ L.length ≤ maxLen := by
  rcases h.2 with ⟨rfl, hz⟩ | ⟨g, cap, cur, rfl, hb, hg, hn, hc, _⟩
  · exact ⟨none, 0, by rw [hz], by omega⟩
  · exact ⟨_, _, rfl, by omega⟩
theorem Row.cell {p : Bytes} (h : Row w base (.slice (some ⟨g, 0, none⟩) n c) L) (hn : n = L.length) (hk : L[k]? = some p) : w.cell? ⟨g, k, none⟩ = some (strV p) := by
  subst hn
  have hlt : k < L.length := (List.getElem?_eq_some_iff.1 hk).1
  rw [World.ownsRow.cellAt h k (by omega), List.getElem?_map, hk]; rfl
theorem Row.frozen (h : Row w base (.slice (some ⟨g, 0, none⟩) n c) L) (hn : n = L.length) : w.frozen? ⟨g, k, none⟩ = false := by
  subst hn; exact World.ownsRow.frozenAt h k
theorem Row.store {p : Bytes} (h : Row w base (.slice (some ⟨g, 0, none⟩) n c) L) (hn : n = L.length) : Row (w.setCell ⟨g, k, none⟩ (strV p)) base (.slice (some ⟨g, 0, none⟩) n c) (L.set k p) := by
  subst hn
  have := (World.ownsRow.stored h k (strV p)).1
  rw [← List.map_set] at this
  unfold Row
  rw [List.length_set]
  exact this
end
set_option maxHeartbeats 2000000 in
theorem way_on {s d : ByteArray} {w : World} (hd : d.data.toList = slashed ((parts s.data.toList).map (way true))) (hs : s.size ≤ 2147483648) :
    Calls Tryd.prog 5 #[.string s, .bool true] w fun e w' => e = .returned (.string d) ∧ Below w.heap.size w w' := by
  have HPS := Lib.hid (parts_makes s hs)
  have HL : Hid (total (parts s.data.toList) ≤ 2147483649) := by
    show _ ≤ _
    have h2 := parts_total s.data.toList
    rw [← Lib.size_eq] at h2
    omega
  have HN : Hid ((parts s.data.toList).length ≤ 2147483649) := by
    show _ ≤ _
    have h2 := parts_count s.data.toList
    rw [← Lib.size_eq] at h2
    omega
  have HD := Lib.hid hd
  have HT : Hid (∀ (p q : ByteArray) (w : World), q.data.toList = toP p.data.toList → p.size ≤ 9223372036854775807 → Calls Tryd.prog 10 #[.string p] w fun e w' => e = .returned (.string q) ∧ w' = w) := fun p q w h1 h2 => to_any h1 h2
  have HJ : Hid (∀ (v : Value) (w : World), Texts w.heap.size w v ((parts s.data.toList).map (way true)) → Calls Tryd.prog 11 #[v, .string ⟨#[47]⟩] w fun e w' => e = .returned (.string d) ∧ Below w.heap.size w w') := fun v w h => join_texts v _ d w h hd (by rw [List.length_map]; have := HN.out; omega) (by have := slashed_way true (parts s.data.toList); have := HL.out; omega)
  clear hd
  generalize parts s.data.toList = a at *
  go_enter Tryd.func5, Tryd.ntmps5
  go_wp2_with fail
  refine (HPS.out _).mono ?_
  rintro e w1 ⟨v, rfl, hown1, hb1⟩
  have R1 := Lib.hid (show Row w1 w.heap.size v a from hown1)
  have B1 := Lib.hid hb1
  clear hown1 hb1
  obtain ⟨A, ca, rfl, hA1⟩ := R1.out.form
  unfold maxLen at hA1
  generalize hna : a.length = na at *
  have HNA := Lib.hid hna
  clear hna
  go_wp2_with fail
  go_loopw [13] (fun i wr => ∃ k : Nat, k ≤ na ∧ i = .int .i64 k ∧ Hid (Row wr w.heap.size (.slice A na ca) (upto a k)) ∧ Hid (Below w.heap.size w wr)) (fun i _ => na - (intOf i).toNat)
  case atStart => exact ⟨0, Nat.zero_le _, rfl, by rw [upto_zero]; exact R1, B1⟩
  case round =>
    obtain ⟨k, hk, rfl, RR, BR⟩ := hrel
    have hnk : na = (upto a k).length := by rw [upto_len, HNA.out]
    by_cases hlt : k < na
    · obtain ⟨g, rfl, hg⟩ := RR.out.spot (by rw [← hnk]; omega)
      have hka : k < a.length := by rw [HNA.out]; exact hlt
      obtain ⟨p, hp⟩ : ∃ p : ByteArray, p.data.toList = a.getD k [] := ⟨⟨(a.getD k []).toArray⟩, rfl⟩
      obtain ⟨q, hq⟩ : ∃ q : ByteArray, q.data.toList = toP p.data.toList := ⟨⟨(toP p.data.toList).toArray⟩, rfl⟩
      have hps : p.size ≤ 2147483649 := by rw [Lib.size_eq, hp]; exact Nat.le_trans (part_size hka) HL.out
      have hc : wr.cell? ⟨g, k, none⟩ = some (.string p) := by
        rw [RR.out.cell hnk (upto_at hka)]
        unfold strV
        rw [← hp, mk_bytes]
      have hf : wr.frozen? ⟨g, k, none⟩ = false := RR.out.frozen hnk
      have HQ := Lib.hid (HT.out p q wr hq (by omega))
      have RX : Hid (Row (wr.setCell ⟨g, k, none⟩ (.string q)) w.heap.size (.slice (some ⟨g, 0, none⟩) na ca) (upto a (k + 1))) := by
        have := RR.out.store (k := k) (p := toP (a.getD k [])) hnk
        rw [upto_next hka] at this
        have e : strV (toP (a.getD k [])) = .string q := by
          unfold strV
          rw [← hp, ← hq, mk_bytes]
        rw [e] at this
        exact this
      have BX : Hid (Below w.heap.size w (wr.setCell ⟨g, k, none⟩ (.string q))) := BR.out.setCell hg _
      clear hp hq hnk RR hka
      go_wp2_with fail
      refine HQ.out.mono ?_
      rintro e w2 ⟨rfl, rfl⟩
      go_wp2_with fail
      go_roundw
      case rel => exact ⟨k + 1, by omega, by go_num, RX, BX⟩
      case measure => simp [intOf]; omega
    · have TT : Hid (Texts wr.heap.size wr (.slice A na ca) (a.map (way true))) := by
        have := Texts.of_own RR.out
        rw [upto_end (by rw [HNA.out]; exact hlt)] at this
        exact this
      clear RR hnk
      go_wp2_with fail
      refine (HJ.out _ _ TT.out).mono ?_
      rintro e w2 ⟨rfl, hb2⟩
      have B2 := Lib.hid (BR.out.trans (hb2.mono BR.out.size))
      clear hb2
      go_wp2_with fail
      go_ret
      exact ⟨rfl, B2.out⟩
set_option maxHeartbeats 1000000 in
theorem way_off {s d : ByteArray} {w : World} (hd : d.data.toList = slashed ((parts s.data.toList).map (way false))) (hs : s.size ≤ 2147483648) :
    Calls Tryd.prog 5 #[.string s, .bool false] w fun e w' => e = .returned (.string d) ∧ Below w.heap.size w w' := by
  have e0 : (parts s.data.toList).map (way false) = parts s.data.toList := List.map_id _
  rw [e0] at hd
  have HPS := Lib.hid (parts_makes s hs)
  have HL : Hid (total (parts s.data.toList) ≤ 2147483649) := by
    show _ ≤ _
    have h2 := parts_total s.data.toList
    rw [← Lib.size_eq] at h2
    omega
  have HN : Hid ((parts s.data.toList).length ≤ 2147483649) := by
    show _ ≤ _
    have h2 := parts_count s.data.toList
    rw [← Lib.size_eq] at h2
    omega
  have HJ : Hid (∀ (v : Value) (w : World), Texts w.heap.size w v (parts s.data.toList) → Calls Tryd.prog 11 #[v, .string ⟨#[47]⟩] w fun e w' => e = .returned (.string d) ∧ Below w.heap.size w w') := fun v w h => join_texts v _ d w h hd (by have := HN.out; omega) (by have := W04.slashed_len (parts s.data.toList); have := HL.out; omega)
  clear hd e0
  generalize parts s.data.toList = a at *
  go_enter Tryd.func5, Tryd.ntmps5
  go_wp2_with fail
  refine (HPS.out _).mono ?_
  rintro e w1 ⟨v, rfl, hown1, hb1⟩
  have TT := Lib.hid (Texts.of_own hown1)
  have B1 := Lib.hid hb1
  clear hown1 hb1
  go_wp2_with fail
  refine (HJ.out _ _ TT.out).mono ?_
  rintro e w2 ⟨rfl, hb2⟩
  have B2 := Lib.hid (on B1.out hb2)
  clear hb2
  go_wp2_with fail
  go_ret
  exact ⟨rfl, B2.out⟩
/-- one of these stands for another one -/
def some1 (L : List Bytes) : Bool := L.any (fun l => !decide (toP l = l))
theorem some1_next {L : List Bytes} {k : Nat} (hk : k < L.length) : some1 (L.take (k + 1)) = (some1 (L.take k) || !decide (toP (L.getD k []) = L.getD k [])) := by
  unfold some1
  rw [List.take_succ_eq_append_getElem hk, List.any_append]
  simp [hk]
theorem some1_found {L : List Bytes} {k : Nat} (hk : k < L.length) (h : ¬ toP (L.getD k []) = L.getD k []) : some1 L = true := by
  unfold some1
  rw [List.any_eq_true]
  refine ⟨L.getD k [], ?_, by simpa using h⟩
  simp [List.getD_eq_getElem?_getD, hk]
theorem some1_end {L : List Bytes} {k : Nat} (hk : ¬ k < L.length) : some1 (L.take k) = some1 L := by rw [List.take_of_length_le (by omega)]
set_option maxHeartbeats 1000000 in
theorem index_any {v : Value} {L : List Bytes} {B : Nat} {w : World} (h : Texts B w v L) (hm : ∀ l ∈ L, l.length ≤ maxLen) :
    Calls Tryd.prog 21 #[v, .func (.func 14) #[] #[]] w fun e w' => (∃ r : Int, e = .returned (.int .i64 r) ∧ decide (0 ≤ r) = some1 L) ∧ w' = w := by
  obtain ⟨A, c, rfl, hA1, hA2⟩ := h.form
  have H := Lib.hid h
  have HM := Lib.hid hm
  unfold maxLen at hA2
  clear h hm
  generalize hn : L.length = n at *
  have HN := Lib.hid hn
  clear hn
  go_enter Tryd.func21, Tryd.ntmps21
  go_wp2_with fail
  go_loop [8] (fun i => ∃ k : Nat, k ≤ n ∧ i = .int .i64 k ∧ Hid (some1 (L.take k) = false)) (fun i => n - (intOf i).toNat)
  case atStart => exact ⟨0, Nat.zero_le _, rfl, rfl⟩
  case round =>
    obtain ⟨k, hk, rfl, hf⟩ := hrel
    by_cases hlt : k < n
    · obtain ⟨ad, t, rfl, hbl, hc, ht⟩ := H.out.at_ hlt
      have hkl : k < L.length := by rw [HN.out]; exact hlt
      have hts : t.size ≤ 9223372036854775807 := by
        rw [Lib.size_eq, ht, List.getD_eq_getElem?_getD, List.getElem?_eq_getElem hkl]
        exact HM.out _ (List.getElem_mem hkl)
      by_cases hl : toP t.data.toList = t.data.toList
      · have HI := Lib.hid (is_any (s := t) (o := false) (w := w) (by simpa using hl) hts)
        have HX : Hid (some1 (L.take (k + 1)) = false) := by
          show _ = _
          rw [some1_next hkl, hf.out, ← ht, hl]; simp
        clear hl ht hkl
        go_wp2_with fail
        refine HI.out.mono ?_
        rintro e w1 ⟨rfl, rfl⟩
        go_wp2_with fail
        go_round
        case rel => exact ⟨k + 1, by omega, by go_num, HX⟩
        case measure => simp [intOf]; omega
      · have HI := Lib.hid (is_any (s := t) (o := true) (w := w) (by simpa using hl) hts)
        have HX := Lib.hid (some1_found hkl (by rw [← ht]; exact hl))
        clear hl ht hkl
        go_wp2_with fail
        refine HI.out.mono ?_
        rintro e w1 ⟨rfl, rfl⟩
        go_wp2_with fail
        go_ret
        exact ⟨⟨_, rfl, by rw [HX.out]; simp⟩, rfl⟩
    · have HX := Lib.hid (some1_end (L := L) (k := k) (by rw [HN.out]; exact hlt))
      go_wp2_with fail
      go_ret
      exact ⟨⟨_, rfl, by rw [← HX.out, hf.out]; rfl⟩, rfl⟩
set_option maxHeartbeats 400000 in
theorem contains_any {v : Value} {L : List Bytes} {B : Nat} {w : World} (h : Texts B w v L) (hm : ∀ l ∈ L, l.length ≤ maxLen) :
    Calls Tryd.prog 13 #[v, .func (.func 14) #[] #[]] w fun e w' => e = .returned (.bool (some1 L)) ∧ w' = w := by
  have HI := Lib.hid (index_any h hm)
  clear h hm
  go_enter Tryd.func13, Tryd.ntmps13
  go_wp2_with fail
  refine HI.out.mono ?_
  rintro e w1 ⟨⟨r, rfl, hr⟩, rfl⟩
  have HR := Lib.hid hr
  clear hr
  go_wp2_with fail
  go_ret
  exact ⟨ret_bool HR.out, rfl⟩
set_option maxHeartbeats 400000 in
theorem any_any {v : Value} {L : List Bytes} {B : Nat} {w : World} (h : Texts B w v L) (hm : ∀ l ∈ L, l.length ≤ maxLen) :
    Calls Tryd.prog 7 #[v] w fun e w' => e = .returned (.bool (some1 L)) ∧ w' = w := by
  have HI := Lib.hid (contains_any h hm)
  clear h hm
  go_enter Tryd.func7, Tryd.ntmps7
  go_wp2_with fail
  refine HI.out.mono ?_
  rintro e w1 ⟨rfl, rfl⟩
  go_wp2_with fail
  go_ret
  exact ⟨rfl, rfl⟩
end Go.Proofs.YtoahbkmngmapaaaDoor.W18
