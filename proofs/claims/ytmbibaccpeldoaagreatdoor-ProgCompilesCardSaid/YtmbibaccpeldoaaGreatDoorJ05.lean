/-
  Texts joined, in build order, each with its own comment and its own conditions: W14Times, W15Steps, W14Numbers.
-/
import Derived.Test.YtmbibaccpeldoaaGreatDoorJ04
import Derived.Shelf.Strings.SlTrimAscii
import Derived.Lib.IndexLaws
import Derived.Lib.SmallJoins
/-
  Layer 14 (pattern), walks of strings.Cut at one byte and of the program's isNumber, value, mayBe. The conditions stand in the statements.
-/
namespace Go.Proofs.YtmbibaccpeldoaaGreatDoor.W14
set_option maxRecDepth 100000
open Go Go.RowKit Go.Proofs.YtmbibaccpeldoaaGreatDoor.M14
open Go.Proofs.YtmbibaccpeldoaaGreatDoor.Row256 (Beside)
open Go.Proofs.YtmbibaccpeldoaaGreatDoor.Kit (ret_str ret_bool ret_int mk_of mk_bytes ba_ext below_draws on list_full list_ne list_none list_nil)

theorem index_here {l : List UInt8} {c : UInt8} (h : c ∈ l) : Lib.indexByte l c = ((before c l).length : Int) := by
  induction l with
  | nil => simp at h
  | cons d l ih =>
    unfold Lib.indexByte
    by_cases e : d = c
    · subst e; rw [before_here]; simp
    · have hl : c ∈ l := by
        rcases List.mem_cons.1 h with q | q
        · exact absurd q.symm e
        · exact q
      rw [if_neg (by simpa using e), ih hl, before_skip e, if_neg (by simp)]
      simp
theorem index_none {l : List UInt8} {c : UInt8} (h : ¬ c ∈ l) : Lib.indexByte l c = -1 := by
  induction l with
  | nil => rfl
  | cons d l ih =>
    unfold Lib.indexByte
    have e : ¬ d = c := fun e => h (by simp [e])
    rw [if_neg (by simpa using e), ih (fun q => h (by simp [q]))]
    rfl
theorem before_take {l : List UInt8} {c : UInt8} : l.take (before c l).length = before c l := by
  induction l with
  | nil => rfl
  | cons d l ih =>
    by_cases e : d = c
    · subst e; rw [before_here]; rfl
    · rw [before_skip e]; simp [ih]
theorem before_drop {l : List UInt8} {c : UInt8} : l.drop ((before c l).length + 1) = behind c l := by
  induction l with
  | nil => rfl
  | cons d l ih =>
    by_cases e : d = c
    · subst e; rw [before_here, behind_here]; rfl
    · rw [before_skip e]
      have : behind c (d :: l) = behind c l := by unfold behind; simp [e]
      rw [this, ← ih]; simp
theorem before_less {l : List UInt8} {c : UInt8} (h : c ∈ l) : (before c l).length < l.length := by
  induction l with
  | nil => simp at h
  | cons d l ih =>
    by_cases e : d = c
    · subst e; rw [before_here]; simp
    · have hl : c ∈ l := by
        rcases List.mem_cons.1 h with q | q
        · exact absurd q.symm e
        · exact q
      rw [before_skip e]; simp only [List.length_cons]; have := ih hl; omega
theorem behind_none {l : List UInt8} {c : UInt8} (h : ¬ c ∈ l) : behind c l = [] := by
  have := behind_clean h []
  rw [List.append_nil] at this
  rw [this]; rfl
/-- what a cut at one byte returns -/
def CutAt (w : World) (d : Bool) (A B : List UInt8) (e : Ending) (w' : World) : Prop := ∃ a b : ByteArray, e = .returned (.tuple #[.string a, .string b, .bool d]) ∧ a.data.toList = A ∧ b.data.toList = B ∧ ∃ n, w' = w.drewN n
theorem bytes_mk (l : List UInt8) : (⟨l.toArray⟩ : ByteArray).data.toList = l := rfl
set_option maxHeartbeats 1000000 in
theorem cutL_any (s : ByteArray) (hs : s.size ≤ 1000000) (c : UInt8) (w : World) : Calls Tryz.prog 116 #[.string s, .string ⟨#[c]⟩] w (CutAt w (decide (c ∈ s.data.toList)) (before c s.data.toList) (behind c s.data.toList)) := by
  have hl : s.data.toList.length = s.size := (Lib.size_eq s).symm
  by_cases hc : c ∈ s.data.toList
  · have HI := Lib.hid (index_here hc)
    have hlt := before_less hc
    have HA : Hid ((s.extract 0 (before c s.data.toList).length).data.toList = before c s.data.toList) := by
      show _ = _
      rw [Kit.take_bytes, before_take]
    have HB : Hid ((s.extract ((before c s.data.toList).length + 1) s.size).data.toList = behind c s.data.toList) := by
      show _ = _
      rw [Kit.drop_bytes, before_drop]
    have HD := Lib.hid (decide_eq_true hc)
    rw [HD.out]
    have HCA := HA.out.symm
    have HCB := HB.out.symm
    obtain ⟨k, hk⟩ : ∃ k, (before c s.data.toList).length = k := ⟨_, rfl⟩
    rw [hk] at HI HA HB HCA HCB hlt
    rw [HCA, HCB]
    have h1 : k < s.size := by omega
    have h2 : (k : Int) < (s.size : Int) := by omega
    have hw : wrap64 ((k : Int) + 1) = ((k + 1 : Nat) : Int) := by unfold wrap64; omega
    have h3 : ((k + 1 : Nat) : Int) ≤ (s.size : Int) := by omega
    clear HA HB HCA HCB hk hlt hl hc HD
    go_enter Tryz.func116, Tryz.ntmps116
    go_wp2_with (go_at_call 124; refine (Tryz.stringslite_Index_one s c w).mono ?_; rintro e w' ⟨rfl, rfl⟩; rw [HI.out])
    go_quiet (fail)
    go_wp2_with fail
    refine bodyPost_ret (results_tmp3 rfl _ _ _) rfl ?_
    exact ⟨_, _, rfl, by first | rfl | (simp), by first | rfl | simp, nq, rfl⟩
  · have HI := Lib.hid (index_none hc)
    have HD := Lib.hid (decide_eq_false hc)
    have HB := Lib.hid (behind_none hc)
    have HA := Lib.hid (before_all hc)
    rw [HD.out, HA.out, HB.out]
    clear HA HB HD hl hc
    go_enter Tryz.func116, Tryz.ntmps116
    go_wp2_with (go_at_call 124; refine (Tryz.stringslite_Index_one s c w).mono ?_; rintro e w' ⟨rfl, rfl⟩; rw [HI.out])
    refine bodyPost_ret (results_tmp3 rfl _ _ _) rfl ?_
    exact ⟨_, _, rfl, rfl, rfl, 0, rfl⟩
theorem cut_any (s : ByteArray) (hs : s.size ≤ 1000000) (c : UInt8) (w : World) : Calls Tryz.prog 104 #[.string s, .string ⟨#[c]⟩] w (CutAt w (decide (c ∈ s.data.toList)) (before c s.data.toList) (behind c s.data.toList)) := by
  have HC := Lib.hid (cutL_any s hs c w)
  generalize decide (c ∈ s.data.toList) = d at *
  generalize before c s.data.toList = A at *
  generalize behind c s.data.toList = B at *
  go_enter Tryz.func104, Tryz.ntmps104
  go_wp2_with fail
  refine HC.out.mono ?_
  rintro e w' ⟨a, b, rfl, h1, h2, n, rfl⟩
  have H1 := Lib.hid h1
  have H2 := Lib.hid h2
  clear h1 h2
  go_wp2_with fail
  refine bodyPost_ret (results_tmp3 rfl _ _ _) rfl ?_
  exact ⟨a, b, rfl, H1.out, H2.out, n, rfl⟩

/-! digits -/
theorem info256 : (Tryz.prog.info? (Tryz.lays160_ren.t 116)).map (fun i => (i.zero, i.size)) = some (some (.agg (Array.replicate 256 (.bool false))), 256) := by kernel_rfl
def tens : List UInt8 := [48, 49, 50, 51, 52, 53, 54, 55, 56, 57]
theorem tens_dig (c : UInt8) : tens.contains c = dig c := by
  have h : ∀ n : Fin 256, tens.contains (UInt8.ofNat n.val) = dig (UInt8.ofNat n.val) := by decide +kernel
  have := h ⟨c.toNat, c.toNat_lt⟩
  simpa using this
theorem drop_dig : ∀ (l : List UInt8), l.all dig = true → l.dropWhile dig = []
  | [], _ => rfl
  | c :: l, h => by
    rw [List.all_cons, Bool.and_eq_true] at h
    rw [List.dropWhile_cons_of_pos h.1]
    exact drop_dig l h.2
theorem trim_nil {t : List UInt8} : (Lib.trimS t tens == []) = t.all dig := by
  have e : (fun c => tens.contains c) = dig := funext tens_dig
  unfold Lib.trimS Lib.trimLeftS Lib.trimRightS
  rw [e]
  cases h : t.all dig with
  | true =>
    have : t.reverse.dropWhile dig = [] := by
      refine drop_dig _ (List.all_eq_true.2 fun x hx => ?_)
      exact List.all_eq_true.1 h x (List.mem_reverse.1 hx)
    rw [this]; rfl
  | false =>
    obtain ⟨x, hx, hn⟩ : ∃ x, x ∈ t ∧ dig x = false := by
      have := List.all_eq_false.1 h
      obtain ⟨x, hx, hn⟩ := this
      exact ⟨x, hx, by simpa using hn⟩
    have h1 : ∀ l : List UInt8, x ∈ l → x ∈ l.dropWhile dig := by
      intro l
      induction l with
      | nil => intro q; simp at q
      | cons d l ih =>
        intro q
        by_cases hd : dig d = true
        · rw [List.dropWhile_cons_of_pos hd]
          rcases List.mem_cons.1 q with q | q
          · subst q; rw [hn] at hd; cases hd
          · exact ih q
        · rw [List.dropWhile_cons_of_neg hd]; exact q
    have h2 := h1 _ (List.mem_reverse.2 (h1 _ (List.mem_reverse.2 hx)))
    cases hq : (List.dropWhile dig (List.dropWhile dig t.reverse).reverse) with
    | nil => rw [hq] at h2; simp at h2
    | cons a b => rfl
theorem trim_any (s : ByteArray) (hs : s.size ≤ 1000000) (w : World) : Calls Tryz.prog 39 #[.string s, .string ⟨#[48, 49, 50, 51, 52, 53, 54, 55, 56, 57]⟩] w fun e w' => ∃ d : ByteArray, e = .returned (.string d) ∧ d.toList.isEmpty = s.data.toList.all dig ∧ Below w.heap.size w w' := by
  refine Calls.mono (Any.strings_Trim_laid Tryz.lays160 info256 s ⟨#[48, 49, 50, 51, 52, 53, 54, 55, 56, 57]⟩ w (by omega) (by decide) (ascii_of_all (by decide))) ?_
  rintro e w1 ⟨rfl, hb⟩
  refine ⟨_, rfl, ?_, hb⟩
  rw [← trim_nil, Lib.toList_data, bytes_mk]
  show (Lib.trimS s.data.toList tens).isEmpty = _
  cases Lib.trimS s.data.toList tens <;> rfl
set_option maxHeartbeats 1000000 in
theorem isNumber_any (s : ByteArray) (hs : s.size ≤ 1000000) (w : World) : Calls Tryz.prog 105 #[.string s] w fun e w' => e = .returned (.bool (isNum s.data.toList)) ∧ Below w.heap.size w w' := by
  have hl : s.data.toList.length = s.size := (Lib.size_eq s).symm
  by_cases h0 : 0 < s.size
  · have he := list_full h0
    by_cases h3 : s.size ≤ 3
    · have HV : Hid (isNum s.data.toList = s.data.toList.all dig) := by
        unfold Hid isNum
        rw [decide_eq_true (Kit.bytes_ne h0), decide_eq_true (by omega), Bool.true_and, Bool.true_and]
      have h3' : (s.size : Int) ≤ 3 := by omega
      have HT := Lib.hid (trim_any s hs w)
      rw [HV.out]
      generalize s.data.toList.all dig = b at *
      clear hl HV
      go_enter Tryz.func105, Tryz.ntmps105
      go_wp2_with fail
      refine HT.out.mono ?_
      rintro e w1 ⟨d, rfl, hd, hb⟩
      have HB := Lib.hid hb
      clear hb
      go_wp2_with fail
      go_ret
      exact ⟨rfl, HB.out⟩
    · have HV : Hid (isNum s.data.toList = false) := by
        unfold Hid isNum
        rw [decide_eq_false (p := s.data.toList.length ≤ 3) (by omega), Bool.false_and, Bool.and_false]
      have h3' : ¬ (s.size : Int) ≤ 3 := by omega
      rw [HV.out]
      clear hl HV
      go_enter Tryz.func105, Tryz.ntmps105
      go_wp2_with fail
      go_ret
      exact ⟨rfl, Below.refl _ _⟩
  · have he := list_none h0
    have HV : Hid (isNum s.data.toList = false) := by
      unfold Hid isNum
      rw [Kit.bytes_nil h0]; rfl
    rw [HV.out]
    clear hl HV
    go_enter Tryz.func105, Tryz.ntmps105
    go_wp2_with fail
    go_ret
    exact ⟨rfl, Below.refl _ _⟩
theorem digitVal_dig {c : UInt8} (h : dig c = true) : Lib.digitVal c = some (c.toNat - 48) := by
  unfold Lib.digitVal
  unfold dig at h
  simp only [Bool.and_eq_true, decide_eq_true_eq] at h
  rw [if_pos ⟨h.1, h.2⟩]
theorem decFrom_dig : ∀ (l : List UInt8) (n : Nat), l.all dig = true → Lib.decFrom n l = some (l.foldl (fun n c => n * 10 + (c.toNat - 48)) n)
  | [], n, _ => rfl
  | c :: l, n, h => by
    rw [List.all_cons, Bool.and_eq_true] at h
    unfold Lib.decFrom
    rw [digitVal_dig h.1]
    exact decFrom_dig l _ h.2
theorem atoi_num {t : List UInt8} (h : isNum t = true) : Lib.atoi t = some (val t : Int) := by
  unfold isNum at h
  simp only [Bool.and_eq_true, decide_eq_true_eq] at h
  obtain ⟨h1, -, h2⟩ := h
  cases t with
  | nil => exact absurd rfl h1
  | cons c l =>
    have hc := (List.all_cons ▸ h2 : (dig c && l.all dig) = true)
    have hd : dig c = true := (Bool.and_eq_true_iff.1 hc).1
    have n45 : ¬ c = 45 := by rintro rfl; revert hd; decide
    have n43 : ¬ c = 43 := by rintro rfl; revert hd; decide
    unfold Lib.atoi
    simp only
    rw [if_neg (by simpa using n45), if_neg (by simpa using n43)]
    unfold Lib.decNat
    rw [if_neg (by simp), decFrom_dig _ _ h2]
    rfl
theorem value_any (s : ByteArray) (h : isNum s.data.toList = true) (w : World) : Calls Tryz.prog 106 #[.string s] w fun e w' => e = .returned (.int .i64 (val s.data.toList)) ∧ Below w.heap.size w w' := by
  have hz : s.size ≤ 3 := by
    unfold isNum at h
    simp only [Bool.and_eq_true, decide_eq_true_eq] at h
    rw [Lib.size_eq]; exact h.2.1
  have HT := Lib.hid (Tryz.strconv_Atoi s (val s.data.toList) (by omega) (atoi_num h) w)
  generalize val s.data.toList = n at *
  clear h
  go_enter Tryz.func106, Tryz.ntmps106
  go_wp2_with fail
  refine HT.out.mono ?_
  rintro e w1 ⟨rfl, t, rfl⟩
  go_wp2_with fail
  go_ret
  exact ⟨rfl, Joins.below_bytesWorld _ _ _ _ (Nat.le_refl _)⟩
set_option maxHeartbeats 1000000 in
theorem mayBe_any (m t : Int) (w : World) : Calls Tryz.prog 74 #[.int .i64 m, .int .i64 t] w fun e w' => e = .returned (.bool (mayB m t)) ∧ w' = w := by
  by_cases h1 : 0 ≤ m
  · by_cases h2 : m ≤ 100
    · by_cases h3 : t = -1
      · have t3 : (t == -1) = true := by simpa using h3
        have HV : Hid (mayB m t = true) := by
          unfold Hid mayB
          simp [h1, h2, h3]
        rw [HV.out]
        clear HV
        go_enter Tryz.func74, Tryz.ntmps74
        go_wp2_with fail
        go_ret
        exact ⟨rfl, rfl⟩
      · have t3 : (t == -1) = false := by simpa using h3
        by_cases h4 : m ≤ t
        · by_cases h5 : t ≤ 100
          · skip
            have HV : Hid (mayB m t = true) := by
              unfold Hid mayB
              simp [h1, h2, h3, h4, h5]
            rw [HV.out]
            clear HV
            go_enter Tryz.func74, Tryz.ntmps74
            go_wp2_with fail
            go_ret
            exact ⟨rfl, rfl⟩
          · skip
            have HV : Hid (mayB m t = false) := by
              unfold Hid mayB
              simp [h1, h2, h3, h4, h5]
            rw [HV.out]
            clear HV
            go_enter Tryz.func74, Tryz.ntmps74
            go_wp2_with fail
            go_ret
            exact ⟨rfl, rfl⟩
        · skip
          have HV : Hid (mayB m t = false) := by
            unfold Hid mayB
            simp [h1, h2, h3, h4]
          rw [HV.out]
          clear HV
          go_enter Tryz.func74, Tryz.ntmps74
          go_wp2_with fail
          go_ret
          exact ⟨rfl, rfl⟩
    · skip
      have HV : Hid (mayB m t = false) := by
        unfold Hid mayB
        simp [h1, h2]
      rw [HV.out]
      clear HV
      go_enter Tryz.func74, Tryz.ntmps74
      go_wp2_with fail
      go_ret
      exact ⟨rfl, rfl⟩
  · skip
    have HV : Hid (mayB m t = false) := by
      unfold Hid mayB
      simp [h1]
    rw [HV.out]
    clear HV
    go_enter Tryz.func74, Tryz.ntmps74
    go_wp2_with fail
    go_ret
    exact ⟨rfl, rfl⟩
end Go.Proofs.YtmbibaccpeldoaaGreatDoor.W14
/-
  Layer 15 (prog), walks of the program's isPlace, isText and goesOn: whether a step may be. The conditions stand in the statements.
-/
namespace Go.Proofs.YtmbibaccpeldoaaGreatDoor.M15
set_option maxRecDepth 100000
open Go Go.Proofs.YtmbibaccpeldoaaGreatDoor.M13
/-- whether a step's text may be -/
def txtOk (k : Int) (t : ByteArray) : Bool := if k = 1 then decide (t.size = 1) else if k = 3 then good t.data.toList else decide (t.size = 0)
def place (a : Int) (n : Nat) : Bool := decide (0 ≤ a) && decide (a < n)
/-- whether a step goes on as those of its kind -/
def goes (k a b : Int) (n : Nat) : Bool :=
  if k = 6 then place a n && place b n else if k = 7 then decide (a = 0) && decide (b = 0) else if 1 ≤ k ∧ k ≤ 8 then place a n && decide (b = 0) else false
def okI (n : Nat) (x : Inst) : Bool := txtOk x.kind x.text && goes x.kind x.x x.y n
/-- whether a program may be -/
def rightP (l : List Inst) : Bool := l.all (okI l.length) && decide (0 < l.length)
def zero1 (c : UInt8) : Bool := decide (c = 48) || decide (c = 49)
theorem two_digit (c : UInt8) : ([48, 49] : List UInt8).contains c = zero1 c := by
  unfold zero1
  by_cases h1 : c = 48
  · subst h1; rfl
  · by_cases h2 : c = 49
    · subst h2; rfl
    · simp [h1, h2]
theorem drop_01 : ∀ (l : List UInt8), l.all zero1 = true → l.dropWhile zero1 = []
  | [], _ => rfl
  | c :: l, h => by
    rw [List.all_cons, Bool.and_eq_true] at h
    rw [List.dropWhile_cons_of_pos h.1]
    exact drop_01 l h.2
theorem trim_01 {t : List UInt8} : (Lib.trimS t [48, 49] == []) = t.all zero1 := by
  have e : (fun c => ([48, 49] : List UInt8).contains c) = zero1 := funext two_digit
  unfold Lib.trimS Lib.trimLeftS Lib.trimRightS
  rw [e]
  cases h : t.all zero1 with
  | true =>
    have : t.reverse.dropWhile zero1 = [] := by
      refine drop_01 _ (List.all_eq_true.2 fun x hx => ?_)
      exact List.all_eq_true.1 h x (List.mem_reverse.1 hx)
    rw [this]; rfl
  | false =>
    obtain ⟨x, hx, hn⟩ : ∃ x, x ∈ t ∧ zero1 x = false := by
      have := List.all_eq_false.1 h
      obtain ⟨x, hx, hn⟩ := this
      exact ⟨x, hx, by simpa using hn⟩
    have h1 : ∀ l : List UInt8, x ∈ l → x ∈ l.dropWhile zero1 := by
      intro l
      induction l with
      | nil => intro q; simp at q
      | cons d l ih =>
        intro q
        by_cases hd : zero1 d = true
        · rw [List.dropWhile_cons_of_pos hd]
          rcases List.mem_cons.1 q with q | q
          · subst q; rw [hn] at hd; cases hd
          · exact ih q
        · rw [List.dropWhile_cons_of_neg hd]; exact q
    have h2 := h1 _ (List.mem_reverse.2 (h1 _ (List.mem_reverse.2 hx)))
    cases hq : (List.dropWhile zero1 (List.dropWhile zero1 t.reverse).reverse) with
    | nil => rw [hq] at h2; simp at h2
    | cons a b => rfl
theorem good_is (t : ByteArray) (h : t.size = 256) : good t.data.toList = t.data.toList.all zero1 := by
  unfold good
  rw [← Lib.size_eq, decide_eq_true h, Bool.true_and]; rfl
theorem good_not (t : ByteArray) (h : ¬ t.size = 256) : good t.data.toList = false := by
  unfold good
  rw [← Lib.size_eq, decide_eq_false h, Bool.false_and]
end Go.Proofs.YtmbibaccpeldoaaGreatDoor.M15
namespace Go.Proofs.YtmbibaccpeldoaaGreatDoor.W15
open Go Go.RowKit Go.Proofs.YtmbibaccpeldoaaGreatDoor.Strs Go.Proofs.YtmbibaccpeldoaaGreatDoor.Recs Go.Proofs.YtmbibaccpeldoaaGreatDoor.M15
open Go.Proofs.YtmbibaccpeldoaaGreatDoor.M13 (good)
open Go.Proofs.YtmbibaccpeldoaaGreatDoor.Kit (below_draws on)

theorem trim01_any (s : ByteArray) (hs : s.size ≤ 1000000) (w : World) : Calls Tryz.prog 39 #[.string s, .string ⟨#[48, 49]⟩] w fun e w' => ∃ d : ByteArray, e = .returned (.string d) ∧ d.toList.isEmpty = s.data.toList.all zero1 ∧ Below w.heap.size w w' := by
  refine Calls.mono (Any.strings_Trim_laid Tryz.lays160 W14.info256 s ⟨#[48, 49]⟩ w (by omega) (by decide) (Go.Proofs.ascii_of_all (by decide))) ?_
  rintro e w1 ⟨rfl, hb⟩
  refine ⟨_, rfl, ?_, hb⟩
  rw [← trim_01, Lib.toList_data, W14.bytes_mk]
  show (Lib.trimS s.data.toList [48, 49]).isEmpty = _
  cases Lib.trimS s.data.toList [48, 49] <;> rfl
set_option maxHeartbeats 1000000 in
theorem isPlace_any (a : Int) (n : Nat) (w : World) : Calls Tryz.prog 40 #[.int .i64 a, .int .i64 n] w fun e w' => e = .returned (.bool (place a n)) ∧ w' = w := by
  unfold place
  by_cases h1 : 0 ≤ a
  · by_cases h2 : a < n
    · rw [decide_eq_true h1, decide_eq_true h2]
      go_enter Tryz.func40, Tryz.ntmps40
      go_wp2_with fail
      go_ret
      exact ⟨rfl, rfl⟩
    · rw [decide_eq_true h1, decide_eq_false h2]
      go_enter Tryz.func40, Tryz.ntmps40
      go_wp2_with fail
      go_ret
      exact ⟨rfl, rfl⟩
  · rw [decide_eq_false h1, Bool.false_and]
    go_enter Tryz.func40, Tryz.ntmps40
    go_wp2_with fail
    go_ret
    exact ⟨rfl, rfl⟩
set_option maxHeartbeats 2000000 in
theorem isText_any (x : Inst) (w : World) : Calls Tryz.prog 21 #[.agg (insA x)] w fun e w' => e = .returned (.bool (txtOk x.kind x.text)) ∧ Below w.heap.size w w' := by
  obtain ⟨k, t, a, b⟩ := x
  unfold txtOk
  simp only
  by_cases h1 : k = 1
  · subst h1
    rw [if_pos rfl]
    by_cases hz : t.size = 1
    · rw [decide_eq_true hz]
      have tz : ((t.size : Int) == 1) = true := by simp [hz]
      clear hz
      go_enter Tryz.func21, Tryz.ntmps21
      go_wp2_with (first
        | (refine box_ins (r := ⟨1, t, a, b⟩) rfl (.tmp 0) rfl rfl ?_; intro w1 b1 e1 p1 l1 z1; have c0 := p1.c0; have c1 := p1.c1; have L1 := Lib.hid l1; clear e1 p1 l1 z1; simp only at c0 c1))
      go_ret
      exact ⟨rfl, L1.out⟩
    · rw [decide_eq_false hz]
      have tz : ((t.size : Int) == 1) = false := by simp; omega
      clear hz
      go_enter Tryz.func21, Tryz.ntmps21
      go_wp2_with (first
        | (refine box_ins (r := ⟨1, t, a, b⟩) rfl (.tmp 0) rfl rfl ?_; intro w1 b1 e1 p1 l1 z1; have c0 := p1.c0; have c1 := p1.c1; have L1 := Lib.hid l1; clear e1 p1 l1 z1; simp only at c0 c1))
      go_ret
      exact ⟨rfl, L1.out⟩
  · rw [if_neg h1]
    have t1 : (k == 1) = false := by simpa using h1
    by_cases h3 : k = 3
    · subst h3
      rw [if_pos rfl]
      by_cases hz : t.size = 256
      · rw [good_is t hz]
        have tz : ((t.size : Int) == 256) = true := by simp [hz]
        have HT := Lib.hid (fun w => trim01_any t (by omega) w)
        clear hz
        generalize t.data.toList.all zero1 = g at *
        go_enter Tryz.func21, Tryz.ntmps21
        go_wp2_with (first
          | (refine box_ins (r := ⟨3, t, a, b⟩) rfl (.tmp 0) rfl rfl ?_; intro w1 b1 e1 p1 l1 z1; have c0 := p1.c0; have c1 := p1.c1; have L1 := Lib.hid l1; clear e1 p1 l1 z1; simp only at c0 c1))
        refine (HT.out _).mono ?_
        rintro e w2 ⟨d, rfl, hd, l2⟩
        have L2 := Lib.hid (on L1.out l2)
        clear l2
        go_wp2_with fail
        go_ret
        exact ⟨rfl, L2.out⟩
      · rw [good_not t hz]
        have tz : ((t.size : Int) == 256) = false := by simp; omega
        clear hz
        go_enter Tryz.func21, Tryz.ntmps21
        go_wp2_with (first
          | (refine box_ins (r := ⟨3, t, a, b⟩) rfl (.tmp 0) rfl rfl ?_; intro w1 b1 e1 p1 l1 z1; have c0 := p1.c0; have c1 := p1.c1; have L1 := Lib.hid l1; clear e1 p1 l1 z1; simp only at c0 c1))
        go_ret
        exact ⟨rfl, L1.out⟩
    · rw [if_neg h3]
      have t3 : (k == 3) = false := by simpa using h3
      clear h1 h3
      by_cases hz : t.size = 0
      · rw [decide_eq_true hz]
        have te := Kit.list_none (s := t) (by omega)
        clear hz
        go_enter Tryz.func21, Tryz.ntmps21
        go_wp2_with (first
          | (refine box_ins (r := ⟨k, t, a, b⟩) rfl (.tmp 0) rfl rfl ?_; intro w1 b1 e1 p1 l1 z1; have c0 := p1.c0; have c1 := p1.c1; have L1 := Lib.hid l1; clear e1 p1 l1 z1; simp only at c0 c1))
        go_ret
        exact ⟨rfl, L1.out⟩
      · rw [decide_eq_false hz]
        have te := Kit.list_full (s := t) (by omega)
        clear hz
        go_enter Tryz.func21, Tryz.ntmps21
        go_wp2_with (first
          | (refine box_ins (r := ⟨k, t, a, b⟩) rfl (.tmp 0) rfl rfl ?_; intro w1 b1 e1 p1 l1 z1; have c0 := p1.c0; have c1 := p1.c1; have L1 := Lib.hid l1; clear e1 p1 l1 z1; simp only at c0 c1))
        go_ret
        exact ⟨rfl, L1.out⟩
end Go.Proofs.YtmbibaccpeldoaaGreatDoor.W15
/-
  Layer 14 (pattern), walks of the program's numbers and times. The conditions stand in the statements.
-/
namespace Go.Proofs.YtmbibaccpeldoaaGreatDoor.W14
set_option maxRecDepth 100000
open Go Go.RowKit Go.Proofs.YtmbibaccpeldoaaGreatDoor.M14
open Go.Proofs.YtmbibaccpeldoaaGreatDoor.Row256 (Beside)
open Go.Proofs.YtmbibaccpeldoaaGreatDoor.Kit (ret_str ret_bool ret_int mk_of mk_bytes ba_ext below_draws on list_full list_ne list_none list_nil)

def CutB (w : World) (d : Bool) (A B : List UInt8) (e : Ending) (w' : World) : Prop := ∃ a b : ByteArray, e = .returned (.tuple #[.string a, .string b, .bool d]) ∧ a.data.toList = A ∧ b.data.toList = B ∧ Below w.heap.size w w'
theorem cutB_any {s : ByteArray} {l A B : List UInt8} {d : Bool} (hs : s.size ≤ 1000000) (c : UInt8) (hl : s.data.toList = l) (hd : decide (c ∈ l) = d) (hA : before c l = A) (hB : behind c l = B) (w : World) : Calls Tryz.prog 104 #[.string s, .string ⟨#[c]⟩] w (CutB w d A B) := by
  subst hl hd hA hB
  refine (cut_any s hs c w).mono ?_
  rintro e w' ⟨a, b, h, h1, h2, n, rfl⟩
  exact ⟨a, b, h, h1, h2, below_draws w n⟩
/-- how often, told by what; an error -/
def numV (r : Int × Int × Int × Nat) : Value := .tuple #[.int .i64 r.2.1, .int .i64 r.2.2.1, .int .i64 r.2.2.2, .int .i64 r.1]
theorem isEmpty_of {g : ByteArray} {G : List UInt8} (h : g.data.toList = G) : g.toList.isEmpty = G.isEmpty := by rw [Lib.toList_data, h]
theorem results_tmp4 {fn : Func} {a b c d : Tmp} (h : fn.results = #[.tmp a, .tmp b, .tmp c, .tmp d]) (tmps : Array Value) (P : Program) (w : World) : (results fn tmps).run P w = .ok (.tuple #[tmps.getD a undef, tmps.getD b undef, tmps.getD c undef, tmps.getD d undef]) w := by
  simp [results, h]
set_option maxHeartbeats 1000000 in
theorem numbers_open0 {s : ByteArray} (h0 : 0 < s.size) (hs : s.size ≤ 1000000) {l A F G : List UInt8} (hl : s.data.toList.drop 1 = l) (hA : before 125 l = A) (hF : before 44 A = F) (hG : behind 44 A = G)
    (h125 : ¬ (125 : UInt8) ∈ l) (h44 : ¬ (44 : UInt8) ∈ A) (w : World) : Calls Tryz.prog 95 #[.string s] w fun e w' => e = .returned (numV no3) ∧ Below w.heap.size w w' := by
  have hq : (s.extract 1 s.size).data.toList = l := by rw [Kit.drop_bytes, hl]
  have hq2 : (s.extract 1 s.size).size ≤ 1000000 := by rw [ByteArray.size_extract]; omega
  have h1 : (1 : Int) ≤ (s.size : Int) := by omega
  have HC1 := Lib.hid (cutB_any hq2 125 hq (decide_eq_false h125) hA rfl w)
  have HA : ∀ a : ByteArray, a.data.toList = A → a.size = A.length := fun a h => by rw [Lib.size_eq, h]
  have hAl : A.length ≤ 1000000 := by
    rw [← hA]
    have e1 := (List.takeWhile_sublist (l := l) (fun x => decide (x ≠ 125))).length_le
    have e2 : l.length = s.size - 1 := by rw [← hl, List.length_drop, ← Lib.size_eq]
    unfold before
    omega
  clear hq hq2
  go_enter Tryz.func95, Tryz.ntmps95
  go_wp2_with fail
  refine HC1.out.mono ?_
  rintro e w1 ⟨a, b, rfl, ha, hb, l1⟩
  have hal := HA a ha
  have HC2 := Lib.hid (cutB_any (by omega) 44 ha (decide_eq_false h44) hF hG w1)
  have L1 := Lib.hid l1
  clear hb l1
  go_wp2_with fail
  refine HC2.out.mono ?_
  rintro e w2 ⟨f, g, rfl, hf, hg, l2⟩
  have L2 := Lib.hid (on L1.out l2)
  have HF := Lib.hid hf
  have HG := Lib.hid hg
  have hfs : f.size ≤ 1000000 := by
    rw [Lib.size_eq, hf, ← hF]
    have e1 := (List.takeWhile_sublist (l := A) (fun x => decide (x ≠ 44))).length_le
    unfold before
    omega
  have hgs : g.size ≤ 1000000 := by
    rw [Lib.size_eq, hg, ← hG]
    have e1 := (List.dropWhile_sublist (l := A) (fun x => decide (x ≠ 44))).length_le
    unfold behind
    rw [List.length_drop]
    omega
  have HE := isEmpty_of hg
  clear l2 hf hg
  go_wp2_with fail
  refine bodyPost_ret (results_tmp4 rfl _ _ _) rfl ?_
  exact ⟨rfl, L2.out⟩
set_option maxHeartbeats 1000000 in
theorem numbers_open1 {s : ByteArray} (h0 : 0 < s.size) (hs : s.size ≤ 1000000) {l A F G : List UInt8} (hl : s.data.toList.drop 1 = l) (hA : before 125 l = A) (hF : before 44 A = F) (hG : behind 44 A = G)
    (h125 : ¬ (125 : UInt8) ∈ l) (h44 : (44 : UInt8) ∈ A) (w : World) : Calls Tryz.prog 95 #[.string s] w fun e w' => e = .returned (numV no3) ∧ Below w.heap.size w w' := by
  have hq : (s.extract 1 s.size).data.toList = l := by rw [Kit.drop_bytes, hl]
  have hq2 : (s.extract 1 s.size).size ≤ 1000000 := by rw [ByteArray.size_extract]; omega
  have h1 : (1 : Int) ≤ (s.size : Int) := by omega
  have HC1 := Lib.hid (cutB_any hq2 125 hq (decide_eq_false h125) hA rfl w)
  have HA : ∀ a : ByteArray, a.data.toList = A → a.size = A.length := fun a h => by rw [Lib.size_eq, h]
  have hAl : A.length ≤ 1000000 := by
    rw [← hA]
    have e1 := (List.takeWhile_sublist (l := l) (fun x => decide (x ≠ 125))).length_le
    have e2 : l.length = s.size - 1 := by rw [← hl, List.length_drop, ← Lib.size_eq]
    unfold before
    omega
  clear hq hq2
  go_enter Tryz.func95, Tryz.ntmps95
  go_wp2_with fail
  refine HC1.out.mono ?_
  rintro e w1 ⟨a, b, rfl, ha, hb, l1⟩
  have hal := HA a ha
  have HC2 := Lib.hid (cutB_any (by omega) 44 ha (decide_eq_true h44) hF hG w1)
  have L1 := Lib.hid l1
  clear hb l1
  go_wp2_with fail
  refine HC2.out.mono ?_
  rintro e w2 ⟨f, g, rfl, hf, hg, l2⟩
  have L2 := Lib.hid (on L1.out l2)
  have HF := Lib.hid hf
  have HG := Lib.hid hg
  have hfs : f.size ≤ 1000000 := by
    rw [Lib.size_eq, hf, ← hF]
    have e1 := (List.takeWhile_sublist (l := A) (fun x => decide (x ≠ 44))).length_le
    unfold before
    omega
  have hgs : g.size ≤ 1000000 := by
    rw [Lib.size_eq, hg, ← hG]
    have e1 := (List.dropWhile_sublist (l := A) (fun x => decide (x ≠ 44))).length_le
    unfold behind
    rw [List.length_drop]
    omega
  have HE := isEmpty_of hg
  clear l2 hf hg
  cases hge : g.toList.isEmpty
  · skip
    go_wp2_with fail
    refine bodyPost_ret (results_tmp4 rfl _ _ _) rfl ?_
    exact ⟨rfl, L2.out⟩
  · skip
    go_wp2_with fail
    refine bodyPost_ret (results_tmp4 rfl _ _ _) rfl ?_
    exact ⟨rfl, L2.out⟩
set_option maxHeartbeats 1000000 in
theorem numbers_first0 {s : ByteArray} (h0 : 0 < s.size) (hs : s.size ≤ 1000000) {l A F G : List UInt8} (hl : s.data.toList.drop 1 = l) (hA : before 125 l = A) (hF : before 44 A = F) (hG : behind 44 A = G)
    (h125 : (125 : UInt8) ∈ l) (h44 : ¬ (44 : UInt8) ∈ A) (hfn : isNum F = false) (w : World) : Calls Tryz.prog 95 #[.string s] w fun e w' => e = .returned (numV no3) ∧ Below w.heap.size w w' := by
  have hq : (s.extract 1 s.size).data.toList = l := by rw [Kit.drop_bytes, hl]
  have hq2 : (s.extract 1 s.size).size ≤ 1000000 := by rw [ByteArray.size_extract]; omega
  have h1 : (1 : Int) ≤ (s.size : Int) := by omega
  have HC1 := Lib.hid (cutB_any hq2 125 hq (decide_eq_true h125) hA rfl w)
  have HA : ∀ a : ByteArray, a.data.toList = A → a.size = A.length := fun a h => by rw [Lib.size_eq, h]
  have hAl : A.length ≤ 1000000 := by
    rw [← hA]
    have e1 := (List.takeWhile_sublist (l := l) (fun x => decide (x ≠ 125))).length_le
    have e2 : l.length = s.size - 1 := by rw [← hl, List.length_drop, ← Lib.size_eq]
    unfold before
    omega
  clear hq hq2
  go_enter Tryz.func95, Tryz.ntmps95
  go_wp2_with fail
  refine HC1.out.mono ?_
  rintro e w1 ⟨a, b, rfl, ha, hb, l1⟩
  have hal := HA a ha
  have HC2 := Lib.hid (cutB_any (by omega) 44 ha (decide_eq_false h44) hF hG w1)
  have L1 := Lib.hid l1
  clear hb l1
  go_wp2_with fail
  refine HC2.out.mono ?_
  rintro e w2 ⟨f, g, rfl, hf, hg, l2⟩
  have L2 := Lib.hid (on L1.out l2)
  have HF := Lib.hid hf
  have HG := Lib.hid hg
  have hfs : f.size ≤ 1000000 := by
    rw [Lib.size_eq, hf, ← hF]
    have e1 := (List.takeWhile_sublist (l := A) (fun x => decide (x ≠ 44))).length_le
    unfold before
    omega
  have hgs : g.size ≤ 1000000 := by
    rw [Lib.size_eq, hg, ← hG]
    have e1 := (List.dropWhile_sublist (l := A) (fun x => decide (x ≠ 44))).length_le
    unfold behind
    rw [List.length_drop]
    omega
  have HE := isEmpty_of hg
  clear l2 hf hg
  go_wp2_with fail
  refine (isNumber_any f hfs _).mono ?_
  rintro e w3 ⟨rfl, l3⟩
  have L3 := Lib.hid (on L2.out l3)
  rw [HF.out, hfn]
  clear l3
  go_wp2_with fail
  refine bodyPost_ret (results_tmp4 rfl _ _ _) rfl ?_
  exact ⟨rfl, L3.out⟩
set_option maxHeartbeats 1000000 in
theorem numbers_first1 {s : ByteArray} (h0 : 0 < s.size) (hs : s.size ≤ 1000000) {l A F G : List UInt8} (hl : s.data.toList.drop 1 = l) (hA : before 125 l = A) (hF : before 44 A = F) (hG : behind 44 A = G)
    (h125 : (125 : UInt8) ∈ l) (h44 : (44 : UInt8) ∈ A) (hfn : isNum F = false) (w : World) : Calls Tryz.prog 95 #[.string s] w fun e w' => e = .returned (numV no3) ∧ Below w.heap.size w w' := by
  have hq : (s.extract 1 s.size).data.toList = l := by rw [Kit.drop_bytes, hl]
  have hq2 : (s.extract 1 s.size).size ≤ 1000000 := by rw [ByteArray.size_extract]; omega
  have h1 : (1 : Int) ≤ (s.size : Int) := by omega
  have HC1 := Lib.hid (cutB_any hq2 125 hq (decide_eq_true h125) hA rfl w)
  have HA : ∀ a : ByteArray, a.data.toList = A → a.size = A.length := fun a h => by rw [Lib.size_eq, h]
  have hAl : A.length ≤ 1000000 := by
    rw [← hA]
    have e1 := (List.takeWhile_sublist (l := l) (fun x => decide (x ≠ 125))).length_le
    have e2 : l.length = s.size - 1 := by rw [← hl, List.length_drop, ← Lib.size_eq]
    unfold before
    omega
  clear hq hq2
  go_enter Tryz.func95, Tryz.ntmps95
  go_wp2_with fail
  refine HC1.out.mono ?_
  rintro e w1 ⟨a, b, rfl, ha, hb, l1⟩
  have hal := HA a ha
  have HC2 := Lib.hid (cutB_any (by omega) 44 ha (decide_eq_true h44) hF hG w1)
  have L1 := Lib.hid l1
  clear hb l1
  go_wp2_with fail
  refine HC2.out.mono ?_
  rintro e w2 ⟨f, g, rfl, hf, hg, l2⟩
  have L2 := Lib.hid (on L1.out l2)
  have HF := Lib.hid hf
  have HG := Lib.hid hg
  have hfs : f.size ≤ 1000000 := by
    rw [Lib.size_eq, hf, ← hF]
    have e1 := (List.takeWhile_sublist (l := A) (fun x => decide (x ≠ 44))).length_le
    unfold before
    omega
  have hgs : g.size ≤ 1000000 := by
    rw [Lib.size_eq, hg, ← hG]
    have e1 := (List.dropWhile_sublist (l := A) (fun x => decide (x ≠ 44))).length_le
    unfold behind
    rw [List.length_drop]
    omega
  have HE := isEmpty_of hg
  clear l2 hf hg
  cases hge : g.toList.isEmpty
  · skip
    go_wp2_with fail
    refine (isNumber_any f hfs _).mono ?_
    rintro e w3 ⟨rfl, l3⟩
    have L3 := Lib.hid (on L2.out l3)
    rw [HF.out, hfn]
    clear l3
    go_wp2_with fail
    refine bodyPost_ret (results_tmp4 rfl _ _ _) rfl ?_
    exact ⟨rfl, L3.out⟩
  · skip
    go_wp2_with fail
    refine (isNumber_any f hfs _).mono ?_
    rintro e w3 ⟨rfl, l3⟩
    have L3 := Lib.hid (on L2.out l3)
    rw [HF.out, hfn]
    clear l3
    go_wp2_with fail
    refine bodyPost_ret (results_tmp4 rfl _ _ _) rfl ?_
    exact ⟨rfl, L3.out⟩
set_option maxHeartbeats 1000000 in
theorem numbers_one {s : ByteArray} (h0 : 0 < s.size) (hs : s.size ≤ 1000000) {l A F G : List UInt8} (hl : s.data.toList.drop 1 = l) (hA : before 125 l = A) (hF : before 44 A = F) (hG : behind 44 A = G)
    (h125 : (125 : UInt8) ∈ l) (h44 : ¬ (44 : UInt8) ∈ A) (hfn : isNum F = true) (hm : mayB (val F) (val F) = true) (w : World) : Calls Tryz.prog 95 #[.string s] w fun e w' => e = .returned (numV (0, val F, val F, A.length + 2)) ∧ Below w.heap.size w w' := by
  have hq : (s.extract 1 s.size).data.toList = l := by rw [Kit.drop_bytes, hl]
  have hq2 : (s.extract 1 s.size).size ≤ 1000000 := by rw [ByteArray.size_extract]; omega
  have h1 : (1 : Int) ≤ (s.size : Int) := by omega
  have HC1 := Lib.hid (cutB_any hq2 125 hq (decide_eq_true h125) hA rfl w)
  have HA : ∀ a : ByteArray, a.data.toList = A → a.size = A.length := fun a h => by rw [Lib.size_eq, h]
  have hAl : A.length ≤ 1000000 := by
    rw [← hA]
    have e1 := (List.takeWhile_sublist (l := l) (fun x => decide (x ≠ 125))).length_le
    have e2 : l.length = s.size - 1 := by rw [← hl, List.length_drop, ← Lib.size_eq]
    unfold before
    omega
  clear hq hq2
  go_enter Tryz.func95, Tryz.ntmps95
  go_wp2_with fail
  refine HC1.out.mono ?_
  rintro e w1 ⟨a, b, rfl, ha, hb, l1⟩
  have hal := HA a ha
  have HC2 := Lib.hid (cutB_any (by omega) 44 ha (decide_eq_false h44) hF hG w1)
  have L1 := Lib.hid l1
  clear hb l1
  go_wp2_with fail
  refine HC2.out.mono ?_
  rintro e w2 ⟨f, g, rfl, hf, hg, l2⟩
  have L2 := Lib.hid (on L1.out l2)
  have HF := Lib.hid hf
  have HG := Lib.hid hg
  have hfs : f.size ≤ 1000000 := by
    rw [Lib.size_eq, hf, ← hF]
    have e1 := (List.takeWhile_sublist (l := A) (fun x => decide (x ≠ 44))).length_le
    unfold before
    omega
  have hgs : g.size ≤ 1000000 := by
    rw [Lib.size_eq, hg, ← hG]
    have e1 := (List.dropWhile_sublist (l := A) (fun x => decide (x ≠ 44))).length_le
    unfold behind
    rw [List.length_drop]
    omega
  have HE := isEmpty_of hg
  clear l2 hf hg
  go_wp2_with fail
  refine (isNumber_any f hfs _).mono ?_
  rintro e w3 ⟨rfl, l3⟩
  have L3 := Lib.hid (on L2.out l3)
  rw [HF.out, hfn]
  clear l3
  go_wp2_with fail
  refine (isNumber_any f hfs _).mono ?_
  rintro e w4 ⟨rfl, l4⟩
  have L4 := Lib.hid (on L3.out l4)
  rw [HF.out, hfn]
  clear l4
  go_wp2_with fail
  refine (value_any f (by rw [HF.out]; exact hfn) _).mono ?_
  rintro e w5 ⟨rfl, l5⟩
  have L5 := Lib.hid (on L4.out l5)
  rw [HF.out]
  clear l5
  go_wp2_with fail
  refine (value_any f (by rw [HF.out]; exact hfn) _).mono ?_
  rintro e w6 ⟨rfl, l6⟩
  have L6 := Lib.hid (on L5.out l6)
  rw [HF.out]
  clear l6
  go_wp2_with fail
  refine (mayBe_any _ _ _).mono ?_
  rintro e w9 ⟨rfl, rfl⟩
  rw [hm]
  have hw : wrap64 ((a.size : Int) + 2) = ((A.length + 2 : Nat) : Int) := by rw [hal]; unfold wrap64; omega
  go_wp2_with fail
  refine bodyPost_ret (results_tmp4 rfl _ _ _) rfl ?_
  refine ⟨?_, L6.out⟩
  first | rfl | (simp only [hw]; rfl)
set_option maxHeartbeats 1000000 in
theorem numbers_oneBad {s : ByteArray} (h0 : 0 < s.size) (hs : s.size ≤ 1000000) {l A F G : List UInt8} (hl : s.data.toList.drop 1 = l) (hA : before 125 l = A) (hF : before 44 A = F) (hG : behind 44 A = G)
    (h125 : (125 : UInt8) ∈ l) (h44 : ¬ (44 : UInt8) ∈ A) (hfn : isNum F = true) (hm : mayB (val F) (val F) = false) (w : World) : Calls Tryz.prog 95 #[.string s] w fun e w' => e = .returned (numV (4, 0, 0, 0)) ∧ Below w.heap.size w w' := by
  have hq : (s.extract 1 s.size).data.toList = l := by rw [Kit.drop_bytes, hl]
  have hq2 : (s.extract 1 s.size).size ≤ 1000000 := by rw [ByteArray.size_extract]; omega
  have h1 : (1 : Int) ≤ (s.size : Int) := by omega
  have HC1 := Lib.hid (cutB_any hq2 125 hq (decide_eq_true h125) hA rfl w)
  have HA : ∀ a : ByteArray, a.data.toList = A → a.size = A.length := fun a h => by rw [Lib.size_eq, h]
  have hAl : A.length ≤ 1000000 := by
    rw [← hA]
    have e1 := (List.takeWhile_sublist (l := l) (fun x => decide (x ≠ 125))).length_le
    have e2 : l.length = s.size - 1 := by rw [← hl, List.length_drop, ← Lib.size_eq]
    unfold before
    omega
  clear hq hq2
  go_enter Tryz.func95, Tryz.ntmps95
  go_wp2_with fail
  refine HC1.out.mono ?_
  rintro e w1 ⟨a, b, rfl, ha, hb, l1⟩
  have hal := HA a ha
  have HC2 := Lib.hid (cutB_any (by omega) 44 ha (decide_eq_false h44) hF hG w1)
  have L1 := Lib.hid l1
  clear hb l1
  go_wp2_with fail
  refine HC2.out.mono ?_
  rintro e w2 ⟨f, g, rfl, hf, hg, l2⟩
  have L2 := Lib.hid (on L1.out l2)
  have HF := Lib.hid hf
  have HG := Lib.hid hg
  have hfs : f.size ≤ 1000000 := by
    rw [Lib.size_eq, hf, ← hF]
    have e1 := (List.takeWhile_sublist (l := A) (fun x => decide (x ≠ 44))).length_le
    unfold before
    omega
  have hgs : g.size ≤ 1000000 := by
    rw [Lib.size_eq, hg, ← hG]
    have e1 := (List.dropWhile_sublist (l := A) (fun x => decide (x ≠ 44))).length_le
    unfold behind
    rw [List.length_drop]
    omega
  have HE := isEmpty_of hg
  clear l2 hf hg
  go_wp2_with fail
  refine (isNumber_any f hfs _).mono ?_
  rintro e w3 ⟨rfl, l3⟩
  have L3 := Lib.hid (on L2.out l3)
  rw [HF.out, hfn]
  clear l3
  go_wp2_with fail
  refine (isNumber_any f hfs _).mono ?_
  rintro e w4 ⟨rfl, l4⟩
  have L4 := Lib.hid (on L3.out l4)
  rw [HF.out, hfn]
  clear l4
  go_wp2_with fail
  refine (value_any f (by rw [HF.out]; exact hfn) _).mono ?_
  rintro e w5 ⟨rfl, l5⟩
  have L5 := Lib.hid (on L4.out l5)
  rw [HF.out]
  clear l5
  go_wp2_with fail
  refine (value_any f (by rw [HF.out]; exact hfn) _).mono ?_
  rintro e w6 ⟨rfl, l6⟩
  have L6 := Lib.hid (on L5.out l6)
  rw [HF.out]
  clear l6
  go_wp2_with fail
  refine (mayBe_any _ _ _).mono ?_
  rintro e w9 ⟨rfl, rfl⟩
  rw [hm]
  go_wp2_with fail
  refine bodyPost_ret (results_tmp4 rfl _ _ _) rfl ?_
  exact ⟨rfl, L6.out⟩
set_option maxHeartbeats 1000000 in
theorem numbers_more {s : ByteArray} (h0 : 0 < s.size) (hs : s.size ≤ 1000000) {l A F G : List UInt8} (hl : s.data.toList.drop 1 = l) (hA : before 125 l = A) (hF : before 44 A = F) (hG : behind 44 A = G)
    (h125 : (125 : UInt8) ∈ l) (h44 : (44 : UInt8) ∈ A) (hfn : isNum F = true) (hge : G = []) (hm : mayB (val F) (-1) = true) (w : World) : Calls Tryz.prog 95 #[.string s] w fun e w' => e = .returned (numV (0, val F, -1, A.length + 2)) ∧ Below w.heap.size w w' := by
  have hq : (s.extract 1 s.size).data.toList = l := by rw [Kit.drop_bytes, hl]
  have hq2 : (s.extract 1 s.size).size ≤ 1000000 := by rw [ByteArray.size_extract]; omega
  have h1 : (1 : Int) ≤ (s.size : Int) := by omega
  have HC1 := Lib.hid (cutB_any hq2 125 hq (decide_eq_true h125) hA rfl w)
  have HA : ∀ a : ByteArray, a.data.toList = A → a.size = A.length := fun a h => by rw [Lib.size_eq, h]
  have hAl : A.length ≤ 1000000 := by
    rw [← hA]
    have e1 := (List.takeWhile_sublist (l := l) (fun x => decide (x ≠ 125))).length_le
    have e2 : l.length = s.size - 1 := by rw [← hl, List.length_drop, ← Lib.size_eq]
    unfold before
    omega
  clear hq hq2
  go_enter Tryz.func95, Tryz.ntmps95
  go_wp2_with fail
  refine HC1.out.mono ?_
  rintro e w1 ⟨a, b, rfl, ha, hb, l1⟩
  have hal := HA a ha
  have HC2 := Lib.hid (cutB_any (by omega) 44 ha (decide_eq_true h44) hF hG w1)
  have L1 := Lib.hid l1
  clear hb l1
  go_wp2_with fail
  refine HC2.out.mono ?_
  rintro e w2 ⟨f, g, rfl, hf, hg, l2⟩
  have L2 := Lib.hid (on L1.out l2)
  have HF := Lib.hid hf
  have HG := Lib.hid hg
  have hfs : f.size ≤ 1000000 := by
    rw [Lib.size_eq, hf, ← hF]
    have e1 := (List.takeWhile_sublist (l := A) (fun x => decide (x ≠ 44))).length_le
    unfold before
    omega
  have hgs : g.size ≤ 1000000 := by
    rw [Lib.size_eq, hg, ← hG]
    have e1 := (List.dropWhile_sublist (l := A) (fun x => decide (x ≠ 44))).length_le
    unfold behind
    rw [List.length_drop]
    omega
  have HE := isEmpty_of hg
  clear l2 hf hg
  rw [hge] at HE
  have he : g.toList.isEmpty = true := HE
  clear HE
  go_wp2_with fail
  refine (isNumber_any f hfs _).mono ?_
  rintro e w3 ⟨rfl, l3⟩
  have L3 := Lib.hid (on L2.out l3)
  rw [HF.out, hfn]
  clear l3
  go_wp2_with fail
  refine (value_any f (by rw [HF.out]; exact hfn) _).mono ?_
  rintro e w4 ⟨rfl, l4⟩
  have L4 := Lib.hid (on L3.out l4)
  rw [HF.out]
  clear l4
  go_wp2_with fail
  refine (mayBe_any _ _ _).mono ?_
  rintro e w9 ⟨rfl, rfl⟩
  rw [hm]
  have hw : wrap64 ((a.size : Int) + 2) = ((A.length + 2 : Nat) : Int) := by rw [hal]; unfold wrap64; omega
  go_wp2_with fail
  refine bodyPost_ret (results_tmp4 rfl _ _ _) rfl ?_
  refine ⟨?_, L4.out⟩
  first | rfl | (simp only [hw]; rfl)
set_option maxHeartbeats 1000000 in
theorem numbers_moreBad {s : ByteArray} (h0 : 0 < s.size) (hs : s.size ≤ 1000000) {l A F G : List UInt8} (hl : s.data.toList.drop 1 = l) (hA : before 125 l = A) (hF : before 44 A = F) (hG : behind 44 A = G)
    (h125 : (125 : UInt8) ∈ l) (h44 : (44 : UInt8) ∈ A) (hfn : isNum F = true) (hge : G = []) (hm : mayB (val F) (-1) = false) (w : World) : Calls Tryz.prog 95 #[.string s] w fun e w' => e = .returned (numV (4, 0, 0, 0)) ∧ Below w.heap.size w w' := by
  have hq : (s.extract 1 s.size).data.toList = l := by rw [Kit.drop_bytes, hl]
  have hq2 : (s.extract 1 s.size).size ≤ 1000000 := by rw [ByteArray.size_extract]; omega
  have h1 : (1 : Int) ≤ (s.size : Int) := by omega
  have HC1 := Lib.hid (cutB_any hq2 125 hq (decide_eq_true h125) hA rfl w)
  have HA : ∀ a : ByteArray, a.data.toList = A → a.size = A.length := fun a h => by rw [Lib.size_eq, h]
  have hAl : A.length ≤ 1000000 := by
    rw [← hA]
    have e1 := (List.takeWhile_sublist (l := l) (fun x => decide (x ≠ 125))).length_le
    have e2 : l.length = s.size - 1 := by rw [← hl, List.length_drop, ← Lib.size_eq]
    unfold before
    omega
  clear hq hq2
  go_enter Tryz.func95, Tryz.ntmps95
  go_wp2_with fail
  refine HC1.out.mono ?_
  rintro e w1 ⟨a, b, rfl, ha, hb, l1⟩
  have hal := HA a ha
  have HC2 := Lib.hid (cutB_any (by omega) 44 ha (decide_eq_true h44) hF hG w1)
  have L1 := Lib.hid l1
  clear hb l1
  go_wp2_with fail
  refine HC2.out.mono ?_
  rintro e w2 ⟨f, g, rfl, hf, hg, l2⟩
  have L2 := Lib.hid (on L1.out l2)
  have HF := Lib.hid hf
  have HG := Lib.hid hg
  have hfs : f.size ≤ 1000000 := by
    rw [Lib.size_eq, hf, ← hF]
    have e1 := (List.takeWhile_sublist (l := A) (fun x => decide (x ≠ 44))).length_le
    unfold before
    omega
  have hgs : g.size ≤ 1000000 := by
    rw [Lib.size_eq, hg, ← hG]
    have e1 := (List.dropWhile_sublist (l := A) (fun x => decide (x ≠ 44))).length_le
    unfold behind
    rw [List.length_drop]
    omega
  have HE := isEmpty_of hg
  clear l2 hf hg
  rw [hge] at HE
  have he : g.toList.isEmpty = true := HE
  clear HE
  go_wp2_with fail
  refine (isNumber_any f hfs _).mono ?_
  rintro e w3 ⟨rfl, l3⟩
  have L3 := Lib.hid (on L2.out l3)
  rw [HF.out, hfn]
  clear l3
  go_wp2_with fail
  refine (value_any f (by rw [HF.out]; exact hfn) _).mono ?_
  rintro e w4 ⟨rfl, l4⟩
  have L4 := Lib.hid (on L3.out l4)
  rw [HF.out]
  clear l4
  go_wp2_with fail
  refine (mayBe_any _ _ _).mono ?_
  rintro e w9 ⟨rfl, rfl⟩
  rw [hm]
  go_wp2_with fail
  refine bodyPost_ret (results_tmp4 rfl _ _ _) rfl ?_
  exact ⟨rfl, L4.out⟩
set_option maxHeartbeats 1000000 in
theorem numbers_second {s : ByteArray} (h0 : 0 < s.size) (hs : s.size ≤ 1000000) {l A F G : List UInt8} (hl : s.data.toList.drop 1 = l) (hA : before 125 l = A) (hF : before 44 A = F) (hG : behind 44 A = G)
    (h125 : (125 : UInt8) ∈ l) (h44 : (44 : UInt8) ∈ A) (hfn : isNum F = true) (hge : ¬ G = []) (hgn : isNum G = false) (w : World) : Calls Tryz.prog 95 #[.string s] w fun e w' => e = .returned (numV no3) ∧ Below w.heap.size w w' := by
  have hq : (s.extract 1 s.size).data.toList = l := by rw [Kit.drop_bytes, hl]
  have hq2 : (s.extract 1 s.size).size ≤ 1000000 := by rw [ByteArray.size_extract]; omega
  have h1 : (1 : Int) ≤ (s.size : Int) := by omega
  have HC1 := Lib.hid (cutB_any hq2 125 hq (decide_eq_true h125) hA rfl w)
  have HA : ∀ a : ByteArray, a.data.toList = A → a.size = A.length := fun a h => by rw [Lib.size_eq, h]
  have hAl : A.length ≤ 1000000 := by
    rw [← hA]
    have e1 := (List.takeWhile_sublist (l := l) (fun x => decide (x ≠ 125))).length_le
    have e2 : l.length = s.size - 1 := by rw [← hl, List.length_drop, ← Lib.size_eq]
    unfold before
    omega
  clear hq hq2
  go_enter Tryz.func95, Tryz.ntmps95
  go_wp2_with fail
  refine HC1.out.mono ?_
  rintro e w1 ⟨a, b, rfl, ha, hb, l1⟩
  have hal := HA a ha
  have HC2 := Lib.hid (cutB_any (by omega) 44 ha (decide_eq_true h44) hF hG w1)
  have L1 := Lib.hid l1
  clear hb l1
  go_wp2_with fail
  refine HC2.out.mono ?_
  rintro e w2 ⟨f, g, rfl, hf, hg, l2⟩
  have L2 := Lib.hid (on L1.out l2)
  have HF := Lib.hid hf
  have HG := Lib.hid hg
  have hfs : f.size ≤ 1000000 := by
    rw [Lib.size_eq, hf, ← hF]
    have e1 := (List.takeWhile_sublist (l := A) (fun x => decide (x ≠ 44))).length_le
    unfold before
    omega
  have hgs : g.size ≤ 1000000 := by
    rw [Lib.size_eq, hg, ← hG]
    have e1 := (List.dropWhile_sublist (l := A) (fun x => decide (x ≠ 44))).length_le
    unfold behind
    rw [List.length_drop]
    omega
  have HE := isEmpty_of hg
  clear l2 hf hg
  have he : g.toList.isEmpty = false := by rw [HE]; cases G with | nil => exact absurd rfl hge | cons _ _ => rfl
  clear HE
  go_wp2_with fail
  refine (isNumber_any f hfs _).mono ?_
  rintro e w3 ⟨rfl, l3⟩
  have L3 := Lib.hid (on L2.out l3)
  rw [HF.out, hfn]
  clear l3
  go_wp2_with fail
  refine (isNumber_any g hgs _).mono ?_
  rintro e w4 ⟨rfl, l4⟩
  have L4 := Lib.hid (on L3.out l4)
  rw [HG.out, hgn]
  clear l4
  go_wp2_with fail
  refine bodyPost_ret (results_tmp4 rfl _ _ _) rfl ?_
  exact ⟨rfl, L4.out⟩
set_option maxHeartbeats 1000000 in
theorem numbers_two {s : ByteArray} (h0 : 0 < s.size) (hs : s.size ≤ 1000000) {l A F G : List UInt8} (hl : s.data.toList.drop 1 = l) (hA : before 125 l = A) (hF : before 44 A = F) (hG : behind 44 A = G)
    (h125 : (125 : UInt8) ∈ l) (h44 : (44 : UInt8) ∈ A) (hfn : isNum F = true) (hge : ¬ G = []) (hgn : isNum G = true) (hm : mayB (val F) (val G) = true) (w : World) : Calls Tryz.prog 95 #[.string s] w fun e w' => e = .returned (numV (0, val F, val G, A.length + 2)) ∧ Below w.heap.size w w' := by
  have hq : (s.extract 1 s.size).data.toList = l := by rw [Kit.drop_bytes, hl]
  have hq2 : (s.extract 1 s.size).size ≤ 1000000 := by rw [ByteArray.size_extract]; omega
  have h1 : (1 : Int) ≤ (s.size : Int) := by omega
  have HC1 := Lib.hid (cutB_any hq2 125 hq (decide_eq_true h125) hA rfl w)
  have HA : ∀ a : ByteArray, a.data.toList = A → a.size = A.length := fun a h => by rw [Lib.size_eq, h]
  have hAl : A.length ≤ 1000000 := by
    rw [← hA]
    have e1 := (List.takeWhile_sublist (l := l) (fun x => decide (x ≠ 125))).length_le
    have e2 : l.length = s.size - 1 := by rw [← hl, List.length_drop, ← Lib.size_eq]
    unfold before
    omega
  clear hq hq2
  go_enter Tryz.func95, Tryz.ntmps95
  go_wp2_with fail
  refine HC1.out.mono ?_
  rintro e w1 ⟨a, b, rfl, ha, hb, l1⟩
  have hal := HA a ha
  have HC2 := Lib.hid (cutB_any (by omega) 44 ha (decide_eq_true h44) hF hG w1)
  have L1 := Lib.hid l1
  clear hb l1
  go_wp2_with fail
  refine HC2.out.mono ?_
  rintro e w2 ⟨f, g, rfl, hf, hg, l2⟩
  have L2 := Lib.hid (on L1.out l2)
  have HF := Lib.hid hf
  have HG := Lib.hid hg
  have hfs : f.size ≤ 1000000 := by
    rw [Lib.size_eq, hf, ← hF]
    have e1 := (List.takeWhile_sublist (l := A) (fun x => decide (x ≠ 44))).length_le
    unfold before
    omega
  have hgs : g.size ≤ 1000000 := by
    rw [Lib.size_eq, hg, ← hG]
    have e1 := (List.dropWhile_sublist (l := A) (fun x => decide (x ≠ 44))).length_le
    unfold behind
    rw [List.length_drop]
    omega
  have HE := isEmpty_of hg
  clear l2 hf hg
  have he : g.toList.isEmpty = false := by rw [HE]; cases G with | nil => exact absurd rfl hge | cons _ _ => rfl
  clear HE
  go_wp2_with fail
  refine (isNumber_any f hfs _).mono ?_
  rintro e w3 ⟨rfl, l3⟩
  have L3 := Lib.hid (on L2.out l3)
  rw [HF.out, hfn]
  clear l3
  go_wp2_with fail
  refine (isNumber_any g hgs _).mono ?_
  rintro e w4 ⟨rfl, l4⟩
  have L4 := Lib.hid (on L3.out l4)
  rw [HG.out, hgn]
  clear l4
  go_wp2_with fail
  refine (value_any f (by rw [HF.out]; exact hfn) _).mono ?_
  rintro e w5 ⟨rfl, l5⟩
  have L5 := Lib.hid (on L4.out l5)
  rw [HF.out]
  clear l5
  go_wp2_with fail
  refine (value_any g (by rw [HG.out]; exact hgn) _).mono ?_
  rintro e w6 ⟨rfl, l6⟩
  have L6 := Lib.hid (on L5.out l6)
  rw [HG.out]
  clear l6
  go_wp2_with fail
  refine (mayBe_any _ _ _).mono ?_
  rintro e w9 ⟨rfl, rfl⟩
  rw [hm]
  have hw : wrap64 ((a.size : Int) + 2) = ((A.length + 2 : Nat) : Int) := by rw [hal]; unfold wrap64; omega
  go_wp2_with fail
  refine bodyPost_ret (results_tmp4 rfl _ _ _) rfl ?_
  refine ⟨?_, L6.out⟩
  first | rfl | (simp only [hw]; rfl)
set_option maxHeartbeats 1000000 in
theorem numbers_twoBad {s : ByteArray} (h0 : 0 < s.size) (hs : s.size ≤ 1000000) {l A F G : List UInt8} (hl : s.data.toList.drop 1 = l) (hA : before 125 l = A) (hF : before 44 A = F) (hG : behind 44 A = G)
    (h125 : (125 : UInt8) ∈ l) (h44 : (44 : UInt8) ∈ A) (hfn : isNum F = true) (hge : ¬ G = []) (hgn : isNum G = true) (hm : mayB (val F) (val G) = false) (w : World) : Calls Tryz.prog 95 #[.string s] w fun e w' => e = .returned (numV (4, 0, 0, 0)) ∧ Below w.heap.size w w' := by
  have hq : (s.extract 1 s.size).data.toList = l := by rw [Kit.drop_bytes, hl]
  have hq2 : (s.extract 1 s.size).size ≤ 1000000 := by rw [ByteArray.size_extract]; omega
  have h1 : (1 : Int) ≤ (s.size : Int) := by omega
  have HC1 := Lib.hid (cutB_any hq2 125 hq (decide_eq_true h125) hA rfl w)
  have HA : ∀ a : ByteArray, a.data.toList = A → a.size = A.length := fun a h => by rw [Lib.size_eq, h]
  have hAl : A.length ≤ 1000000 := by
    rw [← hA]
    have e1 := (List.takeWhile_sublist (l := l) (fun x => decide (x ≠ 125))).length_le
    have e2 : l.length = s.size - 1 := by rw [← hl, List.length_drop, ← Lib.size_eq]
    unfold before
    omega
  clear hq hq2
  go_enter Tryz.func95, Tryz.ntmps95
  go_wp2_with fail
  refine HC1.out.mono ?_
  rintro e w1 ⟨a, b, rfl, ha, hb, l1⟩
  have hal := HA a ha
  have HC2 := Lib.hid (cutB_any (by omega) 44 ha (decide_eq_true h44) hF hG w1)
  have L1 := Lib.hid l1
  clear hb l1
  go_wp2_with fail
  refine HC2.out.mono ?_
  rintro e w2 ⟨f, g, rfl, hf, hg, l2⟩
  have L2 := Lib.hid (on L1.out l2)
  have HF := Lib.hid hf
  have HG := Lib.hid hg
  have hfs : f.size ≤ 1000000 := by
    rw [Lib.size_eq, hf, ← hF]
    have e1 := (List.takeWhile_sublist (l := A) (fun x => decide (x ≠ 44))).length_le
    unfold before
    omega
  have hgs : g.size ≤ 1000000 := by
    rw [Lib.size_eq, hg, ← hG]
    have e1 := (List.dropWhile_sublist (l := A) (fun x => decide (x ≠ 44))).length_le
    unfold behind
    rw [List.length_drop]
    omega
  have HE := isEmpty_of hg
  clear l2 hf hg
  have he : g.toList.isEmpty = false := by rw [HE]; cases G with | nil => exact absurd rfl hge | cons _ _ => rfl
  clear HE
  go_wp2_with fail
  refine (isNumber_any f hfs _).mono ?_
  rintro e w3 ⟨rfl, l3⟩
  have L3 := Lib.hid (on L2.out l3)
  rw [HF.out, hfn]
  clear l3
  go_wp2_with fail
  refine (isNumber_any g hgs _).mono ?_
  rintro e w4 ⟨rfl, l4⟩
  have L4 := Lib.hid (on L3.out l4)
  rw [HG.out, hgn]
  clear l4
  go_wp2_with fail
  refine (value_any f (by rw [HF.out]; exact hfn) _).mono ?_
  rintro e w5 ⟨rfl, l5⟩
  have L5 := Lib.hid (on L4.out l5)
  rw [HF.out]
  clear l5
  go_wp2_with fail
  refine (value_any g (by rw [HG.out]; exact hgn) _).mono ?_
  rintro e w6 ⟨rfl, l6⟩
  have L6 := Lib.hid (on L5.out l6)
  rw [HG.out]
  clear l6
  go_wp2_with fail
  refine (mayBe_any _ _ _).mono ?_
  rintro e w9 ⟨rfl, rfl⟩
  rw [hm]
  go_wp2_with fail
  refine bodyPost_ret (results_tmp4 rfl _ _ _) rfl ?_
  exact ⟨rfl, L6.out⟩
theorem numbers_any {s : ByteArray} (h0 : 0 < s.size) (hs : s.size ≤ 1000000) (w : World) : Calls Tryz.prog 95 #[.string s] w fun e w' => e = .returned (numV (braces (s.data.toList.drop 1))) ∧ Below w.heap.size w w' := by
  obtain ⟨l, hl⟩ : ∃ l, s.data.toList.drop 1 = l := ⟨_, rfl⟩
  rw [hl]
  by_cases h125 : (125 : UInt8) ∈ l
  · by_cases h44 : (44 : UInt8) ∈ before 125 l
    · cases hfn : isNum (firstB l) with
      | false =>
        rw [braces_bad (by unfold formB; rw [hfn]; simp)]
        exact numbers_first1 h0 hs hl rfl rfl rfl h125 h44 hfn w
      | true =>
        by_cases hge : behind 44 (before 125 l) = []
        · have ho : openB l = true := by unfold openB; rw [decide_eq_true h44, decide_eq_true hge]; rfl
          have ht : topB l = -1 := by unfold topB; rw [ho, if_pos rfl]
          rw [braces_good (by unfold formB; rw [decide_eq_true h125, hfn, ho]; rfl), ht, range_may (by omega) (by omega)]
          cases hm : mayB (val (firstB l)) (-1) with
          | true => exact numbers_more h0 hs hl rfl rfl rfl h125 h44 hfn hge hm w
          | false => exact numbers_moreBad h0 hs hl rfl rfl rfl h125 h44 hfn hge hm w
        · have ho : openB l = false := by unfold openB; rw [decide_eq_true h44, decide_eq_false hge]; rfl
          have h2 : secondB l = behind 44 (before 125 l) := by unfold secondB; rw [if_pos h44]
          cases hgn : isNum (behind 44 (before 125 l)) with
          | false =>
            rw [braces_bad (by unfold formB; rw [h2, hgn, ho]; simp)]
            exact numbers_second h0 hs hl rfl rfl rfl h125 h44 hfn hge hgn w
          | true =>
            have ht : topB l = val (behind 44 (before 125 l)) := by unfold topB; rw [ho, if_neg (by simp), h2]
            rw [braces_good (by unfold formB; rw [decide_eq_true h125, hfn, ho, h2, hgn]; rfl), ht, range_may (by omega) (by omega)]
            cases hm : mayB (val (firstB l)) (val (behind 44 (before 125 l))) with
            | true => exact numbers_two h0 hs hl rfl rfl rfl h125 h44 hfn hge hgn hm w
            | false => exact numbers_twoBad h0 hs hl rfl rfl rfl h125 h44 hfn hge hgn hm w
    · have ho : openB l = false := by unfold openB; rw [decide_eq_false h44, Bool.false_and]
      have h2 : secondB l = firstB l := by unfold secondB; rw [if_neg h44]
      cases hfn : isNum (firstB l) with
      | false =>
        rw [braces_bad (by unfold formB; rw [hfn]; simp)]
        exact numbers_first0 h0 hs hl rfl rfl rfl h125 h44 hfn w
      | true =>
        have ht : topB l = val (firstB l) := by unfold topB; rw [ho, if_neg (by simp), h2]
        rw [braces_good (by unfold formB; rw [decide_eq_true h125, hfn, ho, h2, hfn]; rfl), ht, range_may (by omega) (by omega)]
        cases hm : mayB (val (firstB l)) (val (firstB l)) with
        | true => exact numbers_one h0 hs hl rfl rfl rfl h125 h44 hfn hm w
        | false => exact numbers_oneBad h0 hs hl rfl rfl rfl h125 h44 hfn hm w
  · rw [braces_bad (by unfold formB; rw [decide_eq_false h125]; rfl)]
    by_cases h44 : (44 : UInt8) ∈ before 125 l
    · exact numbers_open1 h0 hs hl rfl rfl rfl h125 h44 w
    · exact numbers_open0 h0 hs hl rfl rfl rfl h125 h44 w
end Go.Proofs.YtmbibaccpeldoaaGreatDoor.W14
