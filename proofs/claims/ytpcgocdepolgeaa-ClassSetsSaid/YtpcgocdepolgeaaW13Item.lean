/-
  Layer 13 (class): the program's item, in its eight ways. The conditions stand in the statements.
-/
import Derived.Test.YtpcgocdepolgeaaW13Items
namespace Go.Proofs.Ytpcgocdepolgeaa.W13
set_option maxRecDepth 100000
open Go Go.RowKit Go.Proofs.Ytpcgocdepolgeaa.M13 Go.Proofs.Ytpcgocdepolgeaa.Row256
open Go.Proofs.Ytpcgocdepolgeaa.Kit (ret_str ret_bool ret_int mk_of mk_bytes ba_ext below_draws on drop_bytes)

/-- what item answers, and what it makes of the array -/
def Itemed (w : World) (b : Nat) (t : TypeId) (f : Nat → Bool) (r : Nat × Int × (Nat → Bool)) (e : Ending) (w' : World) : Prop := e = .returned (.tuple #[.int .i64 r.1, .int .i64 r.2.1]) ∧ Row w' b t (bv fun i => f i || r.2.2 i) ∧ Beside b w w'
theorem row_same {w : World} {b : Nat} {t : TypeId} {f : Nat → Bool} (h : Row w b t (bv f)) : Row w b t (bv fun i => f i || false) := h.is fun i _ => bv_eq (by rw [Bool.or_false])
theorem one_two (s : List UInt8) : (one s).2.1 ≤ 2 := by
  unfold one
  split
  · exact Nat.zero_le _
  · rename_i c r
    by_cases h : c = 92
    · rw [if_pos h]
      split
      · exact Nat.zero_le _
      · exact Nat.le_refl _
    · rw [if_neg h]; exact Nat.le_succ 1
theorem joined_long {s : List UInt8} {n : Nat} (h : joined (s.drop n) = true) : n < s.length := by
  by_cases e : n < s.length
  · exact e
  · rw [List.drop_of_length_le (by omega)] at h; cases h
set_option maxHeartbeats 1000000 in
theorem item_a {w : World} {b : Nat} {t : TypeId} {f : Nat → Bool} (h : Row w b t (bv f)) {s : ByteArray} {a : UInt8} {n : Nat} {nm : Bool} (hone : one s.data.toList = (a, n, nm)) (hn : n = 0) :
    Calls Try.prog 40 #[.pointer (some ⟨b, 0, none⟩), .string s] w (Itemed w b t f (item s.data.toList)) := by
  have HV : Hid (item s.data.toList = (0, 3, fun _ => false)) := by
    unfold Hid item
    rw [hone, if_pos hn]
  subst hn
  have HC := Lib.hid h
  have HONE := Lib.hid hone
  clear h hone
  go_enter Try.func40, Try.ntmps40
  go_wp2_with fail
  refine (one_any _ _).mono ?_
  rintro e w1 ⟨rfl, hb1⟩
  rw [HONE.out]
  unfold oneV
  have HR := Lib.hid (HC.out.on hb1 HC.out.lt)
  have HB := Lib.hid (Beside.of (b := b) hb1)
  clear hb1
  go_wp2_with fail
  refine (isJoined_any _ _).mono ?_
  rintro e w2 ⟨rfl, rfl⟩
  go_wp2_with fail
  go_ret2
  exact ⟨by rw [HV.out]; rfl, by rw [HV.out]; exact row_same HR.out, HB.out⟩
set_option maxHeartbeats 1000000 in
theorem item_b {w : World} {b : Nat} {t : TypeId} {f : Nat → Bool} (h : Row w b t (bv f)) {s : ByteArray} {a : UInt8} {n : Nat} (hone : one s.data.toList = (a, n, true)) (hn : ¬ n = 0) (hj : joined (s.data.toList.drop n) = true) :
    Calls Try.prog 40 #[.pointer (some ⟨b, 0, none⟩), .string s] w (Itemed w b t f (item s.data.toList)) := by
  have HV : Hid (item s.data.toList = (0, 3, fun _ => false)) := by
    unfold Hid item
    rw [hone]
    simp [hn, hj]
  have hle := one_le s.data.toList
  have hle2 := one_two s.data.toList
  rw [hone] at hle2
  rw [hone, ← Lib.size_eq] at hle
  simp only at hle hle2
  have HC := Lib.hid h
  have HONE := Lib.hid hone
  have HJ := Lib.hid hj
  have hlei : (n : Int) ≤ (s.size : Int) := by omega
  have tn : ((n : Int) == 0) = false := beq_eq_false_iff_ne.2 (by omega)
  have HD := Lib.hid (drop_bytes s n)
  clear h hone hj hn
  go_enter Try.func40, Try.ntmps40
  go_wp2_with fail
  refine (one_any _ _).mono ?_
  rintro e w1 ⟨rfl, hb1⟩
  rw [HONE.out]
  unfold oneV
  have HR := Lib.hid (HC.out.on hb1 HC.out.lt)
  have HB := Lib.hid (Beside.of (b := b) hb1)
  clear hb1
  go_wp2_with fail
  refine (isJoined_any _ _).mono ?_
  rintro e w2 ⟨rfl, rfl⟩
  rw [HD.out, HJ.out]
  go_wp2_with fail
  go_ret2
  exact ⟨by rw [HV.out]; rfl, by rw [HV.out]; exact row_same HR.out, HB.out⟩
set_option maxHeartbeats 1000000 in
theorem item_c {w : World} {b : Nat} {t : TypeId} {f : Nat → Bool} (h : Row w b t (bv f)) {s : ByteArray} {a : UInt8} {n : Nat} (hone : one s.data.toList = (a, n, true)) (hn : ¬ n = 0) (hj : joined (s.data.toList.drop n) = false) :
    Calls Try.prog 40 #[.pointer (some ⟨b, 0, none⟩), .string s] w (Itemed w b t f (item s.data.toList)) := by
  have HV : Hid (item s.data.toList = (n, 0, namedF a)) := by
    unfold Hid item
    rw [hone]
    simp [hn, hj]
  have hle := one_le s.data.toList
  have hle2 := one_two s.data.toList
  rw [hone] at hle2
  rw [hone, ← Lib.size_eq] at hle
  simp only at hle hle2
  have HC := Lib.hid h
  have HONE := Lib.hid hone
  have HJ := Lib.hid hj
  have hlei : (n : Int) ≤ (s.size : Int) := by omega
  have tn : ((n : Int) == 0) = false := beq_eq_false_iff_ne.2 (by omega)
  have HD := Lib.hid (drop_bytes s n)
  clear h hone hj hn
  go_enter Try.func40, Try.ntmps40
  go_wp2_with fail
  refine (one_any _ _).mono ?_
  rintro e w1 ⟨rfl, hb1⟩
  rw [HONE.out]
  unfold oneV
  have HR := Lib.hid (HC.out.on hb1 HC.out.lt)
  have HB := Lib.hid (Beside.of (b := b) hb1)
  clear hb1
  go_wp2_with fail
  refine (isJoined_any _ _).mono ?_
  rintro e w2 ⟨rfl, rfl⟩
  rw [HD.out, HJ.out]
  go_wp2_with fail
  refine (named_any _ _).mono ?_
  rintro e w3 ⟨rfl, hb3⟩
  replace HR := Lib.hid (HR.out.on hb3 HR.out.lt)
  replace HB := Lib.hid (HB.out.trans (Beside.of hb3))
  clear hb3
  go_wp2_with fail
  refine (add_any HR.out _).mono ?_
  rintro e w4 ⟨rfl, hr4, hb4⟩
  replace HR := Lib.hid hr4
  replace HB := Lib.hid (HB.out.trans hb4)
  clear hr4 hb4
  go_wp2_with fail
  go_ret2
  exact ⟨by rw [HV.out]; rfl, by rw [HV.out]; exact HR.out, HB.out⟩
set_option maxHeartbeats 1000000 in
theorem item_d {w : World} {b : Nat} {t : TypeId} {f : Nat → Bool} (h : Row w b t (bv f)) {s : ByteArray} {a : UInt8} {n : Nat} (hone : one s.data.toList = (a, n, false)) (hn : ¬ n = 0) (hj : joined (s.data.toList.drop n) = false) :
    Calls Try.prog 40 #[.pointer (some ⟨b, 0, none⟩), .string s] w (Itemed w b t f (item s.data.toList)) := by
  have HV : Hid (item s.data.toList = (n, 0, fun i => decide (i = a.toNat))) := by
    unfold Hid item
    rw [hone]
    simp [hn, hj]
  have hle := one_le s.data.toList
  have hle2 := one_two s.data.toList
  rw [hone] at hle2
  rw [hone, ← Lib.size_eq] at hle
  simp only at hle hle2
  have HC := Lib.hid h
  have HONE := Lib.hid hone
  have HJ := Lib.hid hj
  have hlei : (n : Int) ≤ (s.size : Int) := by omega
  have tn : ((n : Int) == 0) = false := beq_eq_false_iff_ne.2 (by omega)
  have HD := Lib.hid (drop_bytes s n)
  clear h hone hj hn
  go_enter Try.func40, Try.ntmps40
  go_wp2_with fail
  refine (one_any _ _).mono ?_
  rintro e w1 ⟨rfl, hb1⟩
  rw [HONE.out]
  unfold oneV
  have HR := Lib.hid (HC.out.on hb1 HC.out.lt)
  have HB := Lib.hid (Beside.of (b := b) hb1)
  clear hb1
  go_wp2_with fail
  refine (isJoined_any _ _).mono ?_
  rintro e w2 ⟨rfl, rfl⟩
  rw [HD.out, HJ.out]
  have ha256 : (a.toNat : Int) < 256 := by have := UInt8.toNat_lt a; omega
  have hcell := HR.out.cell (i := a.toNat) (UInt8.toNat_lt a)
  have hfree := HR.out.free a.toNat
  generalize hold : bv f a.toNat = old at hcell
  clear hold
  go_wp2_with fail
  go_ret2
  exact ⟨by rw [HV.out]; rfl, by rw [HV.out]; exact row_true HR.out _, HB.out.put _ _⟩
set_option maxHeartbeats 1000000 in
theorem item_e {w : World} {b : Nat} {t : TypeId} {f : Nat → Bool} (h : Row w b t (bv f)) {s : ByteArray} {a : UInt8} {n : Nat} (hone : one s.data.toList = (a, n, false)) (hn : ¬ n = 0) (hj : joined (s.data.toList.drop n) = true) {a2 : UInt8} {m : Nat} {nm2 : Bool} (hone2 : one (s.data.toList.drop (n + 1)) = (a2, m, nm2)) (hm : m = 0) :
    Calls Try.prog 40 #[.pointer (some ⟨b, 0, none⟩), .string s] w (Itemed w b t f (item s.data.toList)) := by
  have HV : Hid (item s.data.toList = (0, 3, fun _ => false)) := by
    unfold Hid item
    rw [hone]
    simp [hn, hj, hone2, hm]
  have hjl := joined_long hj
  rw [← Lib.size_eq] at hjl
  have hm2 := one_two (s.data.toList.drop (n + 1))
  rw [hone2] at hm2
  simp only at hm2
  have hn1i : (n : Int) + 1 ≤ (s.size : Int) := by omega
  have HD2 := Lib.hid (drop_bytes s (n + 1))
  have HONE2 := Lib.hid hone2
  clear hjl hone2
  have tm : ((m : Int) == 0) = true := by rw [hm]; rfl
  clear hm
  have hle := one_le s.data.toList
  have hle2 := one_two s.data.toList
  rw [hone] at hle2
  rw [hone, ← Lib.size_eq] at hle
  simp only at hle hle2
  have HC := Lib.hid h
  have HONE := Lib.hid hone
  have HJ := Lib.hid hj
  have hlei : (n : Int) ≤ (s.size : Int) := by omega
  have tn : ((n : Int) == 0) = false := beq_eq_false_iff_ne.2 (by omega)
  have HD := Lib.hid (drop_bytes s n)
  clear h hone hj hn
  go_enter Try.func40, Try.ntmps40
  go_wp2_with fail
  refine (one_any _ _).mono ?_
  rintro e w1 ⟨rfl, hb1⟩
  rw [HONE.out]
  unfold oneV
  have HR := Lib.hid (HC.out.on hb1 HC.out.lt)
  have HB := Lib.hid (Beside.of (b := b) hb1)
  clear hb1
  go_wp2_with fail
  refine (isJoined_any _ _).mono ?_
  rintro e w2 ⟨rfl, rfl⟩
  rw [HD.out, HJ.out]
  go_wp2_with fail
  refine (one_any _ _).mono ?_
  rintro e w3 ⟨rfl, hb3⟩
  rw [HD2.out, HONE2.out]
  unfold oneV
  replace HR := Lib.hid (HR.out.on hb3 HR.out.lt)
  replace HB := Lib.hid (HB.out.trans (Beside.of hb3))
  clear hb3
  go_wp2_with fail
  go_ret2
  exact ⟨by rw [HV.out]; rfl, by rw [HV.out]; exact row_same HR.out, HB.out⟩
set_option maxHeartbeats 1000000 in
theorem item_g {w : World} {b : Nat} {t : TypeId} {f : Nat → Bool} (h : Row w b t (bv f)) {s : ByteArray} {a : UInt8} {n : Nat} (hone : one s.data.toList = (a, n, false)) (hn : ¬ n = 0) (hj : joined (s.data.toList.drop n) = true) {a2 : UInt8} {m : Nat} (hone2 : one (s.data.toList.drop (n + 1)) = (a2, m, true)) (hm : ¬ m = 0) :
    Calls Try.prog 40 #[.pointer (some ⟨b, 0, none⟩), .string s] w (Itemed w b t f (item s.data.toList)) := by
  have HV : Hid (item s.data.toList = (0, 3, fun _ => false)) := by
    unfold Hid item
    rw [hone]
    simp [hn, hj, hone2, hm]
  have hjl := joined_long hj
  rw [← Lib.size_eq] at hjl
  have hm2 := one_two (s.data.toList.drop (n + 1))
  rw [hone2] at hm2
  simp only at hm2
  have hn1i : (n : Int) + 1 ≤ (s.size : Int) := by omega
  have HD2 := Lib.hid (drop_bytes s (n + 1))
  have HONE2 := Lib.hid hone2
  clear hjl hone2
  have tm : ((m : Int) == 0) = false := beq_eq_false_iff_ne.2 (by omega)
  clear hm
  have hle := one_le s.data.toList
  have hle2 := one_two s.data.toList
  rw [hone] at hle2
  rw [hone, ← Lib.size_eq] at hle
  simp only at hle hle2
  have HC := Lib.hid h
  have HONE := Lib.hid hone
  have HJ := Lib.hid hj
  have hlei : (n : Int) ≤ (s.size : Int) := by omega
  have tn : ((n : Int) == 0) = false := beq_eq_false_iff_ne.2 (by omega)
  have HD := Lib.hid (drop_bytes s n)
  clear h hone hj hn
  go_enter Try.func40, Try.ntmps40
  go_wp2_with fail
  refine (one_any _ _).mono ?_
  rintro e w1 ⟨rfl, hb1⟩
  rw [HONE.out]
  unfold oneV
  have HR := Lib.hid (HC.out.on hb1 HC.out.lt)
  have HB := Lib.hid (Beside.of (b := b) hb1)
  clear hb1
  go_wp2_with fail
  refine (isJoined_any _ _).mono ?_
  rintro e w2 ⟨rfl, rfl⟩
  rw [HD.out, HJ.out]
  go_wp2_with fail
  refine (one_any _ _).mono ?_
  rintro e w3 ⟨rfl, hb3⟩
  rw [HD2.out, HONE2.out]
  unfold oneV
  replace HR := Lib.hid (HR.out.on hb3 HR.out.lt)
  replace HB := Lib.hid (HB.out.trans (Beside.of hb3))
  clear hb3
  go_wp2_with fail
  go_ret2
  exact ⟨by rw [HV.out]; rfl, by rw [HV.out]; exact row_same HR.out, HB.out⟩
set_option maxHeartbeats 1000000 in
theorem item_k {w : World} {b : Nat} {t : TypeId} {f : Nat → Bool} (h : Row w b t (bv f)) {s : ByteArray} {a : UInt8} {n : Nat} (hone : one s.data.toList = (a, n, false)) (hn : ¬ n = 0) (hj : joined (s.data.toList.drop n) = true) {a2 : UInt8} {m : Nat} (hone2 : one (s.data.toList.drop (n + 1)) = (a2, m, false)) (hm : ¬ m = 0) (hlt : a2.toNat < a.toNat) :
    Calls Try.prog 40 #[.pointer (some ⟨b, 0, none⟩), .string s] w (Itemed w b t f (item s.data.toList)) := by
  have HV : Hid (item s.data.toList = (0, 4, fun _ => false)) := by
    unfold Hid item
    rw [hone]
    simp [hn, hj, hone2, hm, hlt]
  have hjl := joined_long hj
  rw [← Lib.size_eq] at hjl
  have hm2 := one_two (s.data.toList.drop (n + 1))
  rw [hone2] at hm2
  simp only at hm2
  have hn1i : (n : Int) + 1 ≤ (s.size : Int) := by omega
  have HD2 := Lib.hid (drop_bytes s (n + 1))
  have HONE2 := Lib.hid hone2
  clear hjl hone2
  have tm : ((m : Int) == 0) = false := beq_eq_false_iff_ne.2 (by omega)
  have tl : (a2.toNat : Int) < (a.toNat : Int) := by omega
  clear hm hlt
  have hle := one_le s.data.toList
  have hle2 := one_two s.data.toList
  rw [hone] at hle2
  rw [hone, ← Lib.size_eq] at hle
  simp only at hle hle2
  have HC := Lib.hid h
  have HONE := Lib.hid hone
  have HJ := Lib.hid hj
  have hlei : (n : Int) ≤ (s.size : Int) := by omega
  have tn : ((n : Int) == 0) = false := beq_eq_false_iff_ne.2 (by omega)
  have HD := Lib.hid (drop_bytes s n)
  clear h hone hj hn
  go_enter Try.func40, Try.ntmps40
  go_wp2_with fail
  refine (one_any _ _).mono ?_
  rintro e w1 ⟨rfl, hb1⟩
  rw [HONE.out]
  unfold oneV
  have HR := Lib.hid (HC.out.on hb1 HC.out.lt)
  have HB := Lib.hid (Beside.of (b := b) hb1)
  clear hb1
  go_wp2_with fail
  refine (isJoined_any _ _).mono ?_
  rintro e w2 ⟨rfl, rfl⟩
  rw [HD.out, HJ.out]
  go_wp2_with fail
  refine (one_any _ _).mono ?_
  rintro e w3 ⟨rfl, hb3⟩
  rw [HD2.out, HONE2.out]
  unfold oneV
  replace HR := Lib.hid (HR.out.on hb3 HR.out.lt)
  replace HB := Lib.hid (HB.out.trans (Beside.of hb3))
  clear hb3
  go_wp2_with fail
  go_ret2
  exact ⟨by rw [HV.out]; rfl, by rw [HV.out]; exact row_same HR.out, HB.out⟩
set_option maxHeartbeats 1000000 in
theorem item_l {w : World} {b : Nat} {t : TypeId} {f : Nat → Bool} (h : Row w b t (bv f)) {s : ByteArray} {a : UInt8} {n : Nat} (hone : one s.data.toList = (a, n, false)) (hn : ¬ n = 0) (hj : joined (s.data.toList.drop n) = true) {a2 : UInt8} {m : Nat} (hone2 : one (s.data.toList.drop (n + 1)) = (a2, m, false)) (hm : ¬ m = 0) (hlt : ¬ a2.toNat < a.toNat) :
    Calls Try.prog 40 #[.pointer (some ⟨b, 0, none⟩), .string s] w (Itemed w b t f (item s.data.toList)) := by
  have HV : Hid (item s.data.toList = (n + 1 + m, 0, between a.toNat a2.toNat)) := by
    unfold Hid item
    rw [hone]
    simp [hn, hj, hone2, hm, hlt]
  have hjl := joined_long hj
  rw [← Lib.size_eq] at hjl
  have hm2 := one_two (s.data.toList.drop (n + 1))
  rw [hone2] at hm2
  simp only at hm2
  have hn1i : (n : Int) + 1 ≤ (s.size : Int) := by omega
  have HD2 := Lib.hid (drop_bytes s (n + 1))
  have HONE2 := Lib.hid hone2
  clear hjl hone2
  have tm : ((m : Int) == 0) = false := beq_eq_false_iff_ne.2 (by omega)
  have tl : ¬ (a2.toNat : Int) < (a.toNat : Int) := by omega
  clear hm hlt
  have hle := one_le s.data.toList
  have hle2 := one_two s.data.toList
  rw [hone] at hle2
  rw [hone, ← Lib.size_eq] at hle
  simp only at hle hle2
  have HC := Lib.hid h
  have HONE := Lib.hid hone
  have HJ := Lib.hid hj
  have hlei : (n : Int) ≤ (s.size : Int) := by omega
  have tn : ((n : Int) == 0) = false := beq_eq_false_iff_ne.2 (by omega)
  have HD := Lib.hid (drop_bytes s n)
  clear h hone hj hn
  go_enter Try.func40, Try.ntmps40
  go_wp2_with fail
  refine (one_any _ _).mono ?_
  rintro e w1 ⟨rfl, hb1⟩
  rw [HONE.out]
  unfold oneV
  have HR := Lib.hid (HC.out.on hb1 HC.out.lt)
  have HB := Lib.hid (Beside.of (b := b) hb1)
  clear hb1
  go_wp2_with fail
  refine (isJoined_any _ _).mono ?_
  rintro e w2 ⟨rfl, rfl⟩
  rw [HD.out, HJ.out]
  go_wp2_with fail
  refine (one_any _ _).mono ?_
  rintro e w3 ⟨rfl, hb3⟩
  rw [HD2.out, HONE2.out]
  unfold oneV
  replace HR := Lib.hid (HR.out.on hb3 HR.out.lt)
  replace HB := Lib.hid (HB.out.trans (Beside.of hb3))
  clear hb3
  go_wp2_with fail
  refine (span_any HR.out _ _).mono ?_
  rintro e w4 ⟨rfl, hr4, hb4⟩
  replace HR := Lib.hid hr4
  replace HB := Lib.hid (HB.out.trans hb4)
  clear hr4 hb4
  go_wp2_with fail
  go_ret2
  exact ⟨by rw [HV.out]; rfl, by rw [HV.out]; exact HR.out, HB.out⟩
theorem item_any {w : World} {b : Nat} {t : TypeId} {f : Nat → Bool} (h : Row w b t (bv f)) (s : ByteArray) :
    Calls Try.prog 40 #[.pointer (some ⟨b, 0, none⟩), .string s] w (Itemed w b t f (item s.data.toList)) := by
  obtain ⟨⟨a, n, nm⟩, hone⟩ : ∃ r, one s.data.toList = r := ⟨_, rfl⟩
  by_cases hn : n = 0
  · exact item_a h hone hn
  cases hj : joined (s.data.toList.drop n) with
  | false =>
    cases nm with
    | true => exact item_c h hone hn hj
    | false => exact item_d h hone hn hj
  | true =>
    cases nm with
    | true => exact item_b h hone hn hj
    | false =>
      obtain ⟨⟨a2, m, nm2⟩, hone2⟩ : ∃ r, one (s.data.toList.drop (n + 1)) = r := ⟨_, rfl⟩
      by_cases hm : m = 0
      · exact item_e h hone hn hj hone2 hm
      cases nm2 with
      | true => exact item_g h hone hn hj hone2 hm
      | false =>
        by_cases hlt : a2.toNat < a.toNat
        · exact item_k h hone hn hj hone2 hm hlt
        · exact item_l h hone hn hj hone2 hm hlt
end Go.Proofs.Ytpcgocdepolgeaa.W13
