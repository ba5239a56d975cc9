/-
  Texts joined, in build order, each with its own comment and its own conditions: W13Code, W13Asks, W13Sets, W13Items, W13Item.
-/
import Derived.Test.YtmbibaccpeldoaaGreatDoorJ03
import Derived.Test.YtmbibaccpeldoaaGreatDoorJ04
import Derived.BigQuiet
/-
  Layer 13 (class), walks of the program's functions on an array of truths: all others, those of a text, the text. The conditions stand in the statements.
-/
namespace Go.Proofs.YtmbibaccpeldoaaGreatDoor.W13
set_option maxRecDepth 100000
open Go Go.RowKit Go.Proofs.YtmbibaccpeldoaaGreatDoor.M13 Go.Proofs.YtmbibaccpeldoaaGreatDoor.Row256
open Go.Proofs.YtmbibaccpeldoaaGreatDoor.Kit (ret_str ret_bool ret_int mk_of mk_bytes ba_ext below_draws on)

set_option maxHeartbeats 1000000 in
theorem others_any (f : Nat → Bool) (w : World) :
    Calls Tryz.prog 85 #[.agg (rowV (bv f))] w fun e w' => e = .returned (.agg (rowV (bv fun i => !f i))) ∧ Below w.heap.size w w' := by
  have hz := zero37
  go_enter Tryz.func85, Tryz.ntmps85
  go_wp2_with fail
  have hn1 : Row (w.alloc (.cells (rowV (bv f)) 95)) w.heap.size 95 (bv f) := Row.new _ _ _
  have hn2 := Row.new (w.alloc (.cells (rowV (bv f)) 95)) 95 (bv fun _ => false)
  rw [World.size_alloc] at hn2
  have HN := Lib.hid (And.intro (hn1.alloc (.cells (rowV (bv fun _ => false)) 95)) hn2)
  have HB := Lib.hid ((Below.refl w.heap.size w).alloc (Nat.le_refl _) (.cells (rowV (bv f)) 95) |>.alloc (by rw [World.size_alloc]; omega) (.cells (rowV (bv fun _ => false)) 95))
  clear hn1 hn2 hz
  generalize ((w.alloc (.cells (rowV (bv f)) 95)).alloc (.cells (rowV (bv fun _ => false)) 95)) = w1 at HN HB ⊢
  go_loopg [4] 256 (fun g s4 wr => ∃ i : Nat, s4 = .int .i64 i ∧ i + g = 256 ∧ Hid (Row wr w.heap.size 95 (bv fun j => if j < i then !f j else f j)) ∧ Hid (Row wr (w.heap.size + 1) 95 (bv fun _ => false)) ∧ Hid (Below w.heap.size w wr))
  case atStart => exact ⟨0, rfl, rfl, HN.out.1.is fun j _ => bv_eq (by rw [if_neg (by omega)]), HN.out.2, HB⟩
  case round =>
    obtain ⟨i, rfl, hig, hr, hz, hb⟩ := hrel
    cases gk with
    | zero =>
      obtain rfl : i = 256 := by omega
      go_wp2_with (first | (refine load_row rfl (.tmp 1) rfl rfl hr.out ?_) | (refine store_row rfl (.tmp 2) (.tmp 14) rfl rfl rfl hz.out ?_; intro wz hrz hbz; have HR := Lib.hid hrz; have HZ := Lib.hid hbz; clear hrz hbz))
      refine end_row rfl rfl (HR.out.is (k := bv fun i => !f i) fun j hj => bv_eq (by rw [if_pos hj])) rfl ⟨rfl, ?_⟩
      exact hb.out.trans (HZ.out.below hb.out.size (by omega))
    | succ g =>
      have hi3 : (i : Int) < 256 := by omega
      have hcell := hr.out.cell (i := i) (by omega)
      have hfree := hr.out.free i
      have hval : bv (fun j => if j < i then !f j else f j) i = .bool (f i) := bv_eq (f := _) (g := f) (by rw [if_neg (by omega)])
      rw [hval] at hcell
      clear hval
      go_wp2
      go_roundg g
      case measure => omega
      case rel =>
        exact ⟨i + 1, by first | rfl | simp, by omega, row_step hr.out rfl, hz.out.other (by simp) _, hb.out.setCell (Nat.le_refl _) _⟩
set_option maxHeartbeats 2000000 in
theorem add_any {w : World} {b : Nat} {t : TypeId} {f : Nat → Bool} (h : Row w b t (bv f)) (m : Nat → Bool) :
    Calls Tryz.prog 129 #[.pointer (some ⟨b, 0, none⟩), .agg (rowV (bv m))] w fun e w' => e = .returned (.tuple #[]) ∧ Row w' b t (bv fun i => f i || m i) ∧ Beside b w w' := by
  have hlt := h.lt
  have HC := Lib.hid h
  clear h
  go_enter Tryz.func129, Tryz.ntmps129
  go_wp2_with fail
  have HN := Lib.hid (Row.new w 95 (bv m))
  have HB : Hid (Row (w.alloc (.cells (rowV (bv m)) 95)) b t (bv f) ∧ Beside b w (w.alloc (.cells (rowV (bv m)) 95))) := ⟨HC.out.alloc _, Beside.of ((Below.refl w.heap.size w).alloc (Nat.le_refl _) _)⟩
  generalize (w.alloc (.cells (rowV (bv m)) 95)) = w1 at HN HB ⊢
  have HL := Lib.hid hlt
  obtain ⟨d, hd⟩ : ∃ d, w.heap.size = d := ⟨_, rfl⟩
  rw [hd] at HN HL ⊢
  clear hlt HC
  have HD := Lib.hid hd
  clear hd
  go_loopg [5] 256 (fun g s5 wr => ∃ i : Nat, s5 = .int .i64 i ∧ i + g = 256 ∧ Hid (Row wr b t (bv fun j => if j < i then f j || m j else f j)) ∧ Hid (Row wr d 95 (bv m)) ∧ Hid (Beside b w wr))
  case atStart => exact ⟨0, rfl, rfl, HB.out.1.is fun j _ => bv_eq (by rw [if_neg (by omega)]), HN, HB.out.2⟩
  case round =>
    obtain ⟨i, rfl, hig, hr, hz, hb⟩ := hrel
    cases gk with
    | zero =>
      obtain rfl : i = 256 := by omega
      go_wp2_with fail
      go_end0
      exact ⟨rfl, hr.out.is fun j hj => bv_eq (by rw [if_pos hj]), hb.out⟩
    | succ g =>
      have hi3 : (i : Int) < 256 := by omega
      have hcell := hr.out.cell (i := i) (by omega)
      have hfree := hr.out.free i
      have hval : bv (fun j => if j < i then f j || m j else f j) i = .bool (f i) := bv_eq (f := _) (g := f) (by rw [if_neg (by omega)])
      rw [hval] at hcell
      have hcell2 : wr.cell? ⟨d, i, none⟩ = some (.bool (m i)) := hz.out.cell (i := i) (by omega)
      clear hval
      cases hf : f i with
      | true =>
        rw [hf] at hcell
        go_wp2_with fail
        go_region
        go_wp2_with fail
        go_roundg g
        case measure => omega
        case rel =>
          refine ⟨i + 1, by first | rfl | simp, by omega, row_step hr.out (by rw [hf]; rfl), (hz.out.other (a := ⟨b, i, none⟩) (by have := HL.out; simp only; omega) _), ?_⟩
          exact (hb.out.put i _).trans ⟨rfl, rfl, rfl, Nat.le_refl _, fun _ _ _ => rfl⟩
      | false =>
        rw [hf] at hcell
        go_wp2_with fail
        go_region
        go_wp2_with fail
        go_roundg g
        case measure => omega
        case rel =>
          refine ⟨i + 1, by first | rfl | simp, by omega, row_step hr.out (by rw [hf]; rfl), (hz.out.other (a := ⟨b, i, none⟩) (by have := HL.out; simp only; omega) _), ?_⟩
          exact (hb.out.put i _).trans ⟨rfl, rfl, rfl, Nat.le_refl _, fun _ _ _ => rfl⟩
set_option maxHeartbeats 2000000 in
theorem bitsOf_over (s : ByteArray) (w : World) (hs : ∀ w, Calls Tryz.prog 100 #[.string s] w fun e w' => e = .returned (.bool (good s.data.toList)) ∧ w' = w) :
    Calls Tryz.prog 86 #[.string s] w fun e w' => e = .returned (.agg (rowV (bv (has s.data.toList)))) ∧ Below w.heap.size w w' := by
  have hz := zero37
  have HS := Lib.hid hs
  clear hs
  go_enter Tryz.func86, Tryz.ntmps86
  go_wp2_with fail
  have hn1 : Row (w.alloc (.cells (rowV (bv fun _ => false)) 95)) w.heap.size 95 (bv fun _ => false) := Row.new _ _ _
  have hn2 := Row.new (w.alloc (.cells (rowV (bv fun _ => false)) 95)) 95 (bv fun _ => false)
  rw [World.size_alloc] at hn2
  have HN := Lib.hid (And.intro (hn1.alloc (.cells (rowV (bv fun _ => false)) 95)) hn2)
  have HB := Lib.hid ((Below.refl w.heap.size w).alloc (Nat.le_refl _) (.cells (rowV (bv fun _ => false)) 95) |>.alloc (by rw [World.size_alloc]; omega) (.cells (rowV (bv fun _ => false)) 95))
  clear hn1 hn2 hz
  generalize ((w.alloc (.cells (rowV (bv fun _ => false)) 95)).alloc (.cells (rowV (bv fun _ => false)) 95)) = w1 at HN HB ⊢
  refine (HS.out w1).mono ?_
  rintro e w' ⟨rfl, rfl⟩
  cases hg : good s.data.toList with
  | false =>
    have HG := Lib.hid hg
    clear hg
    go_wp2_with (first | (refine load_row rfl (.tmp 3) rfl rfl HN.out.2 ?_) | (refine store_row rfl (.tmp 2) (.tmp 8) rfl rfl rfl HN.out.1 ?_; intro wz hrz hbz; have HR := Lib.hid hrz; have HZ := Lib.hid hbz; clear hrz hbz))
    refine end_row rfl rfl (HR.out.is (k := bv (has s.data.toList)) fun j hj => bv_eq (has_bad HG.out j).symm) rfl ⟨rfl, ?_⟩
    exact HB.out.trans (HZ.out.below HB.out.size (Nat.le_refl _))
  | true =>
    have hsz : s.size = 256 := by rw [Lib.size_eq]; exact good_len hg
    have HG := Lib.hid hg
    clear hg
    have HSZ := Lib.hid hsz
    clear hsz
    go_wp2_with fail
    go_loopg [9] 256 (fun g s9 wr => ∃ i : Nat, s9 = .int .i64 i ∧ i + g = 256 ∧ Hid (Row wr (w.heap.size + 1) 95 (bv fun j => if j < i then has s.data.toList j else false)) ∧ Hid (Row wr w.heap.size 95 (bv fun _ => false)) ∧ Hid (Below w.heap.size w wr))
    case atStart => exact ⟨0, rfl, rfl, HN.out.2.is fun j _ => bv_eq (by rw [if_neg (by omega)]), HN.out.1, HB⟩
    case round =>
      obtain ⟨i, rfl, hig, hr, hz, hb⟩ := hrel
      cases gk with
      | zero =>
        obtain rfl : i = 256 := by omega
        go_wp2_with (first | (refine load_row rfl (.tmp 3) rfl rfl hr.out ?_) | (refine store_row rfl (.tmp 2) (.tmp 19) rfl rfl rfl hz.out ?_; intro wz hrz hbz; have HR := Lib.hid hrz; have HZ := Lib.hid hbz; clear hrz hbz))
        refine end_row rfl rfl (HR.out.is (k := bv (has s.data.toList)) fun j hj => bv_eq (by rw [if_pos hj])) rfl ⟨rfl, ?_⟩
        exact hb.out.trans (HZ.out.below hb.out.size (by omega))
      | succ g =>
        have hsz := HSZ.out
        have hi : i < s.size := by omega
        have hi3 : (i : Int) < 256 := by omega
        have hcell := hr.out.cell (i := i) (by omega)
        have hfree := hr.out.free i
        generalize hold : bv (fun j => if j < i then has s.data.toList j else false) i = old at hcell
        clear hold
        have hval : ((s[i].toNat : Int) == 49) = has s.data.toList i := by
          rw [has_good HG.out, Kit.byte_get s i hi]
          exact decide_eq_decide.2 ⟨fun h => UInt8.toNat_inj.1 (show s[i].toNat = 49 by omega), fun h => by rw [h]; rfl⟩
        have HV := Lib.hid hval
        clear hval
        go_wp2
        go_roundg g
        case measure => omega
        case rel =>
          refine ⟨i + 1, by first | rfl | simp, by omega, row_step hr.out ?_, hz.out.other (by simp) _, hb.out.setCell (by simp) _⟩
          exact HV.out
end Go.Proofs.YtmbibaccpeldoaaGreatDoor.W13
/-
  Layer 13 (class), walks of the program's questions on texts: is it a set, which bytes does it hold, how many; letters, bytes and spans that a text begins with. The conditions stand in the statements.
-/
namespace Go.Proofs.YtmbibaccpeldoaaGreatDoor.W13
set_option maxRecDepth 100000
open Go Go.RowKit Go.Proofs.YtmbibaccpeldoaaGreatDoor.M13 Go.Proofs.YtmbibaccpeldoaaGreatDoor.Row256
open Go.Proofs.YtmbibaccpeldoaaGreatDoor.Kit (ret_str ret_bool ret_int mk_of mk_bytes ba_ext below_draws on)

theorem isSet_any (s : ByteArray) (w : World) : Calls Tryz.prog 100 #[.string s] w fun e w' => e = .returned (.bool (good s.data.toList)) ∧ w' = w := by
  have hg := good_counts s.data.toList
  have hle := counts_le s.data.toList
  rw [← Lib.size_eq] at hg hle
  by_cases h : s.size = 256
  · have hi : (((s.size : Nat) : Int) == 256) = true := by rw [h]; rfl
    have hw : (wrap64 (((Lib.countByte s.data.toList 48 : Nat) : Int) + ((Lib.countByte s.data.toList 49 : Nat) : Int)) == 256) = good s.data.toList := by
      rw [← hg, decide_eq_true h, Bool.true_and, h]
      show (wrap64 (((s.data.toList.count 48 : Nat) : Int) + ((s.data.toList.count 49 : Nat) : Int)) == 256) = decide (s.data.toList.count 48 + s.data.toList.count 49 = 256)
      have e : wrap64 (((s.data.toList.count 48 : Nat) : Int) + ((s.data.toList.count 49 : Nat) : Int)) = ((s.data.toList.count 48 + s.data.toList.count 49 : Nat) : Int) := by unfold wrap64; omega
      rw [e]
      exact decide_eq_decide.2 (by omega)
    have HW := Lib.hid hw
    clear hg hle hw
    go_enter Tryz.func100, Tryz.ntmps100
    go_wp2_with (refine (Tryz.strings_Count_one _ _ _).mono ?_; rintro e w' ⟨rfl, rfl⟩)
    go_ret
    exact ⟨ret_bool HW.out, rfl⟩
  · have HG := Lib.hid hg
    have hi : (((s.size : Nat) : Int) == 256) = false := beq_eq_false_iff_ne.2 (by omega)
    clear hg hle
    go_enter Tryz.func100, Tryz.ntmps100
    go_wp2_with fail
    go_ret
    refine ⟨ret_bool ?_, rfl⟩
    rw [← HG.out, decide_eq_false h]; rfl
theorem bitsOf_any (s : ByteArray) (w : World) : Calls Tryz.prog 86 #[.string s] w fun e w' => e = .returned (.agg (rowV (bv (has s.data.toList)))) ∧ Below w.heap.size w w' := bitsOf_over s w (isSet_any s)
theorem letter_index (c : UInt8) : decide (0 ≤ Lib.indexByte [100, 119, 115, 68, 87, 83] c) = letter c := by
  unfold letter
  by_cases h1 : c = 100
  · subst h1; rfl
  by_cases h2 : c = 119
  · subst h2; rfl
  by_cases h3 : c = 115
  · subst h3; rfl
  by_cases h4 : c = 68
  · subst h4; rfl
  by_cases h5 : c = 87
  · subst h5; rfl
  by_cases h6 : c = 83
  · subst h6; rfl
  simp [Lib.indexByte, h1, h2, h3, h4, h5, h6, Ne.symm h1, Ne.symm h2, Ne.symm h3, Ne.symm h4, Ne.symm h5, Ne.symm h6]
theorem u8_back (c : UInt8) : ((c.toNat : Int)).toNat.toUInt8 = c := by
  rw [Int.toNat_natCast]; exact UInt8.ofNat_toNat
theorem isLetter_any (c : UInt8) (w : World) : Calls Tryz.prog 115 #[.int .u8 c.toNat] w fun e w' => e = .returned (.bool (letter c)) ∧ w' = w := by
  have HV := Lib.hid (letter_index c)
  have HU := Lib.hid (u8_back c)
  go_enter Tryz.func115, Tryz.ntmps115
  go_wp2_with (refine (Tryz.strings_IndexByte _ _ _).mono ?_; rintro e w' ⟨rfl, rfl⟩; rw [HU.out])
  go_ret
  exact ⟨ret_bool HV.out, rfl⟩
theorem joined_is (s : List UInt8) : joined s = (Lib.hasPrefix s [45] && !Lib.hasPrefix s [45, 93]) := by
  unfold Lib.hasPrefix joined
  rcases s with _ | ⟨c, r⟩
  · rfl
  · by_cases h : c = 45
    · subst h
      rcases r with _ | ⟨d, q⟩
      · rfl
      · by_cases h2 : d = 93
        · subst h2; simp
        · have h3 : ¬ 93 = d := fun e => h2 e.symm
          simp [List.isPrefixOf, h2, h3]
    · simp [h, Ne.symm h]
theorem isJoined_any (s : ByteArray) (w : World) : Calls Tryz.prog 128 #[.string s] w fun e w' => e = .returned (.bool (joined s.data.toList)) ∧ w' = w := by
  have HV := Lib.hid (joined_is s.data.toList)
  cases hp : Lib.hasPrefix s.data.toList [45] with
  | false =>
    rw [hp] at HV
    go_enter Tryz.func128, Tryz.ntmps128
    go_wp2_with (refine (Tryz.strings_HasPrefix _ _ _).mono ?_; rintro e w' ⟨rfl, rfl⟩)
    go_ret
    exact ⟨ret_bool HV.out.symm, rfl⟩
  | true =>
    rw [hp] at HV
    go_enter Tryz.func128, Tryz.ntmps128
    go_wp2_with (refine (Tryz.strings_HasPrefix _ _ _).mono ?_; rintro e w' ⟨rfl, rfl⟩)
    go_ret
    exact ⟨ret_bool HV.out.symm, rfl⟩
end Go.Proofs.YtmbibaccpeldoaaGreatDoor.W13
/-
  Layer 13 (class), the contracts of the program's functions: Span, One, Union, Not, Named. The conditions stand in the statements.
-/
namespace Go.Proofs.YtmbibaccpeldoaaGreatDoor.W13
set_option maxRecDepth 100000
open Go Go.RowKit Go.Proofs.YtmbibaccpeldoaaGreatDoor.M13 Go.Proofs.YtmbibaccpeldoaaGreatDoor.Row256
open Go.Proofs.YtmbibaccpeldoaaGreatDoor.Kit (ret_str ret_bool ret_int mk_of mk_bytes ba_ext below_draws on)

/-- an array of no truths in a block of its own -/
theorem new_row (w : World) : Row (w.alloc (.cells (rowV (bv fun _ => false)) 95)) w.heap.size 95 (bv fun _ => false) ∧ Below w.heap.size w (w.alloc (.cells (rowV (bv fun _ => false)) 95)) :=
  ⟨Row.new _ _ _, (Below.refl w.heap.size w).alloc (Nat.le_refl _) _⟩
theorem new_rows (w : World) : Row ((w.alloc (.cells (rowV (bv fun _ => false)) 95)).alloc (.cells (rowV (bv fun _ => false)) 95)) w.heap.size 95 (bv fun _ => false) ∧ Row ((w.alloc (.cells (rowV (bv fun _ => false)) 95)).alloc (.cells (rowV (bv fun _ => false)) 95)) (w.heap.size + 1) 95 (bv fun _ => false) ∧ Below w.heap.size w ((w.alloc (.cells (rowV (bv fun _ => false)) 95)).alloc (.cells (rowV (bv fun _ => false)) 95)) := by
  have h := new_row (w.alloc (.cells (rowV (bv fun _ => false)) 95))
  rw [World.size_alloc] at h
  exact ⟨(new_row w).1.alloc _, h.1, (new_row w).2.trans (h.2.mono (Nat.le_succ _))⟩
set_option maxHeartbeats 1000000 in
theorem not_any (s : ByteArray) (w : World) : Calls Tryz.prog 77 #[.string s] w fun e w' => e = .returned (.string (tx fun i => !has s.data.toList i)) ∧ Below w.heap.size w w' := by
  go_enter Tryz.func77, Tryz.ntmps77
  go_wp2_with fail
  refine (bitsOf_any _ _).mono ?_
  rintro e w1 ⟨rfl, hb1⟩
  have HB1 := Lib.hid hb1
  clear hb1
  go_wp2_with fail
  refine (others_any _ _).mono ?_
  rintro e w2 ⟨rfl, hb2⟩
  have HB2 := Lib.hid (on HB1.out hb2)
  clear hb2
  go_wp2_with fail
  refine (text_any _ _).mono ?_
  rintro e w3 ⟨rfl, hb3⟩
  have HB3 := Lib.hid (on HB2.out hb3)
  clear hb3
  go_wp2_with fail
  go_ret
  exact ⟨rfl, HB3.out⟩
theorem row_true {w : World} {b : Nat} {t : TypeId} {f : Nat → Bool} (h : Row w b t (bv f)) (i : Nat) : Row (w.setCell ⟨b, i, none⟩ (.bool true)) b t (bv fun j => f j || decide (j = i)) := by
  refine (h.put i (.bool true)).is fun j _ => ?_
  by_cases e : j = i
  · subst e; rw [if_pos rfl]; exact bv_eq (f := fun _ => true) (by simp)
  · rw [if_neg e]; exact bv_eq (by simp [e])
set_option maxHeartbeats 1000000 in
theorem named_100 (w : World) : Calls Tryz.prog 114 #[.int .u8 100] w fun e w' => e = .returned (.agg (rowV (bv (namedF 100)))) ∧ Below w.heap.size w w' := by
  have hz := zero37
  go_enter Tryz.func114, Tryz.ntmps114
  go_wp2_with fail
  have HN := Lib.hid (new_rows w)
  generalize ((w.alloc (.cells (rowV (bv fun _ => false)) 95)).alloc (.cells (rowV (bv fun _ => false)) 95)) = w1 at HN ⊢
  clear hz
  have HR := Lib.hid HN.out.2.1
  have HQ := Lib.hid HN.out.1
  have HB := Lib.hid HN.out.2.2
  clear HN
  refine (span_any HR.out 48 57).mono ?_
  rintro e w2 ⟨rfl, hr2, hb2⟩
  replace HR := Lib.hid hr2
  replace HQ := Lib.hid (HQ.out.beside hb2 (by omega))
  replace HB := Lib.hid (HB.out.trans (hb2.below HB.out.size (by omega)))
  clear hr2 hb2
  go_wp2_with (first | (refine load_row rfl (.tmp 3) rfl rfl HR.out ?_) | (refine store_row rfl (.tmp 2) (.tmp 26) rfl rfl rfl HQ.out ?_; intro wz hrz hbz; have HRZ := Lib.hid hrz; have HBZ := Lib.hid hbz; clear hrz hbz))
  refine end_row rfl rfl HRZ.out rfl ⟨?_, HB.out.trans (HBZ.out.below HB.out.size (Nat.le_refl _))⟩
  exact congrArg (fun x => Ending.returned (.agg x)) (rowV_congr fun i _ => bv_eq rfl)
set_option maxHeartbeats 1000000 in
theorem named_119 (w : World) : Calls Tryz.prog 114 #[.int .u8 119] w fun e w' => e = .returned (.agg (rowV (bv (namedF 119)))) ∧ Below w.heap.size w w' := by
  have hz := zero37
  go_enter Tryz.func114, Tryz.ntmps114
  go_wp2_with fail
  have HN := Lib.hid (new_rows w)
  generalize ((w.alloc (.cells (rowV (bv fun _ => false)) 95)).alloc (.cells (rowV (bv fun _ => false)) 95)) = w1 at HN ⊢
  clear hz
  have HR := Lib.hid HN.out.2.1
  have HQ := Lib.hid HN.out.1
  have HB := Lib.hid HN.out.2.2
  clear HN
  refine (span_any HR.out 97 122).mono ?_
  rintro e w2 ⟨rfl, hr2, hb2⟩
  replace HR := Lib.hid hr2
  replace HQ := Lib.hid (HQ.out.beside hb2 (by omega))
  replace HB := Lib.hid (HB.out.trans (hb2.below HB.out.size (by omega)))
  clear hr2 hb2
  go_wp2_with fail
  refine (span_any HR.out 65 90).mono ?_
  rintro e w2 ⟨rfl, hr2, hb2⟩
  replace HR := Lib.hid hr2
  replace HQ := Lib.hid (HQ.out.beside hb2 (by omega))
  replace HB := Lib.hid (HB.out.trans (hb2.below HB.out.size (by omega)))
  clear hr2 hb2
  have hcell := HR.out.cell (i := 95) (by omega)
  have hfree := HR.out.free 95
  have HR2 := Lib.hid (row_true HR.out 95)
  have HQ2 := Lib.hid (HQ.out.other (a := ⟨w.heap.size + 1, 95, none⟩) (by simp) (.bool true))
  have HB2 := Lib.hid (HB.out.setCell (p := ⟨w.heap.size + 1, 95, none⟩) (by simp) (.bool true))
  go_wp2_with fail
  clear hcell hfree
  replace HR := HR2
  replace HQ := HQ2
  replace HB := HB2
  refine (span_any HR.out 48 57).mono ?_
  rintro e w2 ⟨rfl, hr2, hb2⟩
  replace HR := Lib.hid hr2
  replace HQ := Lib.hid (HQ.out.beside hb2 (by omega))
  replace HB := Lib.hid (HB.out.trans (hb2.below HB.out.size (by omega)))
  clear hr2 hb2
  go_wp2_with (first | (refine load_row rfl (.tmp 3) rfl rfl HR.out ?_) | (refine store_row rfl (.tmp 2) (.tmp 26) rfl rfl rfl HQ.out ?_; intro wz hrz hbz; have HRZ := Lib.hid hrz; have HBZ := Lib.hid hbz; clear hrz hbz))
  refine end_row rfl rfl HRZ.out rfl ⟨?_, HB.out.trans (HBZ.out.below HB.out.size (Nat.le_refl _))⟩
  exact congrArg (fun x => Ending.returned (.agg x)) (rowV_congr fun i _ => bv_eq rfl)
set_option maxHeartbeats 1000000 in
theorem named_115 (w : World) : Calls Tryz.prog 114 #[.int .u8 115] w fun e w' => e = .returned (.agg (rowV (bv (namedF 115)))) ∧ Below w.heap.size w w' := by
  have hz := zero37
  go_enter Tryz.func114, Tryz.ntmps114
  go_wp2_with fail
  have HN := Lib.hid (new_rows w)
  generalize ((w.alloc (.cells (rowV (bv fun _ => false)) 95)).alloc (.cells (rowV (bv fun _ => false)) 95)) = w1 at HN ⊢
  clear hz
  have HR := Lib.hid HN.out.2.1
  have HQ := Lib.hid HN.out.1
  have HB := Lib.hid HN.out.2.2
  clear HN
  refine (span_any HR.out 9 13).mono ?_
  rintro e w2 ⟨rfl, hr2, hb2⟩
  replace HR := Lib.hid hr2
  replace HQ := Lib.hid (HQ.out.beside hb2 (by omega))
  replace HB := Lib.hid (HB.out.trans (hb2.below HB.out.size (by omega)))
  clear hr2 hb2
  have hcell := HR.out.cell (i := 32) (by omega)
  have hfree := HR.out.free 32
  have HR2 := Lib.hid (row_true HR.out 32)
  have HQ2 := Lib.hid (HQ.out.other (a := ⟨w.heap.size + 1, 32, none⟩) (by simp) (.bool true))
  have HB2 := Lib.hid (HB.out.setCell (p := ⟨w.heap.size + 1, 32, none⟩) (by simp) (.bool true))
  go_wp2_with (first | (refine load_row rfl (.tmp 3) rfl rfl HR2.out ?_) | (refine store_row rfl (.tmp 2) (.tmp 26) rfl rfl rfl HQ2.out ?_; intro wz hrz hbz; have HRZ := Lib.hid hrz; have HBZ := Lib.hid hbz; clear hrz hbz))
  clear hcell hfree
  replace HR := HR2
  replace HQ := HQ2
  replace HB := HB2
  refine end_row rfl rfl HRZ.out rfl ⟨?_, HB.out.trans (HBZ.out.below HB.out.size (Nat.le_refl _))⟩
  exact congrArg (fun x => Ending.returned (.agg x)) (rowV_congr fun i _ => bv_eq rfl)
set_option maxHeartbeats 1000000 in
theorem named_68 (w : World) : Calls Tryz.prog 114 #[.int .u8 68] w fun e w' => e = .returned (.agg (rowV (bv (namedF 68)))) ∧ Below w.heap.size w w' := by
  have hz := zero37
  go_enter Tryz.func114, Tryz.ntmps114
  go_wp2_with fail
  have HN := Lib.hid (new_rows w)
  generalize ((w.alloc (.cells (rowV (bv fun _ => false)) 95)).alloc (.cells (rowV (bv fun _ => false)) 95)) = w1 at HN ⊢
  clear hz
  have HR := Lib.hid HN.out.2.1
  have HQ := Lib.hid HN.out.1
  have HB := Lib.hid HN.out.2.2
  clear HN
  refine (named_100 _).mono ?_
  rintro e w2 ⟨rfl, hb2⟩
  replace HR := Lib.hid (HR.out.on hb2 HR.out.lt)
  replace HQ := Lib.hid (HQ.out.on hb2 HQ.out.lt)
  replace HB := Lib.hid (HB.out.trans (hb2.mono HB.out.size))
  clear hb2
  go_wp2_with fail
  refine (others_any _ _).mono ?_
  rintro e w2 ⟨rfl, hb2⟩
  replace HR := Lib.hid (HR.out.on hb2 HR.out.lt)
  replace HQ := Lib.hid (HQ.out.on hb2 HQ.out.lt)
  replace HB := Lib.hid (HB.out.trans (hb2.mono HB.out.size))
  clear hb2
  go_wp2_with (first | (refine store_row rfl (.tmp 3) (.tmp 19) rfl rfl rfl HR.out ?_; intro wy hry hby; have HRY := Lib.hid hry; have HBY := Lib.hid hby; have HQY := Lib.hid (HQ.out.beside hby (by omega)); clear hry hby) | (refine load_row rfl (.tmp 3) rfl rfl HRY.out ?_) | (refine store_row rfl (.tmp 2) (.tmp 26) rfl rfl rfl HQY.out ?_; intro wz hrz hbz; have HRZ := Lib.hid hrz; have HBZ := Lib.hid hbz; clear hrz hbz))
  replace HB := Lib.hid (HB.out.trans (HBY.out.below HB.out.size (by omega)))
  refine end_row rfl rfl HRZ.out rfl ⟨?_, HB.out.trans (HBZ.out.below HB.out.size (Nat.le_refl _))⟩
  exact congrArg (fun x => Ending.returned (.agg x)) (rowV_congr fun i _ => bv_eq rfl)
set_option maxHeartbeats 1000000 in
theorem named_87 (w : World) : Calls Tryz.prog 114 #[.int .u8 87] w fun e w' => e = .returned (.agg (rowV (bv (namedF 87)))) ∧ Below w.heap.size w w' := by
  have hz := zero37
  go_enter Tryz.func114, Tryz.ntmps114
  go_wp2_with fail
  have HN := Lib.hid (new_rows w)
  generalize ((w.alloc (.cells (rowV (bv fun _ => false)) 95)).alloc (.cells (rowV (bv fun _ => false)) 95)) = w1 at HN ⊢
  clear hz
  have HR := Lib.hid HN.out.2.1
  have HQ := Lib.hid HN.out.1
  have HB := Lib.hid HN.out.2.2
  clear HN
  refine (named_119 _).mono ?_
  rintro e w2 ⟨rfl, hb2⟩
  replace HR := Lib.hid (HR.out.on hb2 HR.out.lt)
  replace HQ := Lib.hid (HQ.out.on hb2 HQ.out.lt)
  replace HB := Lib.hid (HB.out.trans (hb2.mono HB.out.size))
  clear hb2
  go_wp2_with fail
  refine (others_any _ _).mono ?_
  rintro e w2 ⟨rfl, hb2⟩
  replace HR := Lib.hid (HR.out.on hb2 HR.out.lt)
  replace HQ := Lib.hid (HQ.out.on hb2 HQ.out.lt)
  replace HB := Lib.hid (HB.out.trans (hb2.mono HB.out.size))
  clear hb2
  go_wp2_with (first | (refine store_row rfl (.tmp 3) (.tmp 19) rfl rfl rfl HR.out ?_; intro wy hry hby; have HRY := Lib.hid hry; have HBY := Lib.hid hby; have HQY := Lib.hid (HQ.out.beside hby (by omega)); clear hry hby) | (refine load_row rfl (.tmp 3) rfl rfl HRY.out ?_) | (refine store_row rfl (.tmp 2) (.tmp 26) rfl rfl rfl HQY.out ?_; intro wz hrz hbz; have HRZ := Lib.hid hrz; have HBZ := Lib.hid hbz; clear hrz hbz))
  replace HB := Lib.hid (HB.out.trans (HBY.out.below HB.out.size (by omega)))
  refine end_row rfl rfl HRZ.out rfl ⟨?_, HB.out.trans (HBZ.out.below HB.out.size (Nat.le_refl _))⟩
  exact congrArg (fun x => Ending.returned (.agg x)) (rowV_congr fun i _ => bv_eq rfl)
set_option maxHeartbeats 1000000 in
theorem named_83 (w : World) : Calls Tryz.prog 114 #[.int .u8 83] w fun e w' => e = .returned (.agg (rowV (bv (namedF 83)))) ∧ Below w.heap.size w w' := by
  have hz := zero37
  go_enter Tryz.func114, Tryz.ntmps114
  go_wp2_with fail
  have HN := Lib.hid (new_rows w)
  generalize ((w.alloc (.cells (rowV (bv fun _ => false)) 95)).alloc (.cells (rowV (bv fun _ => false)) 95)) = w1 at HN ⊢
  clear hz
  have HR := Lib.hid HN.out.2.1
  have HQ := Lib.hid HN.out.1
  have HB := Lib.hid HN.out.2.2
  clear HN
  refine (named_115 _).mono ?_
  rintro e w2 ⟨rfl, hb2⟩
  replace HR := Lib.hid (HR.out.on hb2 HR.out.lt)
  replace HQ := Lib.hid (HQ.out.on hb2 HQ.out.lt)
  replace HB := Lib.hid (HB.out.trans (hb2.mono HB.out.size))
  clear hb2
  go_wp2_with fail
  refine (others_any _ _).mono ?_
  rintro e w2 ⟨rfl, hb2⟩
  replace HR := Lib.hid (HR.out.on hb2 HR.out.lt)
  replace HQ := Lib.hid (HQ.out.on hb2 HQ.out.lt)
  replace HB := Lib.hid (HB.out.trans (hb2.mono HB.out.size))
  clear hb2
  go_wp2_with (first | (refine store_row rfl (.tmp 3) (.tmp 19) rfl rfl rfl HR.out ?_; intro wy hry hby; have HRY := Lib.hid hry; have HBY := Lib.hid hby; have HQY := Lib.hid (HQ.out.beside hby (by omega)); clear hry hby) | (refine load_row rfl (.tmp 3) rfl rfl HRY.out ?_) | (refine store_row rfl (.tmp 2) (.tmp 26) rfl rfl rfl HQY.out ?_; intro wz hrz hbz; have HRZ := Lib.hid hrz; have HBZ := Lib.hid hbz; clear hrz hbz))
  replace HB := Lib.hid (HB.out.trans (HBY.out.below HB.out.size (by omega)))
  refine end_row rfl rfl HRZ.out rfl ⟨?_, HB.out.trans (HBZ.out.below HB.out.size (Nat.le_refl _))⟩
  exact congrArg (fun x => Ending.returned (.agg x)) (rowV_congr fun i _ => bv_eq rfl)
theorem u8_ne {c d : UInt8} (h : ¬ c = d) : (((c.toNat : Nat) : Int) == ((d.toNat : Nat) : Int)) = false := beq_eq_false_iff_ne.2 fun e => h (Kit.byte_eq e)
set_option maxHeartbeats 1000000 in
theorem named_no {c : UInt8} (h1 : ¬ c = 100) (h2 : ¬ c = 119) (h3 : ¬ c = 115) (h4 : ¬ c = 68) (h5 : ¬ c = 87) (h6 : ¬ c = 83) (w : World) : Calls Tryz.prog 114 #[.int .u8 c.toNat] w fun e w' => e = .returned (.agg (rowV (bv (namedF c)))) ∧ Below w.heap.size w w' := by
  have HF : Hid (namedF c = fun _ => false) := by
    funext i
    unfold namedF
    rw [if_neg h1, if_neg h2, if_neg h3, if_neg h4, if_neg h5, if_neg h6]
  have g1 : (((c.toNat : Nat) : Int) == 100) = false := u8_ne (d := 100) h1
  have g2 : (((c.toNat : Nat) : Int) == 119) = false := u8_ne (d := 119) h2
  have g3 : (((c.toNat : Nat) : Int) == 115) = false := u8_ne (d := 115) h3
  have g4 : (((c.toNat : Nat) : Int) == 68) = false := u8_ne (d := 68) h4
  have g5 : (((c.toNat : Nat) : Int) == 87) = false := u8_ne (d := 87) h5
  have g6 : (((c.toNat : Nat) : Int) == 83) = false := u8_ne (d := 83) h6
  clear h1 h2 h3 h4 h5 h6
  have hz := zero37
  go_enter Tryz.func114, Tryz.ntmps114
  have HN := Lib.hid (new_rows w)
  go_wp2_with (first | (refine load_row rfl (.tmp 3) rfl rfl HN.out.2.1 ?_) | (refine store_row rfl (.tmp 2) (.tmp 26) rfl rfl rfl HN.out.1 ?_; intro wz hrz hbz; have HRZ := Lib.hid hrz; have HBZ := Lib.hid hbz; clear hrz hbz))
  refine end_row rfl rfl HRZ.out rfl ⟨?_, HN.out.2.2.trans (HBZ.out.below HN.out.2.2.size (Nat.le_refl _))⟩
  rw [HF.out]
theorem named_any (c : UInt8) (w : World) : Calls Tryz.prog 114 #[.int .u8 c.toNat] w fun e w' => e = .returned (.agg (rowV (bv (namedF c)))) ∧ Below w.heap.size w w' := by
  by_cases h1 : c = 100
  · subst h1; exact named_100 w
  by_cases h2 : c = 119
  · subst h2; exact named_119 w
  by_cases h3 : c = 115
  · subst h3; exact named_115 w
  by_cases h4 : c = 68
  · subst h4; exact named_68 w
  by_cases h5 : c = 87
  · subst h5; exact named_87 w
  by_cases h6 : c = 83
  · subst h6; exact named_83 w
  exact named_no h1 h2 h3 h4 h5 h6 w
set_option maxHeartbeats 1000000 in
theorem namedS_any (c : UInt8) (w : World) : Calls Tryz.prog 103 #[.int .u8 c.toNat] w fun e w' => e = .returned (.tuple #[.string (tx (namedF c)), .bool (letter c)]) ∧ Below w.heap.size w w' := by
  go_enter Tryz.func103, Tryz.ntmps103
  go_wp2_with fail
  refine (named_any _ _).mono ?_
  rintro e w1 ⟨rfl, hb1⟩
  have HB1 := Lib.hid hb1
  clear hb1
  go_wp2_with fail
  refine (text_any _ _).mono ?_
  rintro e w2 ⟨rfl, hb2⟩
  have HB2 := Lib.hid (on HB1.out hb2)
  clear hb2
  go_wp2_with fail
  refine (isLetter_any _ _).mono ?_
  rintro e w3 ⟨rfl, rfl⟩
  go_wp2_with fail
  go_ret2
  exact ⟨rfl, HB2.out⟩
end Go.Proofs.YtmbibaccpeldoaaGreatDoor.W13
/-
  Layer 13 (class), walks of the program's functions that read a set's text: one byte, an item, the items, Parse. The conditions stand in the statements.
-/
namespace Go.Proofs.YtmbibaccpeldoaaGreatDoor.W13
set_option maxRecDepth 100000
open Go Go.RowKit Go.Proofs.YtmbibaccpeldoaaGreatDoor.M13 Go.Proofs.YtmbibaccpeldoaaGreatDoor.Row256
open Go.Proofs.YtmbibaccpeldoaaGreatDoor.Kit (ret_str ret_bool ret_int mk_of mk_bytes ba_ext below_draws on list_full list_ne list_none list_nil bytes_nil bytes_cons)

def oneV (r : UInt8 × Nat × Bool) : Value := .tuple #[.int .u8 r.1.toNat, .int .i64 r.2.1, .bool r.2.2]
theorem bytes_two {s : ByteArray} (h : 1 < s.size) : s.data.toList = s[0] :: s[1] :: s.data.toList.drop 2 := by
  rw [← Kit.drop_next s 1 h]
  conv => lhs; rw [← List.drop_zero (l := s.data.toList), Kit.drop_next s 0 (by omega)]
theorem one_bytes {s : ByteArray} (h0 : 0 < s.size) (h : ¬ 1 < s.size) : s.data.toList = [s[0]] := by
  conv => lhs; rw [← List.drop_zero (l := s.data.toList), Kit.drop_next s 0 h0]
  rw [Kit.drop_end s 1 h]
set_option maxHeartbeats 1000000 in
theorem one_any (s : ByteArray) (w : World) : Calls Tryz.prog 127 #[.string s] w fun e w' => e = .returned (oneV (one s.data.toList)) ∧ Below w.heap.size w w' := by
  by_cases h0 : 0 < s.size
  · have hl := list_full h0
    by_cases h1 : s[0] = 92
    · by_cases h2 : 1 < s.size
      · have hb : (s.toList == [92]) = false := by rw [Lib.toList_data, bytes_two h2]; simp
        have HV : Hid (one s.data.toList = (s[1], 2, letter s[1])) := by
          unfold Hid
          rw [bytes_two h2, h1]; rfl
        have t1 : ((s[0].toNat : Int) == 92) = true := by rw [h1]; rfl
        clear h1
        go_enter Tryz.func127, Tryz.ntmps127
        go_wp2_with fail
        have hi2 : (1 : Int) < (s.size : Int) := by omega
        go_quiet ((go_at_call 115; exact Calls.quiet_of_same (isLetter_any _ _)))
        go_wp2_with fail
        refine bodyPost_ret (results_tmp3 rfl _ _ _) rfl ?_
        exact ⟨by rw [HV.out]; rfl, below_draws w nq⟩
      · have hb : (s.toList == [92]) = true := by rw [Lib.toList_data, one_bytes h0 h2, h1]; rfl
        have HV : Hid (one s.data.toList = (0, 0, false)) := by
          unfold Hid
          rw [one_bytes h0 h2, h1]; rfl
        clear h1
        go_enter Tryz.func127, Tryz.ntmps127
        go_wp2_with fail
        refine bodyPost_ret (results_tmp3 rfl _ _ _) rfl ?_
        exact ⟨by rw [HV.out]; rfl, Below.refl _ _⟩
    · have hb : (s.toList == [92]) = false := by rw [Lib.toList_data, bytes_cons h0]; simp [h1]
      have HV : Hid (one s.data.toList = (s[0], 1, false)) := by
        unfold Hid
        rw [bytes_cons h0]; unfold one; simp only [if_neg h1]
      have t1 : ((s[0].toNat : Int) == 92) = false := by
        rw [show (92 : Int) = ((92 : UInt8).toNat : Int) from rfl, Kit.byte_test, decide_eq_false h1]
      clear h1
      go_enter Tryz.func127, Tryz.ntmps127
      go_wp2_with fail
      refine bodyPost_ret (results_tmp3 rfl _ _ _) rfl ?_
      exact ⟨by rw [HV.out]; rfl, Below.refl _ _⟩
  · have hl := list_none h0
    have HV : Hid (one s.data.toList = (0, 0, false)) := by
      unfold Hid
      rw [bytes_nil h0]; rfl
    go_enter Tryz.func127, Tryz.ntmps127
    go_wp2_with fail
    refine bodyPost_ret (results_tmp3 rfl _ _ _) rfl ?_
    exact ⟨by rw [HV.out]; rfl, Below.refl _ _⟩
end Go.Proofs.YtmbibaccpeldoaaGreatDoor.W13
/-
  Layer 13 (class): the program's item, in its eight ways. The conditions stand in the statements.
-/
namespace Go.Proofs.YtmbibaccpeldoaaGreatDoor.W13
set_option maxRecDepth 100000
open Go Go.RowKit Go.Proofs.YtmbibaccpeldoaaGreatDoor.M13 Go.Proofs.YtmbibaccpeldoaaGreatDoor.Row256
open Go.Proofs.YtmbibaccpeldoaaGreatDoor.Kit (ret_str ret_bool ret_int mk_of mk_bytes ba_ext below_draws on drop_bytes)

/-- what item answers, and what it makes of the array -/
def Itemed (w : World) (b : Nat) (t : TypeId) (f : Nat → Bool) (r : Nat × Int × (Nat → Bool)) (e : Ending) (w' : World) : Prop := e = .returned (.tuple #[.int .i64 r.1, .int .i64 r.2.1]) ∧ Row w' b t (bv fun i => f i || r.2.2 i) ∧ Beside b w w'
theorem row_same {w : World} {b : Nat} {t : TypeId} {f : Nat → Bool} (h : Row w b t (bv f)) : Row w b t (bv fun i => f i || false) := h.is fun i _ => bv_eq (by rw [Bool.or_false])
theorem one_two (s : List UInt8) : (one s).2.1 ≤ 2 := by
  unfold one
  split
  · exact Nat.zero_le _
  · rename_i c r
    by_cases h : c = 92
    · rw [if_pos h]
      split
      · exact Nat.zero_le _
      · exact Nat.le_refl _
    · rw [if_neg h]; exact Nat.le_succ 1
theorem joined_long {s : List UInt8} {n : Nat} (h : joined (s.drop n) = true) : n < s.length := by
  by_cases e : n < s.length
  · exact e
  · rw [List.drop_of_length_le (by omega)] at h; cases h
set_option maxHeartbeats 1000000 in
theorem item_a {w : World} {b : Nat} {t : TypeId} {f : Nat → Bool} (h : Row w b t (bv f)) {s : ByteArray} {a : UInt8} {n : Nat} {nm : Bool} (hone : one s.data.toList = (a, n, nm)) (hn : n = 0) :
    Calls Tryz.prog 122 #[.pointer (some ⟨b, 0, none⟩), .string s] w (Itemed w b t f (item s.data.toList)) := by
  have HV : Hid (item s.data.toList = (0, 3, fun _ => false)) := by
    unfold Hid item
    rw [hone, if_pos hn]
  subst hn
  have HC := Lib.hid h
  have HONE := Lib.hid hone
  clear h hone
  go_enter Tryz.func122, Tryz.ntmps122
  go_wp2_with fail
  refine (one_any _ _).mono ?_
  rintro e w1 ⟨rfl, hb1⟩
  rw [HONE.out]
  unfold oneV
  have HR := Lib.hid (HC.out.on hb1 HC.out.lt)
  have HB := Lib.hid (Beside.of (b := b) hb1)
  clear hb1
  go_wp2_with fail
  refine (isJoined_any _ _).mono ?_
  rintro e w2 ⟨rfl, rfl⟩
  go_wp2_with fail
  go_ret2
  exact ⟨by rw [HV.out]; rfl, by rw [HV.out]; exact row_same HR.out, HB.out⟩
set_option maxHeartbeats 1000000 in
theorem item_b {w : World} {b : Nat} {t : TypeId} {f : Nat → Bool} (h : Row w b t (bv f)) {s : ByteArray} {a : UInt8} {n : Nat} (hone : one s.data.toList = (a, n, true)) (hn : ¬ n = 0) (hj : joined (s.data.toList.drop n) = true) :
    Calls Tryz.prog 122 #[.pointer (some ⟨b, 0, none⟩), .string s] w (Itemed w b t f (item s.data.toList)) := by
  have HV : Hid (item s.data.toList = (0, 3, fun _ => false)) := by
    unfold Hid item
    rw [hone]
    simp [hn, hj]
  have hle := one_le s.data.toList
  have hle2 := one_two s.data.toList
  rw [hone] at hle2
  rw [hone, ← Lib.size_eq] at hle
  simp only at hle hle2
  have HC := Lib.hid h
  have HONE := Lib.hid hone
  have HJ := Lib.hid hj
  have hlei : (n : Int) ≤ (s.size : Int) := by omega
  have tn : ((n : Int) == 0) = false := beq_eq_false_iff_ne.2 (by omega)
  have HD := Lib.hid (drop_bytes s n)
  clear h hone hj hn
  go_enter Tryz.func122, Tryz.ntmps122
  go_wp2_with fail
  refine (one_any _ _).mono ?_
  rintro e w1 ⟨rfl, hb1⟩
  rw [HONE.out]
  unfold oneV
  have HR := Lib.hid (HC.out.on hb1 HC.out.lt)
  have HB := Lib.hid (Beside.of (b := b) hb1)
  clear hb1
  go_wp2_with fail
  refine (isJoined_any _ _).mono ?_
  rintro e w2 ⟨rfl, rfl⟩
  rw [HD.out, HJ.out]
  go_wp2_with fail
  go_ret2
  exact ⟨by rw [HV.out]; rfl, by rw [HV.out]; exact row_same HR.out, HB.out⟩
set_option maxHeartbeats 1000000 in
theorem item_c {w : World} {b : Nat} {t : TypeId} {f : Nat → Bool} (h : Row w b t (bv f)) {s : ByteArray} {a : UInt8} {n : Nat} (hone : one s.data.toList = (a, n, true)) (hn : ¬ n = 0) (hj : joined (s.data.toList.drop n) = false) :
    Calls Tryz.prog 122 #[.pointer (some ⟨b, 0, none⟩), .string s] w (Itemed w b t f (item s.data.toList)) := by
  have HV : Hid (item s.data.toList = (n, 0, namedF a)) := by
    unfold Hid item
    rw [hone]
    simp [hn, hj]
  have hle := one_le s.data.toList
  have hle2 := one_two s.data.toList
  rw [hone] at hle2
  rw [hone, ← Lib.size_eq] at hle
  simp only at hle hle2
  have HC := Lib.hid h
  have HONE := Lib.hid hone
  have HJ := Lib.hid hj
  have hlei : (n : Int) ≤ (s.size : Int) := by omega
  have tn : ((n : Int) == 0) = false := beq_eq_false_iff_ne.2 (by omega)
  have HD := Lib.hid (drop_bytes s n)
  clear h hone hj hn
  go_enter Tryz.func122, Tryz.ntmps122
  go_wp2_with fail
  refine (one_any _ _).mono ?_
  rintro e w1 ⟨rfl, hb1⟩
  rw [HONE.out]
  unfold oneV
  have HR := Lib.hid (HC.out.on hb1 HC.out.lt)
  have HB := Lib.hid (Beside.of (b := b) hb1)
  clear hb1
  go_wp2_with fail
  refine (isJoined_any _ _).mono ?_
  rintro e w2 ⟨rfl, rfl⟩
  rw [HD.out, HJ.out]
  go_wp2_with fail
  refine (named_any _ _).mono ?_
  rintro e w3 ⟨rfl, hb3⟩
  replace HR := Lib.hid (HR.out.on hb3 HR.out.lt)
  replace HB := Lib.hid (HB.out.trans (Beside.of hb3))
  clear hb3
  go_wp2_with fail
  refine (add_any HR.out _).mono ?_
  rintro e w4 ⟨rfl, hr4, hb4⟩
  replace HR := Lib.hid hr4
  replace HB := Lib.hid (HB.out.trans hb4)
  clear hr4 hb4
  go_wp2_with fail
  go_ret2
  exact ⟨by rw [HV.out]; rfl, by rw [HV.out]; exact HR.out, HB.out⟩
set_option maxHeartbeats 1000000 in
theorem item_d {w : World} {b : Nat} {t : TypeId} {f : Nat → Bool} (h : Row w b t (bv f)) {s : ByteArray} {a : UInt8} {n : Nat} (hone : one s.data.toList = (a, n, false)) (hn : ¬ n = 0) (hj : joined (s.data.toList.drop n) = false) :
    Calls Tryz.prog 122 #[.pointer (some ⟨b, 0, none⟩), .string s] w (Itemed w b t f (item s.data.toList)) := by
  have HV : Hid (item s.data.toList = (n, 0, fun i => decide (i = a.toNat))) := by
    unfold Hid item
    rw [hone]
    simp [hn, hj]
  have hle := one_le s.data.toList
  have hle2 := one_two s.data.toList
  rw [hone] at hle2
  rw [hone, ← Lib.size_eq] at hle
  simp only at hle hle2
  have HC := Lib.hid h
  have HONE := Lib.hid hone
  have HJ := Lib.hid hj
  have hlei : (n : Int) ≤ (s.size : Int) := by omega
  have tn : ((n : Int) == 0) = false := beq_eq_false_iff_ne.2 (by omega)
  have HD := Lib.hid (drop_bytes s n)
  clear h hone hj hn
  go_enter Tryz.func122, Tryz.ntmps122
  go_wp2_with fail
  refine (one_any _ _).mono ?_
  rintro e w1 ⟨rfl, hb1⟩
  rw [HONE.out]
  unfold oneV
  have HR := Lib.hid (HC.out.on hb1 HC.out.lt)
  have HB := Lib.hid (Beside.of (b := b) hb1)
  clear hb1
  go_wp2_with fail
  refine (isJoined_any _ _).mono ?_
  rintro e w2 ⟨rfl, rfl⟩
  rw [HD.out, HJ.out]
  have ha256 : (a.toNat : Int) < 256 := by have := UInt8.toNat_lt a; omega
  have hcell := HR.out.cell (i := a.toNat) (UInt8.toNat_lt a)
  have hfree := HR.out.free a.toNat
  generalize hold : bv f a.toNat = old at hcell
  clear hold
  go_wp2_with fail
  go_ret2
  exact ⟨by rw [HV.out]; rfl, by rw [HV.out]; exact row_true HR.out _, HB.out.put _ _⟩
set_option maxHeartbeats 1000000 in
theorem item_e {w : World} {b : Nat} {t : TypeId} {f : Nat → Bool} (h : Row w b t (bv f)) {s : ByteArray} {a : UInt8} {n : Nat} (hone : one s.data.toList = (a, n, false)) (hn : ¬ n = 0) (hj : joined (s.data.toList.drop n) = true) {a2 : UInt8} {m : Nat} {nm2 : Bool} (hone2 : one (s.data.toList.drop (n + 1)) = (a2, m, nm2)) (hm : m = 0) :
    Calls Tryz.prog 122 #[.pointer (some ⟨b, 0, none⟩), .string s] w (Itemed w b t f (item s.data.toList)) := by
  have HV : Hid (item s.data.toList = (0, 3, fun _ => false)) := by
    unfold Hid item
    rw [hone]
    simp [hn, hj, hone2, hm]
  have hjl := joined_long hj
  rw [← Lib.size_eq] at hjl
  have hm2 := one_two (s.data.toList.drop (n + 1))
  rw [hone2] at hm2
  simp only at hm2
  have hn1i : (n : Int) + 1 ≤ (s.size : Int) := by omega
  have HD2 := Lib.hid (drop_bytes s (n + 1))
  have HONE2 := Lib.hid hone2
  clear hjl hone2
  have tm : ((m : Int) == 0) = true := by rw [hm]; rfl
  clear hm
  have hle := one_le s.data.toList
  have hle2 := one_two s.data.toList
  rw [hone] at hle2
  rw [hone, ← Lib.size_eq] at hle
  simp only at hle hle2
  have HC := Lib.hid h
  have HONE := Lib.hid hone
  have HJ := Lib.hid hj
  have hlei : (n : Int) ≤ (s.size : Int) := by omega
  have tn : ((n : Int) == 0) = false := beq_eq_false_iff_ne.2 (by omega)
  have HD := Lib.hid (drop_bytes s n)
  clear h hone hj hn
  go_enter Tryz.func122, Tryz.ntmps122
  go_wp2_with fail
  refine (one_any _ _).mono ?_
  rintro e w1 ⟨rfl, hb1⟩
  rw [HONE.out]
  unfold oneV
  have HR := Lib.hid (HC.out.on hb1 HC.out.lt)
  have HB := Lib.hid (Beside.of (b := b) hb1)
  clear hb1
  go_wp2_with fail
  refine (isJoined_any _ _).mono ?_
  rintro e w2 ⟨rfl, rfl⟩
  rw [HD.out, HJ.out]
  go_wp2_with fail
  refine (one_any _ _).mono ?_
  rintro e w3 ⟨rfl, hb3⟩
  rw [HD2.out, HONE2.out]
  unfold oneV
  replace HR := Lib.hid (HR.out.on hb3 HR.out.lt)
  replace HB := Lib.hid (HB.out.trans (Beside.of hb3))
  clear hb3
  go_wp2_with fail
  go_ret2
  exact ⟨by rw [HV.out]; rfl, by rw [HV.out]; exact row_same HR.out, HB.out⟩
set_option maxHeartbeats 1000000 in
theorem item_g {w : World} {b : Nat} {t : TypeId} {f : Nat → Bool} (h : Row w b t (bv f)) {s : ByteArray} {a : UInt8} {n : Nat} (hone : one s.data.toList = (a, n, false)) (hn : ¬ n = 0) (hj : joined (s.data.toList.drop n) = true) {a2 : UInt8} {m : Nat} (hone2 : one (s.data.toList.drop (n + 1)) = (a2, m, true)) (hm : ¬ m = 0) :
    Calls Tryz.prog 122 #[.pointer (some ⟨b, 0, none⟩), .string s] w (Itemed w b t f (item s.data.toList)) := by
  have HV : Hid (item s.data.toList = (0, 3, fun _ => false)) := by
    unfold Hid item
    rw [hone]
    simp [hn, hj, hone2, hm]
  have hjl := joined_long hj
  rw [← Lib.size_eq] at hjl
  have hm2 := one_two (s.data.toList.drop (n + 1))
  rw [hone2] at hm2
  simp only at hm2
  have hn1i : (n : Int) + 1 ≤ (s.size : Int) := by omega
  have HD2 := Lib.hid (drop_bytes s (n + 1))
  have HONE2 := Lib.hid hone2
  clear hjl hone2
  have tm : ((m : Int) == 0) = false := beq_eq_false_iff_ne.2 (by omega)
  clear hm
  have hle := one_le s.data.toList
  have hle2 := one_two s.data.toList
  rw [hone] at hle2
  rw [hone, ← Lib.size_eq] at hle
  simp only at hle hle2
  have HC := Lib.hid h
  have HONE := Lib.hid hone
  have HJ := Lib.hid hj
  have hlei : (n : Int) ≤ (s.size : Int) := by omega
  have tn : ((n : Int) == 0) = false := beq_eq_false_iff_ne.2 (by omega)
  have HD := Lib.hid (drop_bytes s n)
  clear h hone hj hn
  go_enter Tryz.func122, Tryz.ntmps122
  go_wp2_with fail
  refine (one_any _ _).mono ?_
  rintro e w1 ⟨rfl, hb1⟩
  rw [HONE.out]
  unfold oneV
  have HR := Lib.hid (HC.out.on hb1 HC.out.lt)
  have HB := Lib.hid (Beside.of (b := b) hb1)
  clear hb1
  go_wp2_with fail
  refine (isJoined_any _ _).mono ?_
  rintro e w2 ⟨rfl, rfl⟩
  rw [HD.out, HJ.out]
  go_wp2_with fail
  refine (one_any _ _).mono ?_
  rintro e w3 ⟨rfl, hb3⟩
  rw [HD2.out, HONE2.out]
  unfold oneV
  replace HR := Lib.hid (HR.out.on hb3 HR.out.lt)
  replace HB := Lib.hid (HB.out.trans (Beside.of hb3))
  clear hb3
  go_wp2_with fail
  go_ret2
  exact ⟨by rw [HV.out]; rfl, by rw [HV.out]; exact row_same HR.out, HB.out⟩
set_option maxHeartbeats 1000000 in
theorem item_k {w : World} {b : Nat} {t : TypeId} {f : Nat → Bool} (h : Row w b t (bv f)) {s : ByteArray} {a : UInt8} {n : Nat} (hone : one s.data.toList = (a, n, false)) (hn : ¬ n = 0) (hj : joined (s.data.toList.drop n) = true) {a2 : UInt8} {m : Nat} (hone2 : one (s.data.toList.drop (n + 1)) = (a2, m, false)) (hm : ¬ m = 0) (hlt : a2.toNat < a.toNat) :
    Calls Tryz.prog 122 #[.pointer (some ⟨b, 0, none⟩), .string s] w (Itemed w b t f (item s.data.toList)) := by
  have HV : Hid (item s.data.toList = (0, 4, fun _ => false)) := by
    unfold Hid item
    rw [hone]
    simp [hn, hj, hone2, hm, hlt]
  have hjl := joined_long hj
  rw [← Lib.size_eq] at hjl
  have hm2 := one_two (s.data.toList.drop (n + 1))
  rw [hone2] at hm2
  simp only at hm2
  have hn1i : (n : Int) + 1 ≤ (s.size : Int) := by omega
  have HD2 := Lib.hid (drop_bytes s (n + 1))
  have HONE2 := Lib.hid hone2
  clear hjl hone2
  have tm : ((m : Int) == 0) = false := beq_eq_false_iff_ne.2 (by omega)
  have tl : (a2.toNat : Int) < (a.toNat : Int) := by omega
  clear hm hlt
  have hle := one_le s.data.toList
  have hle2 := one_two s.data.toList
  rw [hone] at hle2
  rw [hone, ← Lib.size_eq] at hle
  simp only at hle hle2
  have HC := Lib.hid h
  have HONE := Lib.hid hone
  have HJ := Lib.hid hj
  have hlei : (n : Int) ≤ (s.size : Int) := by omega
  have tn : ((n : Int) == 0) = false := beq_eq_false_iff_ne.2 (by omega)
  have HD := Lib.hid (drop_bytes s n)
  clear h hone hj hn
  go_enter Tryz.func122, Tryz.ntmps122
  go_wp2_with fail
  refine (one_any _ _).mono ?_
  rintro e w1 ⟨rfl, hb1⟩
  rw [HONE.out]
  unfold oneV
  have HR := Lib.hid (HC.out.on hb1 HC.out.lt)
  have HB := Lib.hid (Beside.of (b := b) hb1)
  clear hb1
  go_wp2_with fail
  refine (isJoined_any _ _).mono ?_
  rintro e w2 ⟨rfl, rfl⟩
  rw [HD.out, HJ.out]
  go_wp2_with fail
  refine (one_any _ _).mono ?_
  rintro e w3 ⟨rfl, hb3⟩
  rw [HD2.out, HONE2.out]
  unfold oneV
  replace HR := Lib.hid (HR.out.on hb3 HR.out.lt)
  replace HB := Lib.hid (HB.out.trans (Beside.of hb3))
  clear hb3
  go_wp2_with fail
  go_ret2
  exact ⟨by rw [HV.out]; rfl, by rw [HV.out]; exact row_same HR.out, HB.out⟩
set_option maxHeartbeats 1000000 in
theorem item_less {w : World} {b : Nat} {t : TypeId} {f : Nat → Bool} (h : Row w b t (bv f)) {s : ByteArray} {a : UInt8} {n : Nat} (hone : one s.data.toList = (a, n, false)) (hn : ¬ n = 0) (hj : joined (s.data.toList.drop n) = true) {a2 : UInt8} {m : Nat} (hone2 : one (s.data.toList.drop (n + 1)) = (a2, m, false)) (hm : ¬ m = 0) (hlt : ¬ a2.toNat < a.toNat) :
    Calls Tryz.prog 122 #[.pointer (some ⟨b, 0, none⟩), .string s] w (Itemed w b t f (item s.data.toList)) := by
  have HV : Hid (item s.data.toList = (n + 1 + m, 0, between a.toNat a2.toNat)) := by
    unfold Hid item
    rw [hone]
    simp [hn, hj, hone2, hm, hlt]
  have hjl := joined_long hj
  rw [← Lib.size_eq] at hjl
  have hm2 := one_two (s.data.toList.drop (n + 1))
  rw [hone2] at hm2
  simp only at hm2
  have hn1i : (n : Int) + 1 ≤ (s.size : Int) := by omega
  have HD2 := Lib.hid (drop_bytes s (n + 1))
  have HONE2 := Lib.hid hone2
  clear hjl hone2
  have tm : ((m : Int) == 0) = false := beq_eq_false_iff_ne.2 (by omega)
  have tl : ¬ (a2.toNat : Int) < (a.toNat : Int) := by omega
  clear hm hlt
  have hle := one_le s.data.toList
  have hle2 := one_two s.data.toList
  rw [hone] at hle2
  rw [hone, ← Lib.size_eq] at hle
  simp only at hle hle2
  have HC := Lib.hid h
  have HONE := Lib.hid hone
  have HJ := Lib.hid hj
  have hlei : (n : Int) ≤ (s.size : Int) := by omega
  have tn : ((n : Int) == 0) = false := beq_eq_false_iff_ne.2 (by omega)
  have HD := Lib.hid (drop_bytes s n)
  clear h hone hj hn
  go_enter Tryz.func122, Tryz.ntmps122
  go_wp2_with fail
  refine (one_any _ _).mono ?_
  rintro e w1 ⟨rfl, hb1⟩
  rw [HONE.out]
  unfold oneV
  have HR := Lib.hid (HC.out.on hb1 HC.out.lt)
  have HB := Lib.hid (Beside.of (b := b) hb1)
  clear hb1
  go_wp2_with fail
  refine (isJoined_any _ _).mono ?_
  rintro e w2 ⟨rfl, rfl⟩
  rw [HD.out, HJ.out]
  go_wp2_with fail
  refine (one_any _ _).mono ?_
  rintro e w3 ⟨rfl, hb3⟩
  rw [HD2.out, HONE2.out]
  unfold oneV
  replace HR := Lib.hid (HR.out.on hb3 HR.out.lt)
  replace HB := Lib.hid (HB.out.trans (Beside.of hb3))
  clear hb3
  go_wp2_with fail
  refine (span_any HR.out _ _).mono ?_
  rintro e w4 ⟨rfl, hr4, hb4⟩
  replace HR := Lib.hid hr4
  replace HB := Lib.hid (HB.out.trans hb4)
  clear hr4 hb4
  go_wp2_with fail
  go_ret2
  exact ⟨by rw [HV.out]; rfl, by rw [HV.out]; exact HR.out, HB.out⟩
theorem item_any {w : World} {b : Nat} {t : TypeId} {f : Nat → Bool} (h : Row w b t (bv f)) (s : ByteArray) :
    Calls Tryz.prog 122 #[.pointer (some ⟨b, 0, none⟩), .string s] w (Itemed w b t f (item s.data.toList)) := by
  obtain ⟨⟨a, n, nm⟩, hone⟩ : ∃ r, one s.data.toList = r := ⟨_, rfl⟩
  by_cases hn : n = 0
  · exact item_a h hone hn
  cases hj : joined (s.data.toList.drop n) with
  | false =>
    cases nm with
    | true => exact item_c h hone hn hj
    | false => exact item_d h hone hn hj
  | true =>
    cases nm with
    | true => exact item_b h hone hn hj
    | false =>
      obtain ⟨⟨a2, m, nm2⟩, hone2⟩ : ∃ r, one (s.data.toList.drop (n + 1)) = r := ⟨_, rfl⟩
      by_cases hm : m = 0
      · exact item_e h hone hn hj hone2 hm
      cases nm2 with
      | true => exact item_g h hone hn hj hone2 hm
      | false =>
        by_cases hlt : a2.toNat < a.toNat
        · exact item_k h hone hn hj hone2 hm hlt
        · exact item_less h hone hn hj hone2 hm hlt
end Go.Proofs.YtmbibaccpeldoaaGreatDoor.W13
