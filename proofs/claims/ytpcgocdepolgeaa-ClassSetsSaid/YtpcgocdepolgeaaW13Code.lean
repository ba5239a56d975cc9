/-
  Layer 13 (class), walks of the program's functions on an array of truths: all others, those of a text, the text. The conditions stand in the statements.
-/
import Derived.Test.YtpcgocdepolgeaaW13Walk
namespace Go.Proofs.Ytpcgocdepolgeaa.W13
set_option maxRecDepth 100000
open Go Go.RowKit Go.Proofs.Ytpcgocdepolgeaa.M13 Go.Proofs.Ytpcgocdepolgeaa.Row256
open Go.Proofs.Ytpcgocdepolgeaa.Kit (ret_str ret_bool ret_int mk_of mk_bytes ba_ext below_draws on)

set_option maxHeartbeats 1000000 in
theorem others_any (f : Nat → Bool) (w : World) :
    Calls Try.prog 24 #[.agg (rowV (bv f))] w fun e w' => e = .returned (.agg (rowV (bv fun i => !f i))) ∧ Below w.heap.size w w' := by
  have hz := zero37
  go_enter Try.func24, Try.ntmps24
  go_wp2_with fail
  have hn1 : Row (w.alloc (.cells (rowV (bv f)) 37)) w.heap.size 37 (bv f) := Row.new _ _ _
  have hn2 := Row.new (w.alloc (.cells (rowV (bv f)) 37)) 37 (bv fun _ => false)
  rw [World.size_alloc] at hn2
  have HN := Lib.hid (And.intro (hn1.alloc (.cells (rowV (bv fun _ => false)) 37)) hn2)
  have HB := Lib.hid ((Below.refl w.heap.size w).alloc (Nat.le_refl _) (.cells (rowV (bv f)) 37) |>.alloc (by rw [World.size_alloc]; omega) (.cells (rowV (bv fun _ => false)) 37))
  clear hn1 hn2 hz
  generalize ((w.alloc (.cells (rowV (bv f)) 37)).alloc (.cells (rowV (bv fun _ => false)) 37)) = w1 at HN HB ⊢
  go_loopg [4] 256 (fun g s4 wr => ∃ i : Nat, s4 = .int .i64 i ∧ i + g = 256 ∧ Hid (Row wr w.heap.size 37 (bv fun j => if j < i then !f j else f j)) ∧ Hid (Row wr (w.heap.size + 1) 37 (bv fun _ => false)) ∧ Hid (Below w.heap.size w wr))
  case atStart => exact ⟨0, rfl, rfl, HN.out.1.is fun j _ => bv_eq (by rw [if_neg (by omega)]), HN.out.2, HB⟩
  case round =>
    obtain ⟨i, rfl, hig, hr, hz, hb⟩ := hrel
    cases gk with
    | zero =>
      obtain rfl : i = 256 := by omega
      go_wp2_with (first | (refine load_row rfl (.tmp 1) rfl rfl hr.out ?_) | (refine store_row rfl (.tmp 2) (.tmp 14) rfl rfl rfl hz.out ?_; intro wz hrz hbz; have HR := Lib.hid hrz; have HZ := Lib.hid hbz; clear hrz hbz))
      refine end_row rfl rfl (HR.out.is (k := bv fun i => !f i) fun j hj => bv_eq (by rw [if_pos hj])) rfl ⟨rfl, ?_⟩
      exact hb.out.trans (HZ.out.below hb.out.size (by omega))
    | succ g =>
      have hi3 : (i : Int) < 256 := by omega
      have hcell := hr.out.cell (i := i) (by omega)
      have hfree := hr.out.free i
      have hval : bv (fun j => if j < i then !f j else f j) i = .bool (f i) := bv_eq (f := _) (g := f) (by rw [if_neg (by omega)])
      rw [hval] at hcell
      clear hval
      go_wp2
      go_roundg g
      case measure => omega
      case rel =>
        exact ⟨i + 1, by first | rfl | simp, by omega, row_step hr.out rfl, hz.out.other (by simp) _, hb.out.setCell (Nat.le_refl _) _⟩
set_option maxHeartbeats 2000000 in
theorem add_any {w : World} {b : Nat} {t : TypeId} {f : Nat → Bool} (h : Row w b t (bv f)) (m : Nat → Bool) :
    Calls Try.prog 26 #[.pointer (some ⟨b, 0, none⟩), .agg (rowV (bv m))] w fun e w' => e = .returned (.tuple #[]) ∧ Row w' b t (bv fun i => f i || m i) ∧ Beside b w w' := by
  have hlt := h.lt
  have HC := Lib.hid h
  clear h
  go_enter Try.func26, Try.ntmps26
  go_wp2_with fail
  have HN := Lib.hid (Row.new w 37 (bv m))
  have HB : Hid (Row (w.alloc (.cells (rowV (bv m)) 37)) b t (bv f) ∧ Beside b w (w.alloc (.cells (rowV (bv m)) 37))) := ⟨HC.out.alloc _, Beside.of ((Below.refl w.heap.size w).alloc (Nat.le_refl _) _)⟩
  generalize (w.alloc (.cells (rowV (bv m)) 37)) = w1 at HN HB ⊢
  have HL := Lib.hid hlt
  obtain ⟨d, hd⟩ : ∃ d, w.heap.size = d := ⟨_, rfl⟩
  rw [hd] at HN HL ⊢
  clear hlt HC
  have HD := Lib.hid hd
  clear hd
  go_loopg [5] 256 (fun g s5 wr => ∃ i : Nat, s5 = .int .i64 i ∧ i + g = 256 ∧ Hid (Row wr b t (bv fun j => if j < i then f j || m j else f j)) ∧ Hid (Row wr d 37 (bv m)) ∧ Hid (Beside b w wr))
  case atStart => exact ⟨0, rfl, rfl, HB.out.1.is fun j _ => bv_eq (by rw [if_neg (by omega)]), HN, HB.out.2⟩
  case round =>
    obtain ⟨i, rfl, hig, hr, hz, hb⟩ := hrel
    cases gk with
    | zero =>
      obtain rfl : i = 256 := by omega
      go_wp2_with fail
      go_end0
      exact ⟨rfl, hr.out.is fun j hj => bv_eq (by rw [if_pos hj]), hb.out⟩
    | succ g =>
      have hi3 : (i : Int) < 256 := by omega
      have hcell := hr.out.cell (i := i) (by omega)
      have hfree := hr.out.free i
      have hval : bv (fun j => if j < i then f j || m j else f j) i = .bool (f i) := bv_eq (f := _) (g := f) (by rw [if_neg (by omega)])
      rw [hval] at hcell
      have hcell2 : wr.cell? ⟨d, i, none⟩ = some (.bool (m i)) := hz.out.cell (i := i) (by omega)
      clear hval
      cases hf : f i with
      | true =>
        rw [hf] at hcell
        go_wp2_with fail
        go_region
        go_wp2_with fail
        go_roundg g
        case measure => omega
        case rel =>
          refine ⟨i + 1, by first | rfl | simp, by omega, row_step hr.out (by rw [hf]; rfl), (hz.out.other (a := ⟨b, i, none⟩) (by have := HL.out; simp only; omega) _), ?_⟩
          exact (hb.out.put i _).trans ⟨rfl, rfl, rfl, Nat.le_refl _, fun _ _ _ => rfl⟩
      | false =>
        rw [hf] at hcell
        go_wp2_with fail
        go_region
        go_wp2_with fail
        go_roundg g
        case measure => omega
        case rel =>
          refine ⟨i + 1, by first | rfl | simp, by omega, row_step hr.out (by rw [hf]; rfl), (hz.out.other (a := ⟨b, i, none⟩) (by have := HL.out; simp only; omega) _), ?_⟩
          exact (hb.out.put i _).trans ⟨rfl, rfl, rfl, Nat.le_refl _, fun _ _ _ => rfl⟩
set_option maxHeartbeats 2000000 in
theorem bitsOf_over (s : ByteArray) (w : World) (hs : ∀ w, Calls Try.prog 23 #[.string s] w fun e w' => e = .returned (.bool (good s.data.toList)) ∧ w' = w) :
    Calls Try.prog 25 #[.string s] w fun e w' => e = .returned (.agg (rowV (bv (has s.data.toList)))) ∧ Below w.heap.size w w' := by
  have hz := zero37
  have HS := Lib.hid hs
  clear hs
  go_enter Try.func25, Try.ntmps25
  go_wp2_with fail
  have hn1 : Row (w.alloc (.cells (rowV (bv fun _ => false)) 37)) w.heap.size 37 (bv fun _ => false) := Row.new _ _ _
  have hn2 := Row.new (w.alloc (.cells (rowV (bv fun _ => false)) 37)) 37 (bv fun _ => false)
  rw [World.size_alloc] at hn2
  have HN := Lib.hid (And.intro (hn1.alloc (.cells (rowV (bv fun _ => false)) 37)) hn2)
  have HB := Lib.hid ((Below.refl w.heap.size w).alloc (Nat.le_refl _) (.cells (rowV (bv fun _ => false)) 37) |>.alloc (by rw [World.size_alloc]; omega) (.cells (rowV (bv fun _ => false)) 37))
  clear hn1 hn2 hz
  generalize ((w.alloc (.cells (rowV (bv fun _ => false)) 37)).alloc (.cells (rowV (bv fun _ => false)) 37)) = w1 at HN HB ⊢
  refine (HS.out w1).mono ?_
  rintro e w' ⟨rfl, rfl⟩
  cases hg : good s.data.toList with
  | false =>
    have HG := Lib.hid hg
    clear hg
    go_wp2_with (first | (refine load_row rfl (.tmp 3) rfl rfl HN.out.2 ?_) | (refine store_row rfl (.tmp 2) (.tmp 8) rfl rfl rfl HN.out.1 ?_; intro wz hrz hbz; have HR := Lib.hid hrz; have HZ := Lib.hid hbz; clear hrz hbz))
    refine end_row rfl rfl (HR.out.is (k := bv (has s.data.toList)) fun j hj => bv_eq (has_bad HG.out j).symm) rfl ⟨rfl, ?_⟩
    exact HB.out.trans (HZ.out.below HB.out.size (Nat.le_refl _))
  | true =>
    have hsz : s.size = 256 := by rw [Lib.size_eq]; exact good_len hg
    have HG := Lib.hid hg
    clear hg
    have HSZ := Lib.hid hsz
    clear hsz
    go_wp2_with fail
    go_loopg [9] 256 (fun g s9 wr => ∃ i : Nat, s9 = .int .i64 i ∧ i + g = 256 ∧ Hid (Row wr (w.heap.size + 1) 37 (bv fun j => if j < i then has s.data.toList j else false)) ∧ Hid (Row wr w.heap.size 37 (bv fun _ => false)) ∧ Hid (Below w.heap.size w wr))
    case atStart => exact ⟨0, rfl, rfl, HN.out.2.is fun j _ => bv_eq (by rw [if_neg (by omega)]), HN.out.1, HB⟩
    case round =>
      obtain ⟨i, rfl, hig, hr, hz, hb⟩ := hrel
      cases gk with
      | zero =>
        obtain rfl : i = 256 := by omega
        go_wp2_with (first | (refine load_row rfl (.tmp 3) rfl rfl hr.out ?_) | (refine store_row rfl (.tmp 2) (.tmp 19) rfl rfl rfl hz.out ?_; intro wz hrz hbz; have HR := Lib.hid hrz; have HZ := Lib.hid hbz; clear hrz hbz))
        refine end_row rfl rfl (HR.out.is (k := bv (has s.data.toList)) fun j hj => bv_eq (by rw [if_pos hj])) rfl ⟨rfl, ?_⟩
        exact hb.out.trans (HZ.out.below hb.out.size (by omega))
      | succ g =>
        have hsz := HSZ.out
        have hi : i < s.size := by omega
        have hi3 : (i : Int) < 256 := by omega
        have hcell := hr.out.cell (i := i) (by omega)
        have hfree := hr.out.free i
        generalize hold : bv (fun j => if j < i then has s.data.toList j else false) i = old at hcell
        clear hold
        have hval : ((s[i].toNat : Int) == 49) = has s.data.toList i := by
          rw [has_good HG.out, Kit.byte_get s i hi]
          exact decide_eq_decide.2 ⟨fun h => UInt8.toNat_inj.1 (show s[i].toNat = 49 by omega), fun h => by rw [h]; rfl⟩
        have HV := Lib.hid hval
        clear hval
        go_wp2
        go_roundg g
        case measure => omega
        case rel =>
          refine ⟨i + 1, by first | rfl | simp, by omega, row_step hr.out ?_, hz.out.other (by simp) _, hb.out.setCell (by simp) _⟩
          exact HV.out
end Go.Proofs.Ytpcgocdepolgeaa.W13
