/-
  Layer 13 (class): the program's items and Parse. The conditions stand in the statements.
-/
import Derived.Test.YtpcgocdepolgeaaW13Item
namespace Go.Proofs.Ytpcgocdepolgeaa.W13
set_option maxRecDepth 100000
open Go Go.RowKit Go.Proofs.Ytpcgocdepolgeaa.M13 Go.Proofs.Ytpcgocdepolgeaa.Row256
open Go.Proofs.Ytpcgocdepolgeaa.Kit (ret_str ret_bool ret_int mk_of mk_bytes ba_ext below_draws on drop_bytes)

/-- a function ends whose first result is an array in a block of its own, with two more -/
theorem end_row3 {fn : Func} {R : Ending → World → Prop} {a : Act} {w : World} {p u v : Tmp} {b : Nat} {t : TypeId} {f : Nat → Value} (hf : fn.results = #[.cell p 37, .tmp u, .tmp v]) (hp : a.tmps.getD p undef = .pointer (some ⟨b, 0, none⟩)) (hr : Row w b t f) (hd : a.defers = [])
    (hR : R (.returned (.tuple #[.agg (rowV f), a.tmps.getD u undef, a.tmps.getD v undef])) w) : bodyPost Try.prog fn R .ret a w := by
  refine bodyPost_ret ?_ hd hR
  have hp' : a.tmps[p]?.getD undef = .pointer (some ⟨b, 0, none⟩) := by simpa using hp
  have hl := run_loadVar_row w b t 37 (rowV f) (0, 0) _ hr Try.underlying37 rfl (size_row f)
  simp [results, hf, hp', asAddr, Result.andThen, hl]
theorem item_le (s : List UInt8) : (item s).1 ≤ s.length := by
  have h1 := one_le s
  have h2 := one_le (s.drop ((one s).2.1 + 1))
  rw [List.length_drop] at h2
  unfold item
  split
  · exact Nat.zero_le _
  · split
    · split
      · exact Nat.zero_le _
      · exact h1
    · rename_i hn hnm
      cases hj : joined (s.drop (one s).2.1) with
      | false => rw [if_pos rfl]; exact h1
      | true =>
        have h3 := joined_long hj
        rw [if_neg (by simp)]
        split
        · exact Nat.zero_le _
        · split
          · exact Nat.zero_le _
          · split
            · exact Nat.zero_le _
            · simp only; omega
theorem item_pos {s : List UInt8} (h : (item s).2.1 = 0) : 0 < (item s).1 := by
  revert h
  unfold item
  split
  · simp
  · rename_i hn
    split
    · split
      · simp
      · simp only; omega
    · split
      · simp only; omega
      · split
        · simp
        · split
          · simp
          · split
            · simp
            · simp only; omega
def itemsV (r : (Nat → Bool) × Nat × Int) : Value := .tuple #[.agg (rowV (bv r.1)), .int .i64 r.2.1, .int .i64 r.2.2]
set_option maxHeartbeats 4000000 in
theorem items_any (s : ByteArray) (hs : s.size ≤ 4611686018427387904) (w : World) :
    Calls Try.prog 35 #[.string s] w fun e w' => e = .returned (itemsV (items s.data.toList (s.size + 1) 0 (fun _ => false))) ∧ Below w.heap.size w w' := by
  have hz := zero37
  obtain ⟨R, hR⟩ : ∃ R, items s.data.toList (s.size + 1) 0 (fun _ => false) = R := ⟨_, rfl⟩
  rw [hR]
  have HRR := Lib.hid hR
  have HS := Lib.hid hs
  clear hR hs
  go_enter Try.func35, Try.ntmps35
  go_wp2_with fail
  have HN := Lib.hid (new_rows w)
  generalize ((w.alloc (.cells (rowV (bv fun _ => false)) 37)).alloc (.cells (rowV (bv fun _ => false)) 37)) = w1 at HN ⊢
  go_loopg [6] s.size (fun g s6 wr => ∃ (i : Nat) (F : Nat → Bool), s6 = .int .i64 i ∧ i ≤ s.size ∧ s.size ≤ i + g ∧ Hid (items s.data.toList (g + 1) i F = R) ∧ Hid (Row wr (w.heap.size + 1) 37 (bv F)) ∧ Hid (Row wr w.heap.size 37 (bv fun _ => false)) ∧ Hid (Below w.heap.size w wr))
  case atStart => exact ⟨0, fun _ => false, rfl, Nat.zero_le _, by omega, HRR, HN.out.2.1, HN.out.1, HN.out.2.2⟩
  case round =>
    obtain ⟨i, F, rfl, hi, hig, hit, hr, hq, hb⟩ := hrel
    by_cases hlt : i < s.size
    · have hl2 : (i : Int) < (s.size : Int) := by omega
      have hS := HS.out
      have hlen : ¬ s.data.toList.length ≤ i := by rw [← Lib.size_eq]; omega
      have hget : s.data.toList.getD i 0 = s[i] := Kit.byte_get s i hlt
      by_cases hend : s[i] = 93 ∧ 0 < i
      · have HV : Hid (R = (F, i + 1, 0)) := by
          unfold Hid
          rw [← hit.out]
          unfold items
          rw [if_neg hlen, hget, if_pos hend]
        have t1 : ((s[i].toNat : Int) == 93) = true := by rw [hend.1]; rfl
        have t2 : (0 : Int) < (i : Int) := by omega
        have hw : wrap64 ((i : Int) + 1) = ((i + 1 : Nat) : Int) := by unfold wrap64; omega
        have HW := Lib.hid hw
        clear hend hlen hget hw
        go_wp2_with (first | (refine load_row rfl (.tmp 5) rfl rfl hr.out ?_) | (refine store_row rfl (.tmp 2) (.tmp 21) rfl rfl rfl hq.out ?_; intro wz hrz hbz; have HRZ := Lib.hid hrz; have HBZ := Lib.hid hbz; clear hrz hbz))
        refine end_row3 rfl rfl HRZ.out rfl ⟨?_, hb.out.trans (HBZ.out.below hb.out.size (Nat.le_refl _))⟩
        rw [HV.out]; rfl
      · have hnle := item_le (s.data.toList.drop i)
        rw [List.length_drop, ← Lib.size_eq] at hnle
        have hpos := @item_pos (s.data.toList.drop i)
        have hdl := drop_bytes s i
        obtain ⟨⟨n, er, G⟩, hitem⟩ : ∃ r, item (s.data.toList.drop i) = r := ⟨_, rfl⟩
        rw [hitem] at hnle hpos
        simp only at hnle hpos
        have HI := Lib.hid hitem
        have HD := Lib.hid hdl
        have HP := Lib.hid hpos
        have HNLE := Lib.hid hnle
        have HL := Lib.hid hlen
        have HG := Lib.hid hget
        clear hitem hdl hpos hnle
        by_cases h93 : s[i] = 93
        · have hi0 : ¬ (0 : Int) < (i : Int) := fun h => hend ⟨h93, by omega⟩
          have t1 : ((s[i].toNat : Int) == 93) = true := by rw [h93]; rfl
          clear h93
          have HE := Lib.hid hend
          clear hend hlen hget
          go_wp2_with fail
          refine (item_any hr.out _).mono ?_
          rintro e w2 ⟨rfl, hr2, hb2⟩
          rw [HD.out, HI.out]
          have HR := Lib.hid (by rw [HD.out, HI.out] at hr2; exact hr2)
          have HQ := Lib.hid (hq.out.beside hb2 (by omega))
          have HB := Lib.hid (hb.out.trans (hb2.below hb.out.size (by omega)))
          clear hr2 hb2
          simp only [] at HR ⊢
          by_cases he : er = 0
          · have te : (er != 0) = false := by rw [he]; rfl
            have HNX : Hid (items s.data.toList gk (i + n) (fun k => F k || G k) = R) := by
              unfold Hid
              rw [← hit.out]
              conv => rhs; unfold items
              rw [if_neg HL.out, HG.out, if_neg HE.out, HI.out, if_neg (by simp [he])]
            have hn1 : 0 < n := by have := HP.out he; omega
            have hnle := HNLE.out
            clear he
            cases gk with
            | zero => omega
            | succ g =>
              go_wp2_with fail
              go_roundg g
              case measure => omega
              case rel => exact ⟨i + n, fun k => F k || G k, by first | rfl | simp, by omega, by omega, HNX, HR.out, HQ.out, HB.out⟩
          · have te : (er != 0) = true := by simpa using he
            have HNX : Hid (R = (fun _ => false, 0, er)) := by
              unfold Hid
              rw [← hit.out]
              unfold items
              rw [if_neg HL.out, HG.out, if_neg HE.out, HI.out, if_pos he]
            clear he
            go_wp2_with (first | (refine store_row rfl (.tmp 2) (.tmp 33) rfl rfl rfl HQ.out ?_; intro wz hrz hbz; have HRZ := Lib.hid hrz; have HBZ := Lib.hid hbz; clear hrz hbz))
            refine end_row3 rfl rfl HRZ.out rfl ⟨?_, HB.out.trans (HBZ.out.below HB.out.size (Nat.le_refl _))⟩
            rw [HNX.out]; rfl
        · have t1 : ((s[i].toNat : Int) == 93) = false := by
            rw [show (93 : Int) = ((93 : UInt8).toNat : Int) from rfl, Kit.byte_test, decide_eq_false h93]
          clear h93
          have HE := Lib.hid hend
          clear hend hlen hget
          go_wp2_with fail
          refine (item_any hr.out _).mono ?_
          rintro e w2 ⟨rfl, hr2, hb2⟩
          rw [HD.out, HI.out]
          have HR := Lib.hid (by rw [HD.out, HI.out] at hr2; exact hr2)
          have HQ := Lib.hid (hq.out.beside hb2 (by omega))
          have HB := Lib.hid (hb.out.trans (hb2.below hb.out.size (by omega)))
          clear hr2 hb2
          simp only [] at HR ⊢
          by_cases he : er = 0
          · have te : (er != 0) = false := by rw [he]; rfl
            have HNX : Hid (items s.data.toList gk (i + n) (fun k => F k || G k) = R) := by
              unfold Hid
              rw [← hit.out]
              conv => rhs; unfold items
              rw [if_neg HL.out, HG.out, if_neg HE.out, HI.out, if_neg (by simp [he])]
            have hn1 : 0 < n := by have := HP.out he; omega
            have hnle := HNLE.out
            clear he
            cases gk with
            | zero => omega
            | succ g =>
              go_wp2_with fail
              go_roundg g
              case measure => omega
              case rel => exact ⟨i + n, fun k => F k || G k, by first | rfl | simp, by omega, by omega, HNX, HR.out, HQ.out, HB.out⟩
          · have te : (er != 0) = true := by simpa using he
            have HNX : Hid (R = (fun _ => false, 0, er)) := by
              unfold Hid
              rw [← hit.out]
              unfold items
              rw [if_neg HL.out, HG.out, if_neg HE.out, HI.out, if_pos he]
            clear he
            go_wp2_with (first | (refine store_row rfl (.tmp 2) (.tmp 33) rfl rfl rfl HQ.out ?_; intro wz hrz hbz; have HRZ := Lib.hid hrz; have HBZ := Lib.hid hbz; clear hrz hbz))
            refine end_row3 rfl rfl HRZ.out rfl ⟨?_, HB.out.trans (HBZ.out.below HB.out.size (Nat.le_refl _))⟩
            rw [HNX.out]; rfl
    · have hl2 : ¬ ((i : Int) < (s.size : Int)) := by omega
      have HV : Hid (R = (fun _ => false, 0, 3)) := by
        unfold Hid
        rw [← hit.out]
        unfold items
        rw [if_pos (by rw [← Lib.size_eq]; omega)]
      clear hlt hi hig
      go_wp2_with (first | (refine store_row rfl (.tmp 2) (.tmp 38) rfl rfl rfl hq.out ?_; intro wz hrz hbz; have HRZ := Lib.hid hrz; have HBZ := Lib.hid hbz; clear hrz hbz))
      refine end_row3 rfl rfl HRZ.out rfl ⟨?_, hb.out.trans (HBZ.out.below hb.out.size (Nat.le_refl _))⟩
      rw [HV.out]; rfl
end Go.Proofs.Ytpcgocdepolgeaa.W13
