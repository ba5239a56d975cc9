/-
  Texts joined, in build order, each with its own comment and its own conditions: W09Cuts.
-/
import Derived.Test.YtolhniepejhmfaaGreatDoorJ18
/-
  Layer 9 (posix), walks of the landed code: the place of a path's last part (spot), and what is asked of the node there ahead of Cut. New memory may be laid, nothing that was there is changed. The conditions stand in the statements.
-/
namespace Go.Proofs.YtolhniepejhmfaaGreatDoor.W09
set_option maxRecDepth 100000
open Go Go.RowKit Go.Proofs.YtolhniepejhmfaaGreatDoor.Strs Go.Proofs.YtolhniepejhmfaaGreatDoor.Recs Go.Proofs.YtolhniepejhmfaaGreatDoor.Range
open Go.Proofs.YtolhniepejhmfaaGreatDoor.M07 (Tr Nd nodeAt inDir Right listDir)
open Go.Proofs.YtolhniepejhmfaaGreatDoor.M08 Go.Proofs.YtolhniepejhmfaaGreatDoor.M09
open Go.Proofs.YtolhniepejhmfaaGreatDoor.W07 (Small Trees Wrote listed heap_top)
open Go.Proofs.YtolhniepejhmfaaGreatDoor.W08 (Seeks)
open Go.Proofs.YtolhniepejhmfaaGreatDoor.Kit (ret_str ret_bool ret_int mk_of mk_bytes ba_ext below_draws on)

/-- a box of a place -/
def PlaceBox (w : World) (p : Nat) (d : Int) (s : ByteArray) (n : Int) : Prop := w.heap[p]? = some (.cells #[.int .i64 d, .string s, .int .i64 n] 143 (0, 0))
section
variable {w w' : World} {p : Nat} {d n : Int} {s : ByteArray}
theorem PlaceBox.lt (h : PlaceBox w p d s n) : p < w.heap.size := (Array.getElem?_eq_some_iff.1 h).1
theorem PlaceBox.below (h : PlaceBox w p d s n) (hb : Below w.heap.size w w') : PlaceBox w' p d s n := (hb.block _ h.lt).trans h
theorem PlaceBox.c0 (h : PlaceBox w p d s n) : w.cell? ⟨p, 0, none⟩ = some (.int .i64 d) := cell_of_row w _ 0 _ _ (0, 0) h
theorem PlaceBox.c1 (h : PlaceBox w p d s n) : w.cell? ⟨p, 1, none⟩ = some (.string s) := cell_of_row w _ 1 _ _ (0, 0) h
theorem PlaceBox.c2 (h : PlaceBox w p d s n) : w.cell? ⟨p, 2, none⟩ = some (.int .i64 n) := cell_of_row w _ 2 _ _ (0, 0) h
theorem PlaceBox.fr (h : PlaceBox w p d s n) (j : Nat) : w.frozen? ⟨p, j, none⟩ = false := frozen_of_row w _ j _ _ h
end
theorem build_place (d : Int) (s : ByteArray) (n : Int) (w : World) : (Instr.build 143 #[(0, .int .i64 d), (1, .string s), (2, .int .i64 n)]).run Tryz.prog w = .ok (.agg #[.int .i64 d, .string s, .int .i64 n]) w := by kernel_rfl
theorem build_noplace (w : World) : (Instr.build 143 #[]).run Tryz.prog w = .ok (.agg #[.int .i64 0, .string ⟨#[]⟩, .int .i64 0]) w := by kernel_rfl
def Place (d : Int) (s : ByteArray) (n f : Int) (w : World) (e : Ending) (w' : World) : Prop := e = .returned (.tuple #[.agg #[.int .i64 d, .string s, .int .i64 n], .int .i64 f]) ∧ Below w.heap.size w w'
theorem spot_no {Rep : (Nat → Prop) → World → Value → Tr → Prop} (C : Trees Rep) (S : Seeks Rep) {F : Nat → Prop} {w : World} {v : Value} {t : Tr} (P : Rep F w v t) (G : Good t) (p : ByteArray) (hp : p.size ≤ 1048576) {d : Int} {s : Bytes} {f : Int} (h : M08.spot t p.data.toList = (d, s, f)) (hf : f ≠ 0) :
    Calls Tryz.prog 97 #[v, .string p] w (Place 0 ⟨#[]⟩ 0 f w) := by
  obtain ⟨w1, hw1⟩ : ∃ w1 : World, w.alloc (.cells #[.int .i64 0, .string ⟨#[]⟩, .int .i64 0] 143) = w1 := ⟨_, rfl⟩
  have B1 : Hid (Below w.heap.size w w1) := by show Below _ _ _; rw [← hw1]; exact W07.below_one _ _
  have PB : Hid (PlaceBox w1 w.heap.size 0 ⟨#[]⟩ 0) := by show PlaceBox _ _ _ _ _; rw [← hw1]; exact heap_top _ _
  have HA := Lib.hid (S.spot (C.below P B1.out) G p hp)
  rw [h] at HA
  have tf : (f != 0) = true := by simpa using hf
  have hbn := build_noplace
  clear P G hp h hf
  unfold Place
  go_enter Tryz.func97, Tryz.ntmps97
  go_wp2_with fail
  clear hw1
  refine HA.out.mono ?_
  rintro e w2 ⟨rfl, hb2⟩
  have PB2 := PB.out.below hb2
  have B2 := Lib.hid (on B1.out hb2)
  have s0 := PB2.c0
  have s1 := PB2.c1
  have s2 := PB2.c2
  have f0 := PB2.fr 0
  have f1 := PB2.fr 1
  have f2 := PB2.fr 2
  clear hb2 PB PB2 HA
  go_wp2_with fail
  refine bodyPost_ret_by (v := .tuple #[.agg #[.int .i64 0, .string ⟨#[]⟩, .int .i64 0], .int .i64 f]) ?_ rfl ?_
  · rw [results_cell_tmp rfl]
    go_simp
  · exact ⟨rfl, stored3 _ _ _ B2.out (Nat.le_refl _)⟩
theorem spot_at {Rep : (Nat → Prop) → World → Value → Tr → Prop} (C : Trees Rep) (S : Seeks Rep) {F : Nat → Prop} {w : World} {v : Value} {t : Tr} (P : Rep F w v t) (G : Good t) (p : ByteArray) (hp : p.size ≤ 1048576) {d : Int} {s : ByteArray} (h : M08.spot t p.data.toList = (d, s.data.toList, 0)) :
    Calls Tryz.prog 97 #[v, .string p] w (Place d s (inDir t.L d s.data.toList) 0 w) := by
  obtain ⟨w1, hw1⟩ : ∃ w1 : World, w.alloc (.cells #[.int .i64 0, .string ⟨#[]⟩, .int .i64 0] 143) = w1 := ⟨_, rfl⟩
  have B1 : Hid (Below w.heap.size w w1) := by show Below _ _ _; rw [← hw1]; exact W07.below_one _ _
  have PB : Hid (PlaceBox w1 w.heap.size 0 ⟨#[]⟩ 0) := by show PlaceBox _ _ _ _ _; rw [← hw1]; exact heap_top _ _
  have HA := Lib.hid (S.spot (C.below P B1.out) G p hp)
  rw [h] at HA
  simp only [mk_bytes] at HA
  have HL := Lib.hid (fun w' (h : Below w.heap.size w w') => C.list (C.below P h) G.small d)
  have HF := Lib.hid (fun u w' (hu : Recs W06.entC 2 w'.heap.size w' u (W07.listed t d)) => W08.near_any (C.right P) G.small d s (u := u) (w := w') hu)
  have hbp := build_place
  clear P G hp h
  generalize inDir t.L d s.data.toList = n at *
  unfold Place
  go_enter Tryz.func97, Tryz.ntmps97
  go_wp2_with fail
  clear hw1
  refine HA.out.mono ?_
  rintro e w2 ⟨rfl, hb2⟩
  have PB2 := Lib.hid (PB.out.below hb2)
  have B2 := Lib.hid (on B1.out hb2)
  clear hb2 PB HA
  go_wp2_with fail
  refine (HL.out w2 B2.out).mono ?_
  rintro e w3 ⟨u, rfl, hu, hb3⟩
  have PB3 := Lib.hid (PB2.out.below hb3)
  have B3 := Lib.hid (on B2.out hb3)
  clear hb3 PB2 HL
  go_wp2_with fail
  refine (HF.out u w3 hu).mono ?_
  rintro e w4 ⟨rfl, hb4⟩
  have PB4 := PB3.out.below hb4
  have B4 := Lib.hid (on B3.out hb4)
  have s0 := PB4.c0
  have s1 := PB4.c1
  have s2 := PB4.c2
  have f0 := PB4.fr 0
  have f1 := PB4.fr 1
  have f2 := PB4.fr 2
  clear hb4 PB3 PB4 HF hu
  go_wp2_with fail
  refine bodyPost_ret_by (v := .tuple #[.agg #[.int .i64 d, .string s, .int .i64 n], .int .i64 0]) ?_ rfl ?_
  · rw [results_cell_tmp rfl]
    go_simp
  · exact ⟨rfl, stored3 _ _ _ B4.out (Nat.le_refl _)⟩
/-- what Write comes to where nothing is found -/
def created (t : Tr) (p x : Bytes) : Tr × Int :=
  if (M08.spot t p).2.2 ≠ 0 then (t, (M08.spot t p).2.2) else if 0 < inDir t.L (M08.spot t p).1 (M08.spot t p).2.1 then (t, 5) else putAt t p 2 x
set_option maxHeartbeats 2000000 in
theorem create_over {Rep : (Nat → Prop) → World → Value → Tr → Prop} (C : Trees Rep) (S : Seeks Rep) {F : Nat → Prop} {w : World} {v : Value} {t : Tr} (P : Rep F w v t) (G : Good t) (p x : ByteArray) (hp : p.size ≤ 1048576) (hx : x.size ≤ 1048576) :
    Calls Tryz.prog 87 #[v, .string p, .string x] w fun e w' => e = .returned (.int .i64 (created t p.data.toList x.data.toList).2) ∧ Wrote Rep F v (created t p.data.toList x.data.toList).1 w w' := by
  have HX : Hid (created t p.data.toList x.data.toList = if (spot t p.data.toList).2.2 ≠ 0 then (t, (spot t p.data.toList).2.2) else if 0 < inDir t.L (spot t p.data.toList).1 (spot t p.data.toList).2.1 then (t, 5) else putAt t p.data.toList 2 x.data.toList) := rfl
  have HY : Hid (putAt t p.data.toList 2 x.data.toList = if (spot t p.data.toList).2.2 ≠ 0 then (t, (spot t p.data.toList).2.2) else ((M07.put t (spot t p.data.toList).1 (spot t p.data.toList).2.1 2 x.data.toList).1, (M07.put t (spot t p.data.toList).1 (spot t p.data.toList).2.1 2 x.data.toList).2.2)) := rfl
  have HNO := Lib.hid (fun d s f (h : M08.spot t p.data.toList = (d, s, f)) hf => spot_no C S P G p hp h hf)
  have HAT := Lib.hid (fun d s (h : M08.spot t p.data.toList = (d, s.data.toList, 0)) => spot_at C S P G p hp (s := s) h)
  have HM := Lib.hid (fun w' (h : Below w.heap.size w w') => C.put (C.below P h) G.small)
  have HN := Lib.hid (fun w' (h : Below w.heap.size w w') => wrote_none C P h)
  have HP : ∀ d s, 0 ≤ inDir t.L d s := fun d s => M07.in_pos fun a ha => ((C.right P).ends a ha).1
  clear P G hp
  generalize created t p.data.toList x.data.toList = R at *
  generalize putAt t p.data.toList 2 x.data.toList = R2 at *
  generalize spot t p.data.toList = X at *
  obtain ⟨d, s, f⟩ := X
  obtain ⟨sb, rfl⟩ := text_of s
  dsimp only at HX HY
  unfold Place at HNO HAT
  by_cases h1 : f = 0
  · subst h1
    replace HX := Lib.hid (HX.out.trans (if_neg (by simp)))
    replace HY := Lib.hid (HY.out.trans (if_neg (by simp)))
    replace HM := Lib.hid (fun w' h => HM.out w' h d sb 2 x (by unfold maxLen; omega))
    have HS := Lib.hid (HAT.out d sb rfl)
    have HP := HP d sb.data.toList
    generalize inDir t.L d sb.data.toList = n at *
    generalize M07.put t d sb.data.toList 2 x.data.toList = Q at *
    clear HAT HNO
    by_cases h3 : n = 0
    · have tn : (n != 0) = false := by simp [h3]
      replace HX := Lib.hid ((HX.out.trans (if_neg (by omega))).trans HY.out)
      clear HP h3 HY
      go_enter Tryz.func87, Tryz.ntmps87
      go_wp2_with fail
      refine HS.out.mono ?_
      rintro e w1 ⟨rfl, hb1⟩
      obtain ⟨w2, hw2⟩ : ∃ w' : World, w1.alloc (.cells #[.int .i64 d, .string sb, .int .i64 n] 143) = w' := ⟨_, rfl⟩
      have hb2 : Below w1.heap.size w1 w2 := by rw [← hw2]; exact (Below.refl _ _).alloc (Nat.le_refl _) _
      have PB := Lib.hid (show PlaceBox w2 w1.heap.size d sb n by rw [← hw2]; exact heap_top _ _)
      have B2 := Lib.hid (on hb1 hb2)
      clear hb2
      have s0 := PB.out.c0
      have s1 := PB.out.c1
      have s2 := PB.out.c2
      go_wp2_with fail
      clear hw2
      clear s0 s1 s2
      refine (HM.out w2 B2.out).mono ?_
      rintro e w9 ⟨rfl, hwr⟩
      have W9 := Lib.hid (wrote_after B2.out hwr)
      clear hwr
      go_wp2_with fail
      go_ret
      rw [HX.out]
      exact ⟨rfl, W9.out⟩
    · have tn : (n != 0) = true := by simpa using h3
      replace HX := Lib.hid (HX.out.trans (if_pos (by omega)))
      clear HP h3 HY HM
      go_enter Tryz.func87, Tryz.ntmps87
      go_wp2_with fail
      refine HS.out.mono ?_
      rintro e w1 ⟨rfl, hb1⟩
      obtain ⟨w2, hw2⟩ : ∃ w' : World, w1.alloc (.cells #[.int .i64 d, .string sb, .int .i64 n] 143) = w' := ⟨_, rfl⟩
      have hb2 : Below w1.heap.size w1 w2 := by rw [← hw2]; exact (Below.refl _ _).alloc (Nat.le_refl _) _
      have PB := Lib.hid (show PlaceBox w2 w1.heap.size d sb n by rw [← hw2]; exact heap_top _ _)
      have B2 := Lib.hid (on hb1 hb2)
      clear hb2
      have s0 := PB.out.c0
      have s1 := PB.out.c1
      have s2 := PB.out.c2
      go_wp2_with fail
      go_ret
      rw [HX.out]
      exact ⟨rfl, HN.out w2 B2.out⟩
  · have tf : (f != 0) = true := by simpa using h1
    have HS := Lib.hid (HNO.out d sb.data.toList f rfl h1)
    replace HX := Lib.hid (HX.out.trans (if_pos h1))
    clear HAT HNO HM HY HP h1
    go_enter Tryz.func87, Tryz.ntmps87
    go_wp2_with fail
    refine HS.out.mono ?_
    rintro e w1 ⟨rfl, hb1⟩
    go_wp2_with fail
    go_ret
    rw [HX.out]
    exact ⟨rfl, HN.out _ (hb1.alloc hb1.size _)⟩
set_option maxHeartbeats 2000000 in
theorem write_over {Rep : (Nat → Prop) → World → Value → Tr → Prop} (C : Trees Rep) (S : Seeks Rep) {F : Nat → Prop} {w : World} {v : Value} {t : Tr} (P : Rep F w v t) (G : Good t) (p x : ByteArray) (hp : p.size ≤ 1048576) (hx : x.size ≤ 1048576) :
    Calls Tryz.prog 66 #[v, .string p, .string x] w fun e w' => e = .returned (.int .i64 (M09.write t p.data.toList x.data.toList).2) ∧ Wrote Rep F v (M09.write t p.data.toList x.data.toList).1 w w' := by
  have HA := Lib.hid (S.find P G p true hp)
  have HX : Hid (M09.write t p.data.toList x.data.toList = if (M08.find t p.data.toList true).2 = 0 then M07.set t (M08.find t p.data.toList true).1 x.data.toList else if (M08.find t p.data.toList true).2 ≠ 5 then (t, (M08.find t p.data.toList true).2) else created t p.data.toList x.data.toList) := rfl
  have HT := Lib.hid (fun w' (h : Below w.heap.size w w') => C.set (C.below P h) G.small)
  have HC := Lib.hid (fun w' (h : Below w.heap.size w w') => create_over C S (C.below P h) G p x hp hx)
  have HN := Lib.hid (fun w' (h : Below w.heap.size w w') => wrote_none C P h)
  clear P G hp
  generalize M09.write t p.data.toList x.data.toList = R at *
  generalize created t p.data.toList x.data.toList = R2 at *
  generalize M08.find t p.data.toList true = Y at *
  obtain ⟨n1, f1⟩ := Y
  dsimp only at HA HX
  by_cases h1 : f1 = 0
  · subst h1
    replace HX := Lib.hid (HX.out.trans (if_pos rfl))
    replace HT := Lib.hid (fun w' h => HT.out w' h n1 x (by unfold maxLen; omega))
    generalize M07.set t n1 x.data.toList = Q at *
    clear HC
    go_enter Tryz.func66, Tryz.ntmps66
    go_wp2_with fail
    refine HA.out.mono ?_
    rintro e w1 ⟨rfl, hb1⟩
    go_wp2_with fail
    refine (HT.out w1 hb1).mono ?_
    rintro e w9 ⟨rfl, hwr⟩
    have W9 := Lib.hid (wrote_after hb1 hwr)
    clear hwr
    go_wp2_with fail
    go_ret
    rw [HX.out]
    exact ⟨rfl, W9.out⟩
  · have t1 : (f1 == 0) = false := by simpa using h1
    replace HX := Lib.hid (HX.out.trans (if_neg h1))
    clear h1 HT
    by_cases h5 : f1 = 5
    · have t5 : (f1 == 5) = true := by simp [h5]
      replace HX := Lib.hid (HX.out.trans (if_neg (fun e => e h5)))
      clear h5
      go_enter Tryz.func66, Tryz.ntmps66
      go_wp2_with fail
      refine HA.out.mono ?_
      rintro e w1 ⟨rfl, hb1⟩
      go_wp2_with fail
      refine (HC.out w1 hb1).mono ?_
      rintro e w9 ⟨rfl, hwr⟩
      have W9 := Lib.hid (wrote_after hb1 hwr)
      clear hwr
      go_wp2_with fail
      go_ret
      rw [HX.out]
      exact ⟨rfl, W9.out⟩
    · have t5 : (f1 == 5) = false := by simpa using h5
      replace HX := Lib.hid (HX.out.trans (if_pos h5))
      clear h5 HC
      go_enter Tryz.func66, Tryz.ntmps66
      go_wp2_with fail
      refine HA.out.mono ?_
      rintro e w1 ⟨rfl, hb1⟩
      go_wp2_with fail
      go_ret
      rw [HX.out]
      exact ⟨rfl, HN.out w1 hb1⟩
theorem rmdir1_any {Rep : (Nat → Prop) → World → Value → Tr → Prop} (C : Trees Rep) {F : Nat → Prop} {w : World} {a : Option Addr} {t : Tr} (P : Rep F w (.pointer a) t) (hs : Small t) {b : Nat} (hb : Caught w b (.pointer a)) (n : Int) :
    Says 81 n b w (Num (if (nodeAt t.L n).kind ≠ 1 then 7 else 0)) := by
  have HK := Lib.hid (C.kind P hs n)
  have c0 := hb.1
  clear P hb
  unfold Says Num
  generalize nodeAt t.L n = x at *
  by_cases hk : x.kind ≠ 1
  · have tk : (x.kind != 1) = true := by simp [hk]
    rw [if_pos hk]
    clear hk
    go_enter Tryz.func81, Tryz.ntmps81
    go_wp2_with fail
    refine HK.out.mono ?_
    rintro e w1 ⟨rfl, hb1⟩
    go_wp2_with fail
    go_ret
    exact ⟨rfl, hb1⟩
  · have tk : (x.kind != 1) = false := by simpa using hk
    rw [if_neg hk]
    clear hk
    go_enter Tryz.func81, Tryz.ntmps81
    go_wp2_with fail
    refine HK.out.mono ?_
    rintro e w1 ⟨rfl, hb1⟩
    go_wp2_with fail
    go_ret
    exact ⟨rfl, hb1⟩
set_option maxHeartbeats 2000000 in
theorem rmdir_cut {Rep : (Nat → Prop) → World → Value → Tr → Prop} (C : Trees Rep) (S : Seeks Rep) {F : Nat → Prop} {w : World} {a : Option Addr} {t : Tr} (P : Rep F w (.pointer a) t) (G : Good t) (p : ByteArray) (hp : p.size ≤ 1048576) {b : Nat} (hb : Caught w b (.pointer a)) :
    Calls Tryz.prog 80 #[.pointer a, .string p, .func (.func 81) #[] #[.pointer (some ⟨b, 0, none⟩)]] w fun e w' => e = .returned (.int .i64 (cutAt t p.data.toList true).2) ∧ Wrote Rep F (.pointer a) (cutAt t p.data.toList true).1 w w' := by
  have HX : Hid (cutAt t p.data.toList true = if (spot t p.data.toList).2.2 ≠ 0 then (t, (spot t p.data.toList).2.2) else if inDir t.L (spot t p.data.toList).1 (spot t p.data.toList).2.1 = 0 then (t, 5) else if (nodeAt t.L (inDir t.L (spot t p.data.toList).1 (spot t p.data.toList).2.1)).kind ≠ 1 then (t, 7) else M07.cut t (spot t p.data.toList).1 (spot t p.data.toList).2.1) := by
    have hck := cut_kind (C.right P) (spot t p.data.toList).1 (spot t p.data.toList).2.1
    show _ = _
    unfold cutAt cutKind
    by_cases e1 : inDir t.L (spot t p.data.toList).1 (spot t p.data.toList).2.1 = 0
    · rw [if_pos (hck.2 e1), if_pos e1]
    · rw [if_neg (fun e => e1 (hck.1 e)), if_neg e1]
      simp
  have HNO := Lib.hid (fun d s f (h : M08.spot t p.data.toList = (d, s, f)) hf => spot_no C S P G p hp h hf)
  have HAT := Lib.hid (fun d s (h : M08.spot t p.data.toList = (d, s.data.toList, 0)) => spot_at C S P G p hp (s := s) h)
  have HM := Lib.hid (fun w' (h : Below w.heap.size w w') => C.cut (C.below P h) G.small)
  have HQ := Lib.hid (fun w' (h : Below w.heap.size w w') n => rmdir1_any C (C.below P h) G.small (hb.below h) n)
  have HN := Lib.hid (fun w' (h : Below w.heap.size w w') => wrote_none C P h)
  clear P G hp hb
  generalize cutAt t p.data.toList true = R at *
  generalize spot t p.data.toList = X at *
  obtain ⟨d, s, f⟩ := X
  obtain ⟨sb, rfl⟩ := text_of s
  dsimp only at HX
  unfold Place at HNO HAT
  unfold Says Num at HQ
  by_cases h1 : f = 0
  · subst h1
    replace HX := Lib.hid (HX.out.trans (if_neg (by simp)))
    replace HM := Lib.hid (fun w' h => HM.out w' h d sb)
    have HS := Lib.hid (HAT.out d sb rfl)
    generalize inDir t.L d sb.data.toList = n at *
    replace HQ := Lib.hid (fun w' h => HQ.out w' h n)
    generalize (nodeAt t.L n).kind = kd at *
    generalize M07.cut t d sb.data.toList = Q at *
    clear HAT HNO
    by_cases h3 : n = 0
    · have tn : (n == 0) = true := by simp [h3]
      replace HX := Lib.hid (HX.out.trans (if_pos h3))
      clear h3 HM HQ
      go_enter Tryz.func80, Tryz.ntmps80
      go_wp2_with fail
      refine HS.out.mono ?_
      rintro e w1 ⟨rfl, hb1⟩
      obtain ⟨w2, hw2⟩ : ∃ w' : World, w1.alloc (.cells #[.int .i64 d, .string sb, .int .i64 n] 143) = w' := ⟨_, rfl⟩
      have hb2 : Below w1.heap.size w1 w2 := by rw [← hw2]; exact (Below.refl _ _).alloc (Nat.le_refl _) _
      have PB := Lib.hid (show PlaceBox w2 w1.heap.size d sb n by rw [← hw2]; exact heap_top _ _)
      have B2 := Lib.hid (on hb1 hb2)
      clear hb2
      have s0 := PB.out.c0
      have s1 := PB.out.c1
      have s2 := PB.out.c2
      go_wp2_with fail
      go_ret
      rw [HX.out]
      exact ⟨rfl, HN.out w2 B2.out⟩
    · have tn : (n == 0) = false := by simpa using h3
      replace HX := Lib.hid (HX.out.trans (if_neg h3))
      clear h3
      by_cases h4 : kd ≠ 1
      · replace HX := Lib.hid (HX.out.trans (if_pos h4))
        simp only [if_pos h4] at HQ
        clear h4 HM
        go_enter Tryz.func80, Tryz.ntmps80
        go_wp2_with fail
        refine HS.out.mono ?_
        rintro e w1 ⟨rfl, hb1⟩
        obtain ⟨w2, hw2⟩ : ∃ w' : World, w1.alloc (.cells #[.int .i64 d, .string sb, .int .i64 n] 143) = w' := ⟨_, rfl⟩
        have hb2 : Below w1.heap.size w1 w2 := by rw [← hw2]; exact (Below.refl _ _).alloc (Nat.le_refl _) _
        have PB := Lib.hid (show PlaceBox w2 w1.heap.size d sb n by rw [← hw2]; exact heap_top _ _)
        have B2 := Lib.hid (on hb1 hb2)
        clear hb2
        have s0 := PB.out.c0
        have s1 := PB.out.c1
        have s2 := PB.out.c2
        go_wp2_with fail
        clear hw2
        refine (HQ.out w2 B2.out).mono ?_
        rintro e w3 ⟨rfl, hb3⟩
        go_wp2_with fail
        go_ret
        rw [HX.out]
        exact ⟨rfl, HN.out w3 (on B2.out hb3)⟩
      · replace HX := Lib.hid (HX.out.trans (if_neg h4))
        simp only [if_neg h4] at HQ
        clear h4
        go_enter Tryz.func80, Tryz.ntmps80
        go_wp2_with fail
        refine HS.out.mono ?_
        rintro e w1 ⟨rfl, hb1⟩
        obtain ⟨w2, hw2⟩ : ∃ w' : World, w1.alloc (.cells #[.int .i64 d, .string sb, .int .i64 n] 143) = w' := ⟨_, rfl⟩
        have hb2 : Below w1.heap.size w1 w2 := by rw [← hw2]; exact (Below.refl _ _).alloc (Nat.le_refl _) _
        have PB := Lib.hid (show PlaceBox w2 w1.heap.size d sb n by rw [← hw2]; exact heap_top _ _)
        have B2 := Lib.hid (on hb1 hb2)
        clear hb2
        have s0 := PB.out.c0
        have s1 := PB.out.c1
        have s2 := PB.out.c2
        go_wp2_with fail
        clear hw2
        clear s0 s1 s2
        refine (HQ.out w2 B2.out).mono ?_
        rintro e w3 ⟨rfl, hb3⟩
        have PB3 := PB.out.below hb3
        have B3 := Lib.hid (on B2.out hb3)
        have s0 := PB3.c0
        have s1 := PB3.c1
        have s2 := PB3.c2
        clear hb3 PB PB3
        go_wp2_with fail
        clear s0 s1 s2
        refine (HM.out w3 B3.out).mono ?_
        rintro e w9 ⟨rfl, hwr⟩
        have W9 := Lib.hid (wrote_after B3.out hwr)
        clear hwr
        go_wp2_with fail
        go_ret
        rw [HX.out]
        exact ⟨rfl, W9.out⟩
  · have tf : (f != 0) = true := by simpa using h1
    have HS := Lib.hid (HNO.out d sb.data.toList f rfl h1)
    replace HX := Lib.hid (HX.out.trans (if_pos h1))
    clear HAT HNO HM HQ h1
    go_enter Tryz.func80, Tryz.ntmps80
    go_wp2_with fail
    refine HS.out.mono ?_
    rintro e w1 ⟨rfl, hb1⟩
    go_wp2_with fail
    go_ret
    rw [HX.out]
    exact ⟨rfl, HN.out _ (hb1.alloc hb1.size _)⟩
theorem rmdir_over {Rep : (Nat → Prop) → World → Value → Tr → Prop} (C : Trees Rep) (S : Seeks Rep) {F : Nat → Prop} {w : World} {a : Option Addr} {t : Tr} (P : Rep F w (.pointer a) t) (G : Good t) (p : ByteArray) (hp : p.size ≤ 1048576) :
    Calls Tryz.prog 58 #[.pointer a, .string p] w fun e w' => e = .returned (.int .i64 (cutAt t p.data.toList true).2) ∧ Wrote Rep F (.pointer a) (cutAt t p.data.toList true).1 w w' := by
  obtain ⟨w1, hw1⟩ : ∃ w1 : World, w.alloc (.cells #[.pointer a] 27) = w1 := ⟨_, rfl⟩
  have B1 : Hid (Below w.heap.size w w1) := by show Below _ _ _; rw [← hw1]; exact W07.below_one _ _
  have CB : Caught w1 w.heap.size (.pointer a) := by rw [← hw1]; exact Caught.new _ _ _
  have HA := Lib.hid (rmdir_cut C S (C.below P B1.out) G p hp CB)
  have c0 := CB.1
  clear P G hp CB
  generalize cutAt t p.data.toList true = R at *
  go_enter Tryz.func58, Tryz.ntmps58
  go_wp2_with fail
  clear hw1
  refine HA.out.mono ?_
  rintro e w2 ⟨rfl, hwr⟩
  have W2 := Lib.hid (wrote_after B1.out hwr)
  clear hwr
  go_wp2_with fail
  go_ret
  exact ⟨rfl, W2.out⟩
theorem unlink1_any {Rep : (Nat → Prop) → World → Value → Tr → Prop} (C : Trees Rep) {F : Nat → Prop} {w : World} {a : Option Addr} {t : Tr} (P : Rep F w (.pointer a) t) (hs : Small t) {b : Nat} (hb : Caught w b (.pointer a)) (n : Int) :
    Says 82 n b w (Num (if (nodeAt t.L n).kind = 1 then 8 else 0)) := by
  have HK := Lib.hid (C.kind P hs n)
  have c0 := hb.1
  clear P hb
  unfold Says Num
  generalize nodeAt t.L n = x at *
  by_cases hk : x.kind = 1
  · have tk : (x.kind == 1) = true := by simp [hk]
    rw [if_pos hk]
    clear hk
    go_enter Tryz.func82, Tryz.ntmps82
    go_wp2_with fail
    refine HK.out.mono ?_
    rintro e w1 ⟨rfl, hb1⟩
    go_wp2_with fail
    go_ret
    exact ⟨rfl, hb1⟩
  · have tk : (x.kind == 1) = false := by simpa using hk
    rw [if_neg hk]
    clear hk
    go_enter Tryz.func82, Tryz.ntmps82
    go_wp2_with fail
    refine HK.out.mono ?_
    rintro e w1 ⟨rfl, hb1⟩
    go_wp2_with fail
    go_ret
    exact ⟨rfl, hb1⟩
set_option maxHeartbeats 2000000 in
theorem unlink_cut {Rep : (Nat → Prop) → World → Value → Tr → Prop} (C : Trees Rep) (S : Seeks Rep) {F : Nat → Prop} {w : World} {a : Option Addr} {t : Tr} (P : Rep F w (.pointer a) t) (G : Good t) (p : ByteArray) (hp : p.size ≤ 1048576) {b : Nat} (hb : Caught w b (.pointer a)) :
    Calls Tryz.prog 80 #[.pointer a, .string p, .func (.func 82) #[] #[.pointer (some ⟨b, 0, none⟩)]] w fun e w' => e = .returned (.int .i64 (cutAt t p.data.toList false).2) ∧ Wrote Rep F (.pointer a) (cutAt t p.data.toList false).1 w w' := by
  have HX : Hid (cutAt t p.data.toList false = if (spot t p.data.toList).2.2 ≠ 0 then (t, (spot t p.data.toList).2.2) else if inDir t.L (spot t p.data.toList).1 (spot t p.data.toList).2.1 = 0 then (t, 5) else if (nodeAt t.L (inDir t.L (spot t p.data.toList).1 (spot t p.data.toList).2.1)).kind = 1 then (t, 8) else M07.cut t (spot t p.data.toList).1 (spot t p.data.toList).2.1) := by
    have hck := cut_kind (C.right P) (spot t p.data.toList).1 (spot t p.data.toList).2.1
    show _ = _
    unfold cutAt cutKind
    by_cases e1 : inDir t.L (spot t p.data.toList).1 (spot t p.data.toList).2.1 = 0
    · rw [if_pos (hck.2 e1), if_pos e1]
    · rw [if_neg (fun e => e1 (hck.1 e)), if_neg e1]
      simp
  have HNO := Lib.hid (fun d s f (h : M08.spot t p.data.toList = (d, s, f)) hf => spot_no C S P G p hp h hf)
  have HAT := Lib.hid (fun d s (h : M08.spot t p.data.toList = (d, s.data.toList, 0)) => spot_at C S P G p hp (s := s) h)
  have HM := Lib.hid (fun w' (h : Below w.heap.size w w') => C.cut (C.below P h) G.small)
  have HQ := Lib.hid (fun w' (h : Below w.heap.size w w') n => unlink1_any C (C.below P h) G.small (hb.below h) n)
  have HN := Lib.hid (fun w' (h : Below w.heap.size w w') => wrote_none C P h)
  clear P G hp hb
  generalize cutAt t p.data.toList false = R at *
  generalize spot t p.data.toList = X at *
  obtain ⟨d, s, f⟩ := X
  obtain ⟨sb, rfl⟩ := text_of s
  dsimp only at HX
  unfold Place at HNO HAT
  unfold Says Num at HQ
  by_cases h1 : f = 0
  · subst h1
    replace HX := Lib.hid (HX.out.trans (if_neg (by simp)))
    replace HM := Lib.hid (fun w' h => HM.out w' h d sb)
    have HS := Lib.hid (HAT.out d sb rfl)
    generalize inDir t.L d sb.data.toList = n at *
    replace HQ := Lib.hid (fun w' h => HQ.out w' h n)
    generalize (nodeAt t.L n).kind = kd at *
    generalize M07.cut t d sb.data.toList = Q at *
    clear HAT HNO
    by_cases h3 : n = 0
    · have tn : (n == 0) = true := by simp [h3]
      replace HX := Lib.hid (HX.out.trans (if_pos h3))
      clear h3 HM HQ
      go_enter Tryz.func80, Tryz.ntmps80
      go_wp2_with fail
      refine HS.out.mono ?_
      rintro e w1 ⟨rfl, hb1⟩
      obtain ⟨w2, hw2⟩ : ∃ w' : World, w1.alloc (.cells #[.int .i64 d, .string sb, .int .i64 n] 143) = w' := ⟨_, rfl⟩
      have hb2 : Below w1.heap.size w1 w2 := by rw [← hw2]; exact (Below.refl _ _).alloc (Nat.le_refl _) _
      have PB := Lib.hid (show PlaceBox w2 w1.heap.size d sb n by rw [← hw2]; exact heap_top _ _)
      have B2 := Lib.hid (on hb1 hb2)
      clear hb2
      have s0 := PB.out.c0
      have s1 := PB.out.c1
      have s2 := PB.out.c2
      go_wp2_with fail
      go_ret
      rw [HX.out]
      exact ⟨rfl, HN.out w2 B2.out⟩
    · have tn : (n == 0) = false := by simpa using h3
      replace HX := Lib.hid (HX.out.trans (if_neg h3))
      clear h3
      by_cases h4 : kd = 1
      · replace HX := Lib.hid (HX.out.trans (if_pos h4))
        simp only [if_pos h4] at HQ
        clear h4 HM
        go_enter Tryz.func80, Tryz.ntmps80
        go_wp2_with fail
        refine HS.out.mono ?_
        rintro e w1 ⟨rfl, hb1⟩
        obtain ⟨w2, hw2⟩ : ∃ w' : World, w1.alloc (.cells #[.int .i64 d, .string sb, .int .i64 n] 143) = w' := ⟨_, rfl⟩
        have hb2 : Below w1.heap.size w1 w2 := by rw [← hw2]; exact (Below.refl _ _).alloc (Nat.le_refl _) _
        have PB := Lib.hid (show PlaceBox w2 w1.heap.size d sb n by rw [← hw2]; exact heap_top _ _)
        have B2 := Lib.hid (on hb1 hb2)
        clear hb2
        have s0 := PB.out.c0
        have s1 := PB.out.c1
        have s2 := PB.out.c2
        go_wp2_with fail
        clear hw2
        refine (HQ.out w2 B2.out).mono ?_
        rintro e w3 ⟨rfl, hb3⟩
        go_wp2_with fail
        go_ret
        rw [HX.out]
        exact ⟨rfl, HN.out w3 (on B2.out hb3)⟩
      · replace HX := Lib.hid (HX.out.trans (if_neg h4))
        simp only [if_neg h4] at HQ
        clear h4
        go_enter Tryz.func80, Tryz.ntmps80
        go_wp2_with fail
        refine HS.out.mono ?_
        rintro e w1 ⟨rfl, hb1⟩
        obtain ⟨w2, hw2⟩ : ∃ w' : World, w1.alloc (.cells #[.int .i64 d, .string sb, .int .i64 n] 143) = w' := ⟨_, rfl⟩
        have hb2 : Below w1.heap.size w1 w2 := by rw [← hw2]; exact (Below.refl _ _).alloc (Nat.le_refl _) _
        have PB := Lib.hid (show PlaceBox w2 w1.heap.size d sb n by rw [← hw2]; exact heap_top _ _)
        have B2 := Lib.hid (on hb1 hb2)
        clear hb2
        have s0 := PB.out.c0
        have s1 := PB.out.c1
        have s2 := PB.out.c2
        go_wp2_with fail
        clear hw2
        clear s0 s1 s2
        refine (HQ.out w2 B2.out).mono ?_
        rintro e w3 ⟨rfl, hb3⟩
        have PB3 := PB.out.below hb3
        have B3 := Lib.hid (on B2.out hb3)
        have s0 := PB3.c0
        have s1 := PB3.c1
        have s2 := PB3.c2
        clear hb3 PB PB3
        go_wp2_with fail
        clear s0 s1 s2
        refine (HM.out w3 B3.out).mono ?_
        rintro e w9 ⟨rfl, hwr⟩
        have W9 := Lib.hid (wrote_after B3.out hwr)
        clear hwr
        go_wp2_with fail
        go_ret
        rw [HX.out]
        exact ⟨rfl, W9.out⟩
  · have tf : (f != 0) = true := by simpa using h1
    have HS := Lib.hid (HNO.out d sb.data.toList f rfl h1)
    replace HX := Lib.hid (HX.out.trans (if_pos h1))
    clear HAT HNO HM HQ h1
    go_enter Tryz.func80, Tryz.ntmps80
    go_wp2_with fail
    refine HS.out.mono ?_
    rintro e w1 ⟨rfl, hb1⟩
    go_wp2_with fail
    go_ret
    rw [HX.out]
    exact ⟨rfl, HN.out _ (hb1.alloc hb1.size _)⟩
theorem unlink_over {Rep : (Nat → Prop) → World → Value → Tr → Prop} (C : Trees Rep) (S : Seeks Rep) {F : Nat → Prop} {w : World} {a : Option Addr} {t : Tr} (P : Rep F w (.pointer a) t) (G : Good t) (p : ByteArray) (hp : p.size ≤ 1048576) :
    Calls Tryz.prog 62 #[.pointer a, .string p] w fun e w' => e = .returned (.int .i64 (cutAt t p.data.toList false).2) ∧ Wrote Rep F (.pointer a) (cutAt t p.data.toList false).1 w w' := by
  obtain ⟨w1, hw1⟩ : ∃ w1 : World, w.alloc (.cells #[.pointer a] 27) = w1 := ⟨_, rfl⟩
  have B1 : Hid (Below w.heap.size w w1) := by show Below _ _ _; rw [← hw1]; exact W07.below_one _ _
  have CB : Caught w1 w.heap.size (.pointer a) := by rw [← hw1]; exact Caught.new _ _ _
  have HA := Lib.hid (unlink_cut C S (C.below P B1.out) G p hp CB)
  have c0 := CB.1
  clear P G hp CB
  generalize cutAt t p.data.toList false = R at *
  go_enter Tryz.func62, Tryz.ntmps62
  go_wp2_with fail
  clear hw1
  refine HA.out.mono ?_
  rintro e w2 ⟨rfl, hwr⟩
  have W2 := Lib.hid (wrote_after B1.out hwr)
  clear hwr
  go_wp2_with fail
  go_ret
  exact ⟨rfl, W2.out⟩
end Go.Proofs.YtolhniepejhmfaaGreatDoor.W09
