/-
  Texts joined, in build order, each with its own comment and its own conditions: W09Cuts, W07Mem, W07Hang.
-/
import Derived.Test.YtdnedeeocpaolaaDoorJ19
import Derived.Test.YtdnedeeocpaolaaDoorJ15
import Derived.Test.YtdnedeeocpaolaaDoorJ04
import Derived.Test.YtdnedeeocpaolaaDoorJ17
import Derived.BigRegion
/-
  Layer 9 (posix), walks of the landed code: the place of a path's last part (spot), and what is asked of the node there ahead of Cut. New memory may be laid, nothing that was there is changed. The conditions stand in the statements.
-/
namespace Go.Proofs.YtdnedeeocpaolaaDoor.W09
set_option maxRecDepth 100000
open Go Go.RowKit Go.Proofs.YtdnedeeocpaolaaDoor.Strs Go.Proofs.YtdnedeeocpaolaaDoor.Recs Go.Proofs.YtdnedeeocpaolaaDoor.Range
open Go.Proofs.YtdnedeeocpaolaaDoor.M07 (Tr Nd nodeAt inDir Right listDir)
open Go.Proofs.YtdnedeeocpaolaaDoor.M08 Go.Proofs.YtdnedeeocpaolaaDoor.M09
open Go.Proofs.YtdnedeeocpaolaaDoor.W07 (Small Trees Wrote listed heap_top)
open Go.Proofs.YtdnedeeocpaolaaDoor.W08 (Seeks)
open Go.Proofs.YtdnedeeocpaolaaDoor.Kit (ret_str ret_bool ret_int mk_of mk_bytes ba_ext below_draws on)

/-- a box of a place -/
def PlaceBox (w : World) (p : Nat) (d : Int) (s : ByteArray) (n : Int) : Prop := w.heap[p]? = some (.cells #[.int .i64 d, .string s, .int .i64 n] 127 (0, 0))
section
variable {w w' : World} {p : Nat} {d n : Int} {s : ByteArray}
theorem PlaceBox.lt (h : PlaceBox w p d s n) : p < w.heap.size := (Array.getElem?_eq_some_iff.1 h).1
theorem PlaceBox.below (h : PlaceBox w p d s n) (hb : Below w.heap.size w w') : PlaceBox w' p d s n := (hb.block _ h.lt).trans h
theorem PlaceBox.c0 (h : PlaceBox w p d s n) : w.cell? ⟨p, 0, none⟩ = some (.int .i64 d) := cell_of_row w _ 0 _ _ (0, 0) h
theorem PlaceBox.c1 (h : PlaceBox w p d s n) : w.cell? ⟨p, 1, none⟩ = some (.string s) := cell_of_row w _ 1 _ _ (0, 0) h
theorem PlaceBox.c2 (h : PlaceBox w p d s n) : w.cell? ⟨p, 2, none⟩ = some (.int .i64 n) := cell_of_row w _ 2 _ _ (0, 0) h
theorem PlaceBox.fr (h : PlaceBox w p d s n) (j : Nat) : w.frozen? ⟨p, j, none⟩ = false := frozen_of_row w _ j _ _ h
end
theorem build_place (d : Int) (s : ByteArray) (n : Int) (w : World) : (Instr.build 127 #[(0, .int .i64 d), (1, .string s), (2, .int .i64 n)]).run Tryd.prog w = .ok (.agg #[.int .i64 d, .string s, .int .i64 n]) w := by kernel_rfl
theorem build_noplace (w : World) : (Instr.build 127 #[]).run Tryd.prog w = .ok (.agg #[.int .i64 0, .string ⟨#[]⟩, .int .i64 0]) w := by kernel_rfl
def Place (d : Int) (s : ByteArray) (n f : Int) (w : World) (e : Ending) (w' : World) : Prop := e = .returned (.tuple #[.agg #[.int .i64 d, .string s, .int .i64 n], .int .i64 f]) ∧ Below w.heap.size w w'
theorem spot_no {Rep : (Nat → Prop) → World → Value → Tr → Prop} (C : Trees Rep) (S : Seeks Rep) {F : Nat → Prop} {w : World} {v : Value} {t : Tr} (P : Rep F w v t) (G : Good t) (p : ByteArray) (hp : p.size ≤ 1048576) {d : Int} {s : Bytes} {f : Int} (h : M08.spot t p.data.toList = (d, s, f)) (hf : f ≠ 0) :
    Calls Tryd.prog 76 #[v, .string p] w (Place 0 ⟨#[]⟩ 0 f w) := by
  obtain ⟨w1, hw1⟩ : ∃ w1 : World, w.alloc (.cells #[.int .i64 0, .string ⟨#[]⟩, .int .i64 0] 127) = w1 := ⟨_, rfl⟩
  have B1 : Hid (Below w.heap.size w w1) := by show Below _ _ _; rw [← hw1]; exact W07.below_one _ _
  have PB : Hid (PlaceBox w1 w.heap.size 0 ⟨#[]⟩ 0) := by show PlaceBox _ _ _ _ _; rw [← hw1]; exact heap_top _ _
  have HA := Lib.hid (S.spot (C.below P B1.out) G p hp)
  rw [h] at HA
  have tf : (f != 0) = true := by simpa using hf
  have hbn := build_noplace
  clear P G hp h hf
  unfold Place
  go_enter Tryd.func76, Tryd.ntmps76
  go_wp2_with fail
  clear hw1
  refine HA.out.mono ?_
  rintro e w2 ⟨rfl, hb2⟩
  have PB2 := PB.out.below hb2
  have B2 := Lib.hid (on B1.out hb2)
  have s0 := PB2.c0
  have s1 := PB2.c1
  have s2 := PB2.c2
  have f0 := PB2.fr 0
  have f1 := PB2.fr 1
  have f2 := PB2.fr 2
  clear hb2 PB PB2 HA
  go_wp2_with fail
  refine bodyPost_ret_by (v := .tuple #[.agg #[.int .i64 0, .string ⟨#[]⟩, .int .i64 0], .int .i64 f]) ?_ rfl ?_
  · rw [results_cell_tmp rfl]
    go_simp
  · exact ⟨rfl, stored3 _ _ _ B2.out (Nat.le_refl _)⟩
theorem spot_at {Rep : (Nat → Prop) → World → Value → Tr → Prop} (C : Trees Rep) (S : Seeks Rep) {F : Nat → Prop} {w : World} {v : Value} {t : Tr} (P : Rep F w v t) (G : Good t) (p : ByteArray) (hp : p.size ≤ 1048576) {d : Int} {s : ByteArray} (h : M08.spot t p.data.toList = (d, s.data.toList, 0)) :
    Calls Tryd.prog 76 #[v, .string p] w (Place d s (inDir t.L d s.data.toList) 0 w) := by
  obtain ⟨w1, hw1⟩ : ∃ w1 : World, w.alloc (.cells #[.int .i64 0, .string ⟨#[]⟩, .int .i64 0] 127) = w1 := ⟨_, rfl⟩
  have B1 : Hid (Below w.heap.size w w1) := by show Below _ _ _; rw [← hw1]; exact W07.below_one _ _
  have PB : Hid (PlaceBox w1 w.heap.size 0 ⟨#[]⟩ 0) := by show PlaceBox _ _ _ _ _; rw [← hw1]; exact heap_top _ _
  have HA := Lib.hid (S.spot (C.below P B1.out) G p hp)
  rw [h] at HA
  simp only [mk_bytes] at HA
  have HL := Lib.hid (fun w' (h : Below w.heap.size w w') => C.list (C.below P h) G.small d)
  have HF := Lib.hid (fun u w' (hu : Recs W06.entC 2 w'.heap.size w' u (W07.listed t d)) => W08.near_any (C.right P) G.small d s (u := u) (w := w') hu)
  have hbp := build_place
  clear P G hp h
  generalize inDir t.L d s.data.toList = n at *
  unfold Place
  go_enter Tryd.func76, Tryd.ntmps76
  go_wp2_with fail
  clear hw1
  refine HA.out.mono ?_
  rintro e w2 ⟨rfl, hb2⟩
  have PB2 := Lib.hid (PB.out.below hb2)
  have B2 := Lib.hid (on B1.out hb2)
  clear hb2 PB HA
  go_wp2_with fail
  refine (HL.out w2 B2.out).mono ?_
  rintro e w3 ⟨u, rfl, hu, hb3⟩
  have PB3 := Lib.hid (PB2.out.below hb3)
  have B3 := Lib.hid (on B2.out hb3)
  clear hb3 PB2 HL
  go_wp2_with fail
  refine (HF.out u w3 hu).mono ?_
  rintro e w4 ⟨rfl, hb4⟩
  have PB4 := PB3.out.below hb4
  have B4 := Lib.hid (on B3.out hb4)
  have s0 := PB4.c0
  have s1 := PB4.c1
  have s2 := PB4.c2
  have f0 := PB4.fr 0
  have f1 := PB4.fr 1
  have f2 := PB4.fr 2
  clear hb4 PB3 PB4 HF hu
  go_wp2_with fail
  refine bodyPost_ret_by (v := .tuple #[.agg #[.int .i64 d, .string s, .int .i64 n], .int .i64 0]) ?_ rfl ?_
  · rw [results_cell_tmp rfl]
    go_simp
  · exact ⟨rfl, stored3 _ _ _ B4.out (Nat.le_refl _)⟩
/-- what Write comes to where nothing is found -/
def created (t : Tr) (p x : Bytes) : Tr × Int :=
  if (M08.spot t p).2.2 ≠ 0 then (t, (M08.spot t p).2.2) else if 0 < inDir t.L (M08.spot t p).1 (M08.spot t p).2.1 then (t, 5) else putAt t p 2 x
set_option maxHeartbeats 2000000 in
theorem create_over {Rep : (Nat → Prop) → World → Value → Tr → Prop} (C : Trees Rep) (S : Seeks Rep) {F : Nat → Prop} {w : World} {v : Value} {t : Tr} (P : Rep F w v t) (G : Good t) (p x : ByteArray) (hp : p.size ≤ 1048576) (hx : x.size ≤ 1048576) :
    Calls Tryd.prog 50 #[v, .string p, .string x] w fun e w' => e = .returned (.int .i64 (created t p.data.toList x.data.toList).2) ∧ Wrote Rep F v (created t p.data.toList x.data.toList).1 w w' := by
  have HX : Hid (created t p.data.toList x.data.toList = if (spot t p.data.toList).2.2 ≠ 0 then (t, (spot t p.data.toList).2.2) else if 0 < inDir t.L (spot t p.data.toList).1 (spot t p.data.toList).2.1 then (t, 5) else putAt t p.data.toList 2 x.data.toList) := rfl
  have HY : Hid (putAt t p.data.toList 2 x.data.toList = if (spot t p.data.toList).2.2 ≠ 0 then (t, (spot t p.data.toList).2.2) else ((M07.put t (spot t p.data.toList).1 (spot t p.data.toList).2.1 2 x.data.toList).1, (M07.put t (spot t p.data.toList).1 (spot t p.data.toList).2.1 2 x.data.toList).2.2)) := rfl
  have HNO := Lib.hid (fun d s f (h : M08.spot t p.data.toList = (d, s, f)) hf => spot_no C S P G p hp h hf)
  have HAT := Lib.hid (fun d s (h : M08.spot t p.data.toList = (d, s.data.toList, 0)) => spot_at C S P G p hp (s := s) h)
  have HM := Lib.hid (fun w' (h : Below w.heap.size w w') => C.put (C.below P h) G.small)
  have HN := Lib.hid (fun w' (h : Below w.heap.size w w') => wrote_none C P h)
  have HP : ∀ d s, 0 ≤ inDir t.L d s := fun d s => M07.in_pos fun a ha => ((C.right P).ends a ha).1
  clear P G hp
  generalize created t p.data.toList x.data.toList = R at *
  generalize putAt t p.data.toList 2 x.data.toList = R2 at *
  generalize spot t p.data.toList = X at *
  obtain ⟨d, s, f⟩ := X
  obtain ⟨sb, rfl⟩ := text_of s
  dsimp only at HX HY
  unfold Place at HNO HAT
  by_cases h1 : f = 0
  · subst h1
    replace HX := Lib.hid (HX.out.trans (if_neg (by simp)))
    replace HY := Lib.hid (HY.out.trans (if_neg (by simp)))
    replace HM := Lib.hid (fun w' h => HM.out w' h d sb 2 x (by unfold maxLen; omega))
    have HS := Lib.hid (HAT.out d sb rfl)
    have HP := HP d sb.data.toList
    generalize inDir t.L d sb.data.toList = n at *
    generalize M07.put t d sb.data.toList 2 x.data.toList = Q at *
    clear HAT HNO
    by_cases h3 : n = 0
    · have tn : (n != 0) = false := by simp [h3]
      replace HX := Lib.hid ((HX.out.trans (if_neg (by omega))).trans HY.out)
      clear HP h3 HY
      go_enter Tryd.func50, Tryd.ntmps50
      go_wp2_with fail
      refine HS.out.mono ?_
      rintro e w1 ⟨rfl, hb1⟩
      obtain ⟨w2, hw2⟩ : ∃ w' : World, w1.alloc (.cells #[.int .i64 d, .string sb, .int .i64 n] 127) = w' := ⟨_, rfl⟩
      have hb2 : Below w1.heap.size w1 w2 := by rw [← hw2]; exact (Below.refl _ _).alloc (Nat.le_refl _) _
      have PB := Lib.hid (show PlaceBox w2 w1.heap.size d sb n by rw [← hw2]; exact heap_top _ _)
      have B2 := Lib.hid (on hb1 hb2)
      clear hb2
      have s0 := PB.out.c0
      have s1 := PB.out.c1
      have s2 := PB.out.c2
      go_wp2_with fail
      clear hw2
      clear s0 s1 s2
      refine (HM.out w2 B2.out).mono ?_
      rintro e w9 ⟨rfl, hwr⟩
      have W9 := Lib.hid (wrote_after B2.out hwr)
      clear hwr
      go_wp2_with fail
      go_ret
      rw [HX.out]
      exact ⟨rfl, W9.out⟩
    · have tn : (n != 0) = true := by simpa using h3
      replace HX := Lib.hid (HX.out.trans (if_pos (by omega)))
      clear HP h3 HY HM
      go_enter Tryd.func50, Tryd.ntmps50
      go_wp2_with fail
      refine HS.out.mono ?_
      rintro e w1 ⟨rfl, hb1⟩
      obtain ⟨w2, hw2⟩ : ∃ w' : World, w1.alloc (.cells #[.int .i64 d, .string sb, .int .i64 n] 127) = w' := ⟨_, rfl⟩
      have hb2 : Below w1.heap.size w1 w2 := by rw [← hw2]; exact (Below.refl _ _).alloc (Nat.le_refl _) _
      have PB := Lib.hid (show PlaceBox w2 w1.heap.size d sb n by rw [← hw2]; exact heap_top _ _)
      have B2 := Lib.hid (on hb1 hb2)
      clear hb2
      have s0 := PB.out.c0
      have s1 := PB.out.c1
      have s2 := PB.out.c2
      go_wp2_with fail
      go_ret
      rw [HX.out]
      exact ⟨rfl, HN.out w2 B2.out⟩
  · have tf : (f != 0) = true := by simpa using h1
    have HS := Lib.hid (HNO.out d sb.data.toList f rfl h1)
    replace HX := Lib.hid (HX.out.trans (if_pos h1))
    clear HAT HNO HM HY HP h1
    go_enter Tryd.func50, Tryd.ntmps50
    go_wp2_with fail
    refine HS.out.mono ?_
    rintro e w1 ⟨rfl, hb1⟩
    go_wp2_with fail
    go_ret
    rw [HX.out]
    exact ⟨rfl, HN.out _ (hb1.alloc hb1.size _)⟩
set_option maxHeartbeats 2000000 in
theorem write_over {Rep : (Nat → Prop) → World → Value → Tr → Prop} (C : Trees Rep) (S : Seeks Rep) {F : Nat → Prop} {w : World} {v : Value} {t : Tr} (P : Rep F w v t) (G : Good t) (p x : ByteArray) (hp : p.size ≤ 1048576) (hx : x.size ≤ 1048576) :
    Calls Tryd.prog 23 #[v, .string p, .string x] w fun e w' => e = .returned (.int .i64 (M09.write t p.data.toList x.data.toList).2) ∧ Wrote Rep F v (M09.write t p.data.toList x.data.toList).1 w w' := by
  have HA := Lib.hid (S.find P G p true hp)
  have HX : Hid (M09.write t p.data.toList x.data.toList = if (M08.find t p.data.toList true).2 = 0 then M07.set t (M08.find t p.data.toList true).1 x.data.toList else if (M08.find t p.data.toList true).2 ≠ 5 then (t, (M08.find t p.data.toList true).2) else created t p.data.toList x.data.toList) := rfl
  have HT := Lib.hid (fun w' (h : Below w.heap.size w w') => C.set (C.below P h) G.small)
  have HC := Lib.hid (fun w' (h : Below w.heap.size w w') => create_over C S (C.below P h) G p x hp hx)
  have HN := Lib.hid (fun w' (h : Below w.heap.size w w') => wrote_none C P h)
  clear P G hp
  generalize M09.write t p.data.toList x.data.toList = R at *
  generalize created t p.data.toList x.data.toList = R2 at *
  generalize M08.find t p.data.toList true = Y at *
  obtain ⟨n1, f1⟩ := Y
  dsimp only at HA HX
  by_cases h1 : f1 = 0
  · subst h1
    replace HX := Lib.hid (HX.out.trans (if_pos rfl))
    replace HT := Lib.hid (fun w' h => HT.out w' h n1 x (by unfold maxLen; omega))
    generalize M07.set t n1 x.data.toList = Q at *
    clear HC
    go_enter Tryd.func23, Tryd.ntmps23
    go_wp2_with fail
    refine HA.out.mono ?_
    rintro e w1 ⟨rfl, hb1⟩
    go_wp2_with fail
    refine (HT.out w1 hb1).mono ?_
    rintro e w9 ⟨rfl, hwr⟩
    have W9 := Lib.hid (wrote_after hb1 hwr)
    clear hwr
    go_wp2_with fail
    go_ret
    rw [HX.out]
    exact ⟨rfl, W9.out⟩
  · have t1 : (f1 == 0) = false := by simpa using h1
    replace HX := Lib.hid (HX.out.trans (if_neg h1))
    clear h1 HT
    by_cases h5 : f1 = 5
    · have t5 : (f1 == 5) = true := by simp [h5]
      replace HX := Lib.hid (HX.out.trans (if_neg (fun e => e h5)))
      clear h5
      go_enter Tryd.func23, Tryd.ntmps23
      go_wp2_with fail
      refine HA.out.mono ?_
      rintro e w1 ⟨rfl, hb1⟩
      go_wp2_with fail
      refine (HC.out w1 hb1).mono ?_
      rintro e w9 ⟨rfl, hwr⟩
      have W9 := Lib.hid (wrote_after hb1 hwr)
      clear hwr
      go_wp2_with fail
      go_ret
      rw [HX.out]
      exact ⟨rfl, W9.out⟩
    · have t5 : (f1 == 5) = false := by simpa using h5
      replace HX := Lib.hid (HX.out.trans (if_pos h5))
      clear h5 HC
      go_enter Tryd.func23, Tryd.ntmps23
      go_wp2_with fail
      refine HA.out.mono ?_
      rintro e w1 ⟨rfl, hb1⟩
      go_wp2_with fail
      go_ret
      rw [HX.out]
      exact ⟨rfl, HN.out w1 hb1⟩
end Go.Proofs.YtdnedeeocpaolaaDoor.W09
/-
  Layer 7 (tree), walks: what the landed code's tree is in memory: a box with the map of nodes, each node's list of names; the calls that only look: node, Kind, Data, Up, Len, List. The bounds stand in the statements.
-/
namespace Go.Proofs.YtdnedeeocpaolaaDoor.W07
set_option maxRecDepth 100000
open Go Go.RowKit Go.Proofs.YtdnedeeocpaolaaDoor.Strs Go.Proofs.YtdnedeeocpaolaaDoor.Recs Go.Proofs.YtdnedeeocpaolaaDoor.M07 Go.Proofs.YtdnedeeocpaolaaDoor.Maps Go.Proofs.YtdnedeeocpaolaaDoor.Range
open Go.Proofs.YtdnedeeocpaolaaDoor.M06 (Ent)
open Go.Proofs.YtdnedeeocpaolaaDoor.W06 (Ents HandsE)
open Go.Proofs.YtdnedeeocpaolaaDoor.Kit (ret_str ret_bool ret_int mk_of mk_bytes ba_ext below_draws on)

/-- a node as the map holds it; v: its list of names -/
def nodV (x : Nod) (v : Value) : Value := .agg #[.int .i64 x.kind, .int .i64 x.up, .string ⟨x.data.toArray⟩, v]
def held (g : Int → Nod) (lv : Int → Value) (n : Int) : Option Value := if (g n).kind = 0 then none else some (nodV (g n) (lv n))
theorem key_under : Tryd.prog.underlying 3 = some (.int .i64) := Tryd.underlying3
theorem map_under : Tryd.prog.underlying 95 = some (.map 3 92) := Tryd.underlying95
theorem zero_node (w : World) : (zeroValue 92).run Tryd.prog w = .ok (.agg #[.int .i64 0, .int .i64 0, .string ⟨#[]⟩, .slice none 0 0]) w := by kernel_rfl
/-- the box of a tree -/
def RootBox (w : World) (sb mb : Nat) (last : Int) : Prop := w.heap[sb]? = some (.cells #[.map (some mb), .int .i64 last] 97 (0, 0))
section
variable {w w' : World} {sb mb : Nat} {last : Int}
theorem RootBox.lt (h : RootBox w sb mb last) : sb < w.heap.size := (Array.getElem?_eq_some_iff.1 h).1
theorem RootBox.c0 (h : RootBox w sb mb last) : w.cell? ⟨sb, 0, none⟩ = some (.map (some mb)) := cell_of_row w _ 0 _ _ (0, 0) h
theorem RootBox.c1 (h : RootBox w sb mb last) : w.cell? ⟨sb, 1, none⟩ = some (.int .i64 last) := cell_of_row w _ 1 _ _ (0, 0) h
theorem RootBox.fr (h : RootBox w sb mb last) (j : Nat) : w.frozen? ⟨sb, j, none⟩ = false := frozen_of_row w _ j _ _ h
theorem RootBox.count (h : RootBox w sb mb last) (n : Int) : RootBox (w.setCell ⟨sb, 1, none⟩ (.int .i64 n)) sb mb n := set_heap h 1 (.int .i64 n)
end
structure Mem (F : Nat → Prop) (w : World) (sb mb : Nat) (g : Int → Nod) (lv : Int → Value) (last : Int) (m : Nat) : Prop where
  box : RootBox w sb mb last
  fs : F sb
  fm : F mb
  low : ∀ k, F k → k < w.heap.size
  map : MapIs w Tryd.prog 3 mb (held g lv) m
  zero : ∀ n, (g n).kind = 0 → g n = nod0 ∧ lv n = .slice none 0 0
  list : ∀ n, Ents w.heap.size w (lv n) (g n).list
  at_ : ∀ n b o c d, 0 < (g n).list.length → lv n = .slice (some ⟨b, o, none⟩) c d → F b
/-- lists are no longer than nodes are many -/
def Short (g : Int → Nod) : Prop := ∀ n, (g n).list.length ≤ 1073741824

theorem ents_keep {B : Nat} {w w' : World} {v : Value} {L : List Ent} (h : Ents B w v L) (hk : ∀ b o c d, 0 < L.length → b < B → v = .slice (some ⟨b, o, none⟩) c d → w'.heap[b]? = w.heap[b]?) : Ents B w' v L := by
  obtain ⟨A, c, rfl, h1, h2⟩ := h.form
  rcases Nat.eq_zero_or_pos L.length with h0 | h0
  · obtain ⟨A', c', e, a1, a2, -⟩ := h
    exact ⟨A', c', e, a1, a2, fun hn => absurd hn (by omega)⟩
  · obtain ⟨b, o, hl, rfl, hb, -⟩ := Recs.flat_ h W06.entC_len (by omega) h0
    exact Recs.other h fun p hp => World.cell?_of_block (by rw [hp]; exact hk b o _ _ h0 hb rfl)
section
variable {F F' : Nat → Prop} {w w' : World} {sb mb : Nat} {g : Int → Nod} {lv : Int → Value} {last : Int} {m : Nat}
theorem Mem.keep (h : Mem F w sb mb g lv last m) (hk : ∀ k, F k → w'.heap[k]? = w.heap[k]?) (hs : w.heap.size ≤ w'.heap.size) : Mem F w' sb mb g lv last m where
  box := (hk _ h.fs).trans h.box
  fs := h.fs
  fm := h.fm
  low := fun k hf => Nat.lt_of_lt_of_le (h.low k hf) hs
  map := h.map.keep (hk _ h.fm)
  zero := h.zero
  list := fun n => (ents_keep (h.list n) fun b o c d e0 _ e => hk b (h.at_ n b o c d e0 e)).more hs
  at_ := h.at_
theorem Mem.below (h : Mem F w sb mb g lv last m) (hb : Below w.heap.size w w') : Mem F w' sb mb g lv last m := h.keep (fun k hf => hb.block k (h.low k hf)) hb.size
theorem Mem.alloc (h : Mem F w sb mb g lv last m) (o : Obj) : Mem F (w.alloc o) sb mb g lv last m := h.below ((Below.refl _ _).alloc (Nat.le_refl _) o)
theorem Mem.look (h : Mem F w sb mb g lv last m) (n : Int) : (held g lv n).getD (.agg #[.int .i64 0, .int .i64 0, .string ⟨#[]⟩, .slice none 0 0]) = nodV (g n) (lv n) := by
  unfold held
  split
  · rename_i e
    obtain ⟨e1, e2⟩ := h.zero n e
    rw [e1, e2]; rfl
  · rfl
theorem Mem.form (h : Mem F w sb mb g lv last m) (n : Int) : ∃ A c, lv n = .slice A (g n).list.length c := by
  obtain ⟨A, c, e, -, -⟩ := (h.list n).form
  exact ⟨A, c, e⟩
theorem ret_node {e : Ending} {v : Value} {x : Nod} {u : Value} {Q : Prop} (he : e = .returned (nodV x u)) (hv : u = v) (hQ : Q) : e = .returned (nodV x v) ∧ Q := by subst hv; exact ⟨he, hQ⟩
set_option maxHeartbeats 1000000 in
theorem node_any (h : Mem F w sb mb g lv last m) (n : Int) : Calls Tryd.prog 48 #[.pointer (some ⟨sb, 0, none⟩), .int .i64 n] w fun e w' => e = .returned (nodV (g n) (lv n)) ∧ Below w.heap.size w w' := by
  have HM := Lib.hid (h.map.alloc (.cells #[.int .i64 0, .int .i64 0, .string ⟨#[]⟩, .slice none 0 0] 92))
  have HL := Lib.hid (h.look n)
  have c0 := h.box.c0
  have hlt := h.box.lt
  obtain ⟨A, c, e⟩ := h.form n
  rw [e]
  rw [e] at HL
  generalize (g n).list.length = k at *
  obtain ⟨x, hx⟩ : ∃ x, g n = x := ⟨_, rfl⟩
  rw [hx] at HL
  rw [hx]
  clear e hx h
  go_enter Tryd.func48, Tryd.ntmps48
  go_wp2_with (at_lookup; refine wpList_look _ rfl _ _ 95 rfl 3 92 key_under map_under (zero_node _) mb m (held g lv) rfl HM.out n rfl (.agg #[.int .i64 x.kind, .int .i64 x.up, .string ⟨x.data.toArray⟩, .slice A k c]) HL.out ?_)
  refine bodyPost_ret_by (v := nodV x (.slice A k c)) ?_ rfl ⟨rfl, ?_⟩
  · rw [results_cell_one rfl]
    go_simp
    rfl
  · exact (Below.refl _ _).alloc (Nat.le_refl _) _
theorem nod_kind (a b : Int) (c : ByteArray) (A : Option Addr) (n k : Nat) (w : World) : (Instr.field 92 (.agg #[.int .i64 a, .int .i64 b, .string c, .slice A n k]) 0).run Tryd.prog w = .ok (.int .i64 a) w := by kernel_rfl
theorem nod_up (a b : Int) (c : ByteArray) (A : Option Addr) (n k : Nat) (w : World) : (Instr.field 92 (.agg #[.int .i64 a, .int .i64 b, .string c, .slice A n k]) 1).run Tryd.prog w = .ok (.int .i64 b) w := by kernel_rfl
theorem nod_data (a b : Int) (c : ByteArray) (A : Option Addr) (n k : Nat) (w : World) : (Instr.field 92 (.agg #[.int .i64 a, .int .i64 b, .string c, .slice A n k]) 2).run Tryd.prog w = .ok (.string c) w := by kernel_rfl
theorem nod_list (a b : Int) (c : ByteArray) (A : Option Addr) (n k : Nat) (w : World) : (Instr.field 92 (.agg #[.int .i64 a, .int .i64 b, .string c, .slice A n k]) 3).run Tryd.prog w = .ok (.slice A n k) w := by kernel_rfl
/-- node's result, written out -/
theorem Mem.node_ (h : Mem F w sb mb g lv last m) (n : Int) : ∃ A c, lv n = .slice A (g n).list.length c ∧ Calls Tryd.prog 48 #[.pointer (some ⟨sb, 0, none⟩), .int .i64 n] w fun e w' => e = .returned (.agg #[.int .i64 (g n).kind, .int .i64 (g n).up, .string ⟨(g n).data.toArray⟩, .slice A (g n).list.length c]) ∧ Below w.heap.size w w' := by
  obtain ⟨A, c, e⟩ := h.form n
  have := node_any h n
  rw [e] at this
  exact ⟨A, c, e, this⟩
set_option maxHeartbeats 1000000 in
theorem kind_any (h : Mem F w sb mb g lv last m) (n : Int) : Calls Tryd.prog 22 #[.pointer (some ⟨sb, 0, none⟩), .int .i64 n] w fun e w' => e = .returned (.int .i64 (g n).kind) ∧ Below w.heap.size w w' := by
  obtain ⟨A, c, -, hc⟩ := h.node_ n
  have HC := Lib.hid hc
  have hf := nod_kind (g n).kind (g n).up ⟨(g n).data.toArray⟩ A (g n).list.length c
  clear hc h
  go_enter Tryd.func22, Tryd.ntmps22
  go_wp2_with fail
  refine HC.out.mono ?_
  rintro e w1 ⟨rfl, hb⟩
  go_wp2_with fail
  go_ret
  exact ⟨rfl, hb⟩
set_option maxHeartbeats 1000000 in
theorem up_any (h : Mem F w sb mb g lv last m) (n : Int) : Calls Tryd.prog 81 #[.pointer (some ⟨sb, 0, none⟩), .int .i64 n] w fun e w' => e = .returned (.int .i64 (g n).up) ∧ Below w.heap.size w w' := by
  obtain ⟨A, c, -, hc⟩ := h.node_ n
  have HC := Lib.hid hc
  have hf := nod_up (g n).kind (g n).up ⟨(g n).data.toArray⟩ A (g n).list.length c
  clear hc h
  go_enter Tryd.func81, Tryd.ntmps81
  go_wp2_with fail
  refine HC.out.mono ?_
  rintro e w1 ⟨rfl, hb⟩
  go_wp2_with fail
  go_ret
  exact ⟨rfl, hb⟩
set_option maxHeartbeats 1000000 in
theorem data_any (h : Mem F w sb mb g lv last m) (n : Int) : Calls Tryd.prog 34 #[.pointer (some ⟨sb, 0, none⟩), .int .i64 n] w fun e w' => e = .returned (.string ⟨(g n).data.toArray⟩) ∧ Below w.heap.size w w' := by
  obtain ⟨A, c, -, hc⟩ := h.node_ n
  have HC := Lib.hid hc
  have hf := nod_data (g n).kind (g n).up ⟨(g n).data.toArray⟩ A (g n).list.length c
  clear hc h
  go_enter Tryd.func34, Tryd.ntmps34
  go_wp2_with fail
  refine HC.out.mono ?_
  rintro e w1 ⟨rfl, hb⟩
  go_wp2_with fail
  go_ret
  exact ⟨rfl, hb⟩
theorem is_nil (n c : Nat) (w : World) : (binOp BinOp.eql 55 (.slice none n c) (.slice none 0 0)).run Tryd.prog w = .ok (.bool true) w := by kernel_rfl
theorem is_some (ad : Addr) (n c : Nat) (w : World) : (binOp BinOp.eql 55 (.slice (some ad) n c) (.slice none 0 0)).run Tryd.prog w = .ok (.bool false) w := by kernel_rfl
set_option maxHeartbeats 1000000 in
set_option maxRecDepth 100000 in
theorem clone_any (v : Value) (L : List Ent) (h : Ents w.heap.size w v L) (hn : L.length ≤ 1099511627776) : Calls Tryd.prog 47 #[v] w (W06.HandsN w L) := by
  obtain ⟨A, c, rfl, -, -⟩ := h.form
  cases A with
  | none =>
    have h0 : L = [] := by
      rcases Nat.eq_zero_or_pos L.length with h0 | h0
      · exact List.length_eq_zero_iff.1 h0
      · obtain ⟨b, o, hl, e, -⟩ := Recs.flat_ h W06.entC_len (by omega) h0
        cases e
    subst h0
    have hnil := is_nil 0 c
    go_enter Tryd.func47, Tryd.ntmps47
    go_wp2_with fail
    go_ret
    exact ⟨.slice none 0 0, rfl, recs_nil _ _ _ _, (fun b o n c e => by cases e), Below.refl _ _⟩
  | some ad =>
    have H := Lib.hid h
    have hnil := is_some ad L.length c
    clear h
    go_enter Tryd.func47, Tryd.ntmps47
    obtain ⟨i0, hi, hz0, hz1, hz2⟩ := info_parts W06.ent_info
    have hown : (w.alloc (.cells #[] 81)).ownsRow w.heap.size 81 2 (.slice (some ⟨w.heap.size, 0, none⟩) 0 0) 0 [] :=
      ⟨rfl, Or.inr ⟨w.heap.size, 0, #[], rfl, Nat.le_refl _, by show (w.heap.push _)[w.heap.size]? = _; simp, Nat.zero_le _, Nat.zero_le _, rfl, by simp⟩⟩
    have OW := Lib.hid hown
    clear hown
    go_wp2_with (at_builtin; refine wpList_append_recs rfl (.tmp 5) (.tmp 6) 55 rfl w.heap.size 81 i0 (.agg #[.string ⟨#[]⟩, .int .i64 0]) 2 24 Tryd.underlying55 hi hz0 hz1 hz2 rfl (by decide) _ _ _ rfl OW.out _ L w.heap.size rfl (H.out.alloc (Nat.le_refl _) _) W06.entC_len W06.entC_one (by unfold maxLen; omega) (by omega) (by simp) ?_; intro v1 w2 hown1 hg2 _)
    have O2 : Hid (W06.OwnEnts w2 w.heap.size v1 L) := W06.own_ents_all (out := []) hown1
    have B2 : Hid (Below w.heap.size w w2) := ((Below.refl w.heap.size w).alloc (Nat.le_refl _) _).grown hg2 (by simp) (fun k hk => (OW.out.lt k hk).1)
    clear hown1 hg2 OW hi hz0 hz1 hz2
    go_wp2
    go_ret
    exact ⟨v1, rfl, O2.out.reads, W06.own_new O2.out (Nat.le_refl _), B2.out⟩
set_option maxHeartbeats 1000000 in
theorem list_any (h : Mem F w sb mb g lv last m) (n : Int) (hn : (g n).list.length ≤ 1099511627776) : Calls Tryd.prog 21 #[.pointer (some ⟨sb, 0, none⟩), .int .i64 n] w (W06.HandsN w (g n).list) := by
  obtain ⟨A, c, e, hc⟩ := h.node_ n
  have hE := h.list n
  rw [e] at hE
  have HCL := Lib.hid (fun (w' : World) (hb : Below w.heap.size w w') => clone_any (.slice A (g n).list.length c) (g n).list ((hE.below hb).more hb.size) hn)
  have HC := Lib.hid hc
  have hf := nod_list (g n).kind (g n).up ⟨(g n).data.toArray⟩ A (g n).list.length c
  clear hc h e hE
  generalize (g n).list = L at *
  go_enter Tryd.func21, Tryd.ntmps21
  go_wp2_with fail
  refine HC.out.mono ?_
  rintro e w1 ⟨rfl, hb⟩
  have HCL := Lib.hid (HCL.out w1 hb)
  have B1 := Lib.hid hb
  have hs1 := hb.size
  clear hb
  go_wp2_with fail
  refine HCL.out.mono ?_
  rintro e w2 ⟨u, rfl, hu, hnew, hb⟩
  have U := Lib.hid hu
  have N := Lib.hid hnew
  have B2 := Lib.hid (on B1.out hb)
  clear hu hnew hb
  go_wp2
  go_ret
  exact ⟨u, rfl, U.out, fun b o n c e => Nat.le_trans hs1 (N.out b o n c e), B2.out⟩
end

/-! what the calls that write do to the box, the map and the lists -/
theorem cell_not_map {w : World} {b : Nat} {es : Array MapEntry} {clock : Nat} (h : w.heap[b]? = some (.map es clock)) (o : Nat) (s : Option Nat) : w.cell? ⟨b, o, s⟩ = none := by simp [World.cell?, h]
theorem ents_turn {B : Nat} {w w' : World} {v : Value} {L : List Ent} {mb : Nat} {es : Array MapEntry} {clock : Nat} (h : Ents B w v L) (hm : w.heap[mb]? = some (.map es clock)) (hg : w.grownBy w' (some mb)) : Ents B w' v L := by
  obtain ⟨A, c, e, h1, h2, h3⟩ := h
  refine ⟨A, c, e, h1, h2, fun hn => ?_⟩
  obtain ⟨ad, e2, hb, hc⟩ := h3 hn
  refine ⟨ad, e2, hb, fun k hk j hj => ?_⟩
  have := hc k hk j hj
  have hlt : j < (W06.entC L[k]).length := hj
  rw [List.getElem?_eq_getElem hlt] at this ⊢
  refine hg.cell this fun e => ?_
  have e : (ad.add (k * 2 + j)).block = mb := by injection e
  have hz := cell_not_map hm (ad.add (k * 2 + j)).off (ad.add (k * 2 + j)).spot
  rw [← e] at hz
  rw [show (⟨(ad.add (k * 2 + j)).block, (ad.add (k * 2 + j)).off, (ad.add (k * 2 + j)).spot⟩ : Addr) = ad.add (k * 2 + j) from rfl, this] at hz
  cases hz
theorem narrow {F : Nat → Prop} {w w' : World} (h : Turns (fun k => F k ∨ w.heap.size ≤ k) w w') : Turns F w w' :=
  ⟨h.os, h.tape, h.output, h.size, fun i hi ht => h.block i hi (by rintro (e | e); exact ht e; omega)⟩
/-- what is new, beside F, from B on -/
def More (F : Nat → Prop) (B : Nat) (w : World) (k : Nat) : Prop := F k ∨ (B ≤ k ∧ k < w.heap.size)
section
variable {F F' : Nat → Prop} {w w' : World} {sb mb : Nat} {g : Int → Nod} {lv : Int → Value} {last : Int} {m m' : Nat}
theorem Mem.wider (h : Mem F w sb mb g lv last m) (hs : ∀ k, F k → F' k) (hl : ∀ k, F' k → k < w.heap.size) : Mem F' w sb mb g lv last m where
  box := h.box
  fs := hs _ h.fs
  fm := hs _ h.fm
  low := hl
  map := h.map
  zero := h.zero
  list := h.list
  at_ := fun n b o c d e0 e => hs _ (h.at_ n b o c d e0 e)
theorem Mem.more (h : Mem F w sb mb g lv last m) (B : Nat) : Mem (More F B w) w sb mb g lv last m := h.wider (fun _ => Or.inl) (by rintro k (hk | hk); exact h.low k hk; exact hk.2)
theorem Mem.apart (h : Mem F w sb mb g lv last m) : sb ≠ mb := by
  intro e
  obtain ⟨es, clock, hm⟩ := h.map.at_
  have := h.box
  unfold RootBox at this
  rw [e, hm] at this
  cases this
theorem held_upd {n : Int} {x : Nod} {u : Value} (hx : x.kind ≠ 0) (i : Int) : upd (held g lv) n (some (nodV x u)) i = held (upd g n x) (upd lv n u) i := by
  unfold upd held
  by_cases e : i = n
  · subst e; simp [hx]
  · simp [e]
theorem held_none {n : Int} (i : Int) : upd (held g lv) n none i = held (upd g n nod0) (upd lv n (.slice none 0 0)) i := by
  unfold upd held
  by_cases e : i = n
  · subst e; simp [nod0]
  · simp [e]
/-- the box, and each list, while the map alone turns -/
theorem Mem.turned (h : Mem F w sb mb g lv last m) {n : Int} {x : Nod} {u : Value} (hz : x.kind = 0 → x = nod0 ∧ u = .slice none 0 0) (hu : Ents w.heap.size w u x.list) (hF : ∀ b o c d, 0 < x.list.length → u = .slice (some ⟨b, o, none⟩) c d → F b)
    (hmap : MapIs w' Tryd.prog 3 mb (held (upd g n x) (upd lv n u)) m') (hg : w.grownBy w' (some mb)) : Mem F w' sb mb (upd g n x) (upd lv n u) last m' where
  box := (hg.block sb h.box.lt (by intro e; injection e with e; exact h.apart e)).trans h.box
  fs := h.fs
  fm := h.fm
  low := fun k hk => Nat.lt_of_lt_of_le (h.low k hk) hg.size
  map := hmap
  zero := fun i hi => by
    unfold upd at hi ⊢
    by_cases e : i = n
    · rw [if_pos e] at hi ⊢; rw [if_pos e]; exact hz hi
    · rw [if_neg e] at hi ⊢; rw [if_neg e]; exact h.zero i hi
  list := fun i => by
    obtain ⟨es, clock, hm⟩ := h.map.at_
    unfold upd
    by_cases e : i = n
    · rw [if_pos e, if_pos e]; exact (ents_turn hu hm hg).more hg.size
    · rw [if_neg e, if_neg e]; exact (ents_turn (h.list i) hm hg).more hg.size
  at_ := fun i b o c d => by
    unfold upd
    by_cases e : i = n
    · rw [if_pos e, if_pos e]; exact hF b o c d
    · rw [if_neg e, if_neg e]; exact h.at_ i b o c d
theorem Mem.stored (h : Mem F w sb mb g lv last m) {n : Int} {x : Nod} {u : Value} (hx : x.kind ≠ 0) (hu : Ents w.heap.size w u x.list) (hF : ∀ b o c d, 0 < x.list.length → u = .slice (some ⟨b, o, none⟩) c d → F b)
    (hmap : MapIs w' Tryd.prog 3 mb (upd (held g lv) n (some (nodV x u))) m') (ht : w.mapTurned w' mb) : Mem F w' sb mb (upd g n x) (upd lv n u) last m' :=
  h.turned (fun e => absurd e hx) hu hF (hmap.as (held_upd hx) rfl) ht.grown
theorem Mem.dropped (h : Mem F w sb mb g lv last m) {n : Int} (hmap : MapIs w' Tryd.prog 3 mb (upd (held g lv) n none) m') (ht : w.mapTurned w' mb) : Mem F w' sb mb (upd g n nod0) (upd lv n (.slice none 0 0)) last m' :=
  h.turned (fun _ => ⟨rfl, rfl⟩) (recs_nil _ _ _ _) (fun b o c d _ e => by cases e) (hmap.as held_none rfl) ht.grown
theorem Mem.some_ (_h : Mem F w sb mb g lv last m) {n : Int} (hn : (g n).kind ≠ 0) : held g lv n = some (nodV (g n) (lv n)) := by unfold held; rw [if_neg hn]
theorem Mem.wf (h : Mem F w sb mb g lv last m) {n : Int} (hn : (g n).kind ≠ 0) : (Lit.int .i64 n).wf = true := h.map.wf key_under (h.some_ hn)
theorem turned_turns {T : Nat → Prop} (ht : w.mapTurned w' mb) (hT : T mb) : Turns T w w' := Turns.of_grown ht.grown (fun r e => by cases e; exact hT)
theorem drew_turns (T : Nat → Prop) (w : World) : Turns T w w.drew := ⟨rfl, rfl, rfl, Nat.le_refl _, fun _ _ _ => rfl⟩
/-- a box of a node -/
def NodBox (w : World) (p : Nat) (x : Nod) (u : Value) : Prop := w.heap[p]? = some (.cells #[.int .i64 x.kind, .int .i64 x.up, .string ⟨x.data.toArray⟩, u] 92 (0, 0))
variable {p : Nat} {x : Nod} {u : Value}
theorem NodBox.lt (h : NodBox w p x u) : p < w.heap.size := (Array.getElem?_eq_some_iff.1 h).1
theorem NodBox.below (h : NodBox w p x u) (hb : Below w.heap.size w w') : NodBox w' p x u := (hb.block _ h.lt).trans h
theorem NodBox.new (w : World) (x : Nod) (u : Value) : NodBox (w.alloc (.cells #[.int .i64 x.kind, .int .i64 x.up, .string ⟨x.data.toArray⟩, u] 92)) w.heap.size x u := heap_top _ _
theorem NodBox.c0 (h : NodBox w p x u) : w.cell? ⟨p, 0, none⟩ = some (.int .i64 x.kind) := cell_of_row w _ 0 _ _ (0, 0) h
theorem NodBox.c1 (h : NodBox w p x u) : w.cell? ⟨p, 1, none⟩ = some (.int .i64 x.up) := cell_of_row w _ 1 _ _ (0, 0) h
theorem NodBox.c2 (h : NodBox w p x u) : w.cell? ⟨p, 2, none⟩ = some (.string ⟨x.data.toArray⟩) := cell_of_row w _ 2 _ _ (0, 0) h
theorem NodBox.c3 (h : NodBox w p x u) : w.cell? ⟨p, 3, none⟩ = some u := cell_of_row w _ 3 _ _ (0, 0) h
theorem NodBox.fr (h : NodBox w p x u) (j : Nat) : w.frozen? ⟨p, j, none⟩ = false := frozen_of_row w _ j _ _ h
theorem NodBox.set3 (h : NodBox w p x u) (L : List Ent) (u' : Value) : NodBox (w.setCell ⟨p, 3, none⟩ u') p { x with list := L } u' := set_heap h 3 u'
theorem NodBox.set1 (h : NodBox w p x u) (d : Int) : NodBox (w.setCell ⟨p, 1, none⟩ (.int .i64 d)) p { x with up := d } u := set_heap h 1 (.int .i64 d)
theorem NodBox.set2 (h : NodBox w p x u) (s : ByteArray) : NodBox (w.setCell ⟨p, 2, none⟩ (.string s)) p { x with data := s.data.toList } u := by
  have h2 := set_heap h 2 (.string s)
  have e : (⟨s.data.toList.toArray⟩ : ByteArray) = s := mk_bytes s
  unfold NodBox
  rw [e]
  exact h2
end
end Go.Proofs.YtdnedeeocpaolaaDoor.W07
/-
  Layer 7 (tree), walks: the landed code's hang and unhang: a node's name in a directory's list. The bounds stand in the statements.
-/
namespace Go.Proofs.YtdnedeeocpaolaaDoor.W07
set_option maxRecDepth 100000
open Go Go.RowKit Go.Proofs.YtdnedeeocpaolaaDoor.Strs Go.Proofs.YtdnedeeocpaolaaDoor.Recs Go.Proofs.YtdnedeeocpaolaaDoor.M07 Go.Proofs.YtdnedeeocpaolaaDoor.Maps Go.Proofs.YtdnedeeocpaolaaDoor.Range
open Go.Proofs.YtdnedeeocpaolaaDoor.M06 (Ent)
open Go.Proofs.YtdnedeeocpaolaaDoor.W06 (Ents HandsE)
open Go.Proofs.YtdnedeeocpaolaaDoor.Kit (ret_str ret_bool ret_int mk_of mk_bytes ba_ext below_draws on)

/-- behind a call that has written the tree's memory -/
def Left (F : Nat → Prop) (w w' : World) (sb mb : Nat) (g : Int → Nod) (last : Int) (m : Nat) : Prop :=
  ∃ F' lv', Mem F' w' sb mb g lv' last m ∧ Turns F w w' ∧ ∀ k, F' k → F k ∨ w.heap.size ≤ k
section
variable {F : Nat → Prop} {w w1 w2 : World} {sb mb : Nat} {g : Int → Nod} {lv : Int → Value} {last : Int} {m : Nat} {p : Nat} {x : Nod} {u : Value}
/-- a local copy of a node with another list in it, the tree as it was -/
theorem open_list (h : Mem F w sb mb g lv last m) (hb : Below w.heap.size w w1) (hp : w.heap.size ≤ p) (L : List Ent) (hbox : NodBox w1 p x u) (u' : Value) (hb2 : Below w1.heap.size w1 w2) (hu : Ents w2.heap.size w2 u' L) (hN : ∀ b o n c, u' = .slice (some ⟨b, o, none⟩) n c → w1.heap.size ≤ b) :
    Mem (More F w.heap.size (w2.setCell ⟨p, 3, none⟩ u')) (w2.setCell ⟨p, 3, none⟩ u') sb mb g lv last m ∧ NodBox (w2.setCell ⟨p, 3, none⟩ u') p { x with list := L } u' ∧ Ents (w2.setCell ⟨p, 3, none⟩ u').heap.size (w2.setCell ⟨p, 3, none⟩ u') u' L ∧ (∀ b o c d, 0 < L.length → u' = .slice (some ⟨b, o, none⟩) c d → More F w.heap.size (w2.setCell ⟨p, 3, none⟩ u') b) ∧ Below w.heap.size w (w2.setCell ⟨p, 3, none⟩ u') := by
  have h2 := h.below (on hb hb2)
  have hbx := hbox.below hb2
  have hB : Below w.heap.size w (w2.setCell ⟨p, 3, none⟩ u') := (on hb hb2).setCell hp u'
  have hu2 : Ents w2.heap.size (w2.setCell ⟨p, 3, none⟩ u') u' L := ents_keep hu fun b o c d _ _ e => Below.heap_setCell _ _ _ _ (by
    have h1 := hN b o c d e
    have h2 := hbox.lt
    show b ≠ p
    omega)
  have hu3 : Ents w2.heap.size (w2.setCell ⟨p, 3, none⟩ u') u' L := hu2
  refine ⟨(h.below hB).more _, hbx.set3 L u', by rw [set_size]; exact hu2, fun b o c d e0 e => ?_, hB⟩
  subst e
  obtain ⟨b', o', hl, e, hb', -⟩ := Recs.flat_ hu3 W06.entC_len (by omega) (k := 0) (by
    obtain ⟨A, c', e, -⟩ := hu3.form
    injection e with e1 e2
    omega)
  cases e
  exact Or.inr ⟨Nat.le_trans hb.size (hN b o c d rfl), by rw [set_size]; exact hb'⟩
set_option maxHeartbeats 2000000 in
set_option maxRecDepth 100000 in
theorem unhang_any (h : Mem F w sb mb g lv last m) (hs : Short g) (hm : m ≤ 1073741824) (d : Int) (s : ByteArray) (hd : (g d).kind ≠ 0) :
    Calls Tryd.prog 71 #[.pointer (some ⟨sb, 0, none⟩), .int .i64 d, .string s] w fun e w' => e = .returned (.tuple #[]) ∧ Left F w w' sb mb (unhangN g d s.data.toList) last m := by
  obtain ⟨A, c, e⟩ := h.form d
  have hE := h.list d
  have HL := Lib.hid (h.look d)
  rw [e] at hE HL
  have c0 := h.box.c0
  have HM := Lib.hid h.map
  have hsd := hs d
  have hwf := Lib.hid (h.wf hd)
  obtain ⟨w1, hw1⟩ : ∃ w1, w.alloc (.cells #[.int .i64 (g d).kind, .int .i64 (g d).up, .string ⟨(g d).data.toArray⟩, .slice A (g d).list.length c] 92) = w1 := ⟨_, rfl⟩
  have X1 : Hid (NodBox w1 w.heap.size (g d) (.slice A (g d).list.length c)) := by rw [← hw1]; exact NodBox.new _ _ _
  have B1 : Hid (Below w.heap.size w w1) := by rw [← hw1]; exact (Below.refl _ _).alloc (Nat.le_refl _) _
  have x3 := X1.out.c3
  have HC := Lib.hid (W06.cut_new (.slice A (g d).list.length c) (g d).list w1 s ((hE.below B1.out).more B1.out.size) (by omega))
  have H := Lib.hid h
  have HD := Lib.hid hd
  clear h hs e hE hsd hd
  generalize (g d).list.length = n0 at *
  go_enter Tryd.func71, Tryd.ntmps71
  go_wp2_with (at_lookup; refine wpList_look _ rfl _ _ 95 rfl 3 92 key_under map_under (zero_node _) mb m (held g lv) rfl HM.out d rfl (.agg #[.int .i64 (g d).kind, .int .i64 (g d).up, .string ⟨(g d).data.toArray⟩, .slice A n0 c]) HL.out ?_)
  clear hw1
  refine HC.out.mono ?_
  rintro e w2 ⟨u, rfl, hu, hnew, hb⟩
  obtain ⟨A2, c2, rfl, -, -⟩ := hu.form
  obtain ⟨q1, q2, q3, q4, q5⟩ := open_list H.out B1.out (Nat.le_refl _) _ X1.out _ hb hu hnew
  have frz := (X1.out.below hb).fr 3
  have old := (X1.out.below hb).c3
  clear hu hnew hb HM c0 x3
  generalize hL : (M06.cut (g d).list s.data.toList).length = n2 at *
  obtain ⟨w3, hw3⟩ : ∃ w3, w2.setCell ⟨w.heap.size, 3, none⟩ (.slice A2 n2 c2) = w3 := ⟨_, rfl⟩
  rw [hw3] at q1 q2 q3 q4 q5
  have M3 := Lib.hid q1
  have U3 := Lib.hid q3
  have N3 := Lib.hid q4
  have B3 := Lib.hid q5
  have y0 := q2.c0
  have y1 := q2.c1
  have y2 := q2.c2
  have y3 := q2.c3
  have c0 := q1.box.c0
  have hk := hwf.out
  clear q1 q3 q4 q5
  have hmp : MapIs w3.drew Tryd.prog 3 mb (held g lv) m := M3.out.map.keep rfl
  have hst := hmp.store (t := 95) (e := 92) key_under map_under (by unfold maxLen; omega) (n := d) hwf.out (.agg #[.int .i64 (g d).kind, .int .i64 (g d).up, .string ⟨(g d).data.toArray⟩, .slice A2 n2 c2])
  obtain ⟨w4, hrun, map4, turn4⟩ := hst
  go_wp2_with fail
  clear hw3
  go_region
  go_end0
  have e4 : (held g lv d).isSome = true := by rw [H.out.some_ HD.out]; rfl
  rw [if_pos e4] at map4
  exact ⟨rfl, _, _, Mem.stored (M3.out.keep (w' := w3.drew) (fun _ _ => rfl) (Nat.le_refl _)) (x := { g d with list := M06.cut (g d).list s.data.toList }) (u := .slice A2 n2 c2) HD.out U3.out (by rw [hL]; exact N3.out) map4 turn4,
    narrow (((Turns.new B3.out).trans (drew_turns _ _)).trans (turned_turns turn4 (Or.inl H.out.fm))), fun k hk => hk.imp id And.left⟩
/-- a local copy of a node with another directory in it, the tree as it was -/
theorem open_up (h : Mem F w sb mb g lv last m) (x : Nod) (u : Value) (d : Int) :
    Mem F ((w.alloc (.cells #[.int .i64 x.kind, .int .i64 x.up, .string ⟨x.data.toArray⟩, u] 92)).setCell ⟨w.heap.size, 1, none⟩ (.int .i64 d)) sb mb g lv last m ∧ NodBox ((w.alloc (.cells #[.int .i64 x.kind, .int .i64 x.up, .string ⟨x.data.toArray⟩, u] 92)).setCell ⟨w.heap.size, 1, none⟩ (.int .i64 d)) w.heap.size { x with up := d } u ∧ Below w.heap.size w ((w.alloc (.cells #[.int .i64 x.kind, .int .i64 x.up, .string ⟨x.data.toArray⟩, u] 92)).setCell ⟨w.heap.size, 1, none⟩ (.int .i64 d)) := by
  have hB : Below w.heap.size w ((w.alloc (.cells #[.int .i64 x.kind, .int .i64 x.up, .string ⟨x.data.toArray⟩, u] 92)).setCell ⟨w.heap.size, 1, none⟩ (.int .i64 d)) := ((Below.refl _ _).alloc (Nat.le_refl _) _).setCell (Nat.le_refl _) _
  exact ⟨h.below hB, (NodBox.new w x u).set1 d, hB⟩
set_option maxHeartbeats 4000000 in
set_option maxRecDepth 100000 in
theorem hang_any (h : Mem F w sb mb g lv last m) (hs : Short g) (hm : m ≤ 1073741824) (d : Int) (s : ByteArray) (n : Int) (hd : (g d).kind ≠ 0) (hn : (g n).kind ≠ 0) :
    Calls Tryd.prog 53 #[.pointer (some ⟨sb, 0, none⟩), .int .i64 d, .string s, .int .i64 n] w fun e w' => e = .returned (.tuple #[]) ∧ Left F w w' sb mb (hangN g d s.data.toList n) last m := by
  obtain ⟨A, c, e⟩ := h.form d
  have hE := h.list d
  have HL := Lib.hid (h.look d)
  rw [e] at hE HL
  have c0 := h.box.c0
  have HM := Lib.hid h.map
  have hsd := hs d
  have hwf := Lib.hid (h.wf hd)
  have hwn := Lib.hid (h.wf hn)
  obtain ⟨w1, hw1⟩ : ∃ w1, w.alloc (.cells #[.int .i64 (g d).kind, .int .i64 (g d).up, .string ⟨(g d).data.toArray⟩, .slice A (g d).list.length c] 92) = w1 := ⟨_, rfl⟩
  have X1 : Hid (NodBox w1 w.heap.size (g d) (.slice A (g d).list.length c)) := by rw [← hw1]; exact NodBox.new _ _ _
  have B1 : Hid (Below w.heap.size w w1) := by rw [← hw1]; exact (Below.refl _ _).alloc (Nat.le_refl _) _
  have x3 := X1.out.c3
  have HC := Lib.hid (W06.put_new (.slice A (g d).list.length c) (g d).list w1 s n ((hE.below B1.out).more B1.out.size) (by omega))
  have H := Lib.hid h
  have HD := Lib.hid hd
  have HN := Lib.hid hn
  clear h hs e hE hsd hd hn
  generalize (g d).list.length = n0 at *
  go_enter Tryd.func53, Tryd.ntmps53
  go_wp2_with (at_lookup; refine wpList_look _ rfl _ _ 95 rfl 3 92 key_under map_under (zero_node _) mb m (held g lv) rfl HM.out d rfl (.agg #[.int .i64 (g d).kind, .int .i64 (g d).up, .string ⟨(g d).data.toArray⟩, .slice A n0 c]) HL.out ?_)
  clear hw1
  refine HC.out.mono ?_
  rintro e w2 ⟨u, rfl, hu, hnew, hb⟩
  obtain ⟨A2, c2, rfl, -, -⟩ := hu.form
  obtain ⟨q1, q2, q3, q4, q5⟩ := open_list H.out B1.out (Nat.le_refl _) _ X1.out _ hb hu hnew
  have frz := (X1.out.below hb).fr 3
  have old := (X1.out.below hb).c3
  clear hu hnew hb HM c0 x3 HC X1 HL
  generalize hL : (M06.put (g d).list (s.data.toList, n)).length = n2 at *
  have HLL := Lib.hid hL
  clear hL
  obtain ⟨w3, hw3⟩ : ∃ w3, w2.setCell ⟨w.heap.size, 3, none⟩ (.slice A2 n2 c2) = w3 := ⟨_, rfl⟩
  rw [hw3] at q1 q2 q3 q4 q5
  have M3 := Lib.hid q1
  have U3 := Lib.hid q3
  have N3 := Lib.hid q4
  have B3 := Lib.hid q5
  have y0 := q2.c0
  have y1 := q2.c1
  have y2 := q2.c2
  have y3 := q2.c3
  have c0 := q1.box.c0
  clear q1 q2 q3 q4 q5
  have hmp : MapIs w3.drew Tryd.prog 3 mb (held g lv) m := M3.out.map.keep rfl
  have hst := hmp.store (t := 95) (e := 92) key_under map_under (by unfold maxLen; omega) (n := d) hwf.out (.agg #[.int .i64 (g d).kind, .int .i64 (g d).up, .string ⟨(g d).data.toArray⟩, .slice A2 n2 c2])
  obtain ⟨w4, hrun, map4, turn4⟩ := hst
  have e4 : (held g lv d).isSome = true := by rw [H.out.some_ HD.out]; rfl
  rw [if_pos e4] at map4
  have M4 := Lib.hid (Mem.stored (M3.out.keep (w' := w3.drew) (fun _ _ => rfl) (Nat.le_refl _)) (x := { g d with list := M06.put (g d).list (s.data.toList, n) }) (u := .slice A2 n2 c2) HD.out U3.out (by rw [HLL.out]; exact N3.out) map4 turn4)
  have T4 := Lib.hid (((Turns.new (T := fun k => F k ∨ w.heap.size ≤ k) B3.out).trans (drew_turns _ _)).trans (turned_turns turn4 (Or.inl H.out.fm)))
  clear map4 turn4 hmp e4
  go_wp2_with fail
  clear hw3
  go_region
  clear hrun y0 y1 y2 y3 c0 frz old
  -- the node itself
  obtain ⟨g1, hg1⟩ : ∃ g1, upd g d { g d with list := M06.put (g d).list (s.data.toList, n) } = g1 := ⟨_, rfl⟩
  have HG : Hid (hangN g d s.data.toList n = upd g1 n { g1 n with up := d }) := by rw [← hg1]; rfl
  have hk1 : Hid ((g1 n).kind ≠ 0) := by
    rw [← hg1]
    show (upd g d _ n).kind ≠ 0
    unfold upd
    split
    · exact HD.out
    · exact HN.out
  rw [hg1] at M4
  generalize upd lv d (.slice A2 n2 c2) = lv1 at *
  have HF : Hid (∀ k, More F w.heap.size w3 k → F k ∨ w.heap.size ≤ k) := fun k hk => hk.imp id And.left
  clear hg1 M3 U3 N3 B3
  generalize More F w.heap.size w3 = F1 at *
  obtain ⟨A4, c4, e⟩ := M4.out.form n
  have HL := Lib.hid (M4.out.look n)
  have U4 := Lib.hid (M4.out.list n)
  have N4 := Lib.hid (fun b o c d h0 => M4.out.at_ n b o c d h0)
  rw [e] at HL U4 N4
  have HM := Lib.hid M4.out.map
  have c0 := M4.out.box.c0
  generalize hL : (g1 n).list.length = n4 at *
  have HLL := Lib.hid hL
  clear hL e
  obtain ⟨q1, q2, q5⟩ := open_up M4.out (g1 n) (.slice A4 n4 c4) d
  obtain ⟨w6, hw6⟩ : ∃ w6, (w4.alloc (.cells #[.int .i64 (g1 n).kind, .int .i64 (g1 n).up, .string ⟨(g1 n).data.toArray⟩, .slice A4 n4 c4] 92)).setCell ⟨w4.heap.size, 1, none⟩ (.int .i64 d) = w6 := ⟨_, rfl⟩
  rw [hw6] at q1 q2 q5
  have M6 := Lib.hid q1
  have B6 := Lib.hid q5
  have y0 := q2.c0
  have y1 := q2.c1
  have y2 := q2.c2
  have y3 := q2.c3
  have d0 := q1.box.c0
  clear q1 q2 q5
  have hmp : MapIs w6.drew Tryd.prog 3 mb (held g1 lv1) m := M6.out.map.keep rfl
  have hst := hmp.store (t := 95) (e := 92) key_under map_under (by unfold maxLen; omega) (n := n) hwn.out (.agg #[.int .i64 (g1 n).kind, .int .i64 d, .string ⟨(g1 n).data.toArray⟩, .slice A4 n4 c4])
  obtain ⟨w7, hrun, map7, turn7⟩ := hst
  go_wp2_with (at_lookup; refine wpList_look _ rfl _ _ 95 rfl 3 92 key_under map_under (zero_node _) mb m (held g1 lv1) rfl HM.out n rfl (.agg #[.int .i64 (g1 n).kind, .int .i64 (g1 n).up, .string ⟨(g1 n).data.toArray⟩, .slice A4 n4 c4]) HL.out ?_)
  clear hw6
  go_region
  go_end0
  have e4 : (held g1 lv1 n).isSome = true := by rw [M4.out.some_ hk1.out]; rfl
  rw [if_pos e4] at map7
  rw [HG.out]
  exact ⟨rfl, _, _, Mem.stored (M6.out.keep (w' := w6.drew) (fun _ _ => rfl) (Nat.le_refl _)) (x := { g1 n with up := d }) (u := .slice A4 n4 c4) hk1.out ((U4.out.below B6.out).more B6.out.size) (by rw [HLL.out]; exact N4.out) map7 turn7,
    narrow (((T4.out.trans (Turns.new B6.out)).trans (drew_turns _ _)).trans (turned_turns turn7 (Or.inl H.out.fm))), HF.out⟩
end
end Go.Proofs.YtdnedeeocpaolaaDoor.W07
