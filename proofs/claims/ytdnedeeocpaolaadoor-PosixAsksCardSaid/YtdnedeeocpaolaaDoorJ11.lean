/-
  Texts joined, in build order, each with its own comment and its own conditions: W09Ref.
-/
import Derived.Test.YtdnedeeocpaolaaDoorJ07
import Derived.Test.YtdnedeeocpaolaaDoorJ10
import Derived.Test.YtdnedeeocpaolaaDoorJ03
/-
  Layer 9 (posix), walks: the plain answers Stat, Data, List; new memory may be laid, nothing that was there is changed. The conditions stand in the statements.
-/
namespace Go.Proofs.YtdnedeeocpaolaaDoor.W09
set_option maxRecDepth 100000
open Go Go.RowKit Go.Proofs.YtdnedeeocpaolaaDoor.Strs Go.Proofs.YtdnedeeocpaolaaDoor.Recs Go.Proofs.YtdnedeeocpaolaaDoor.Range
open Go.Proofs.YtdnedeeocpaolaaDoor.M07 (Tr Nd nodeAt inDir Right listDir)
open Go.Proofs.YtdnedeeocpaolaaDoor.M08 Go.Proofs.YtdnedeeocpaolaaDoor.M09
open Go.Proofs.YtdnedeeocpaolaaDoor.W07 (Nodes nodeV TreeBox refAt_any refList_any heap_two_a heap_two_b heap_top)

open Go.Proofs.YtdnedeeocpaolaaDoor.W06 (Ents)
open Go.Proofs.YtdnedeeocpaolaaDoor.Kit (ret_str ret_bool ret_int mk_of mk_bytes ba_ext below_draws on)

/-- a box of what is told of a node -/
def StatBox (w : World) (p : Nat) (a b c : Int) : Prop := w.heap[p]? = some (.cells #[.int .i64 a, .int .i64 b, .int .i64 c] 32 (0, 0))
/-- a box of a plain node -/
def NdBox (w : World) (p : Nat) (x : Nd) : Prop := w.heap[p]? = some (.cells #[.int .i64 x.num, .int .i64 x.up, .string ⟨x.name.toArray⟩, .int .i64 x.kind, .string ⟨x.data.toArray⟩] 71 (0, 0))
section
variable {w w' : World} {p : Nat} {a b c : Int} {x : Nd}
theorem StatBox.lt (h : StatBox w p a b c) : p < w.heap.size := (Array.getElem?_eq_some_iff.1 h).1
theorem StatBox.below (h : StatBox w p a b c) (hb : Below w.heap.size w w') : StatBox w' p a b c := (hb.block _ h.lt).trans h
theorem StatBox.c0 (h : StatBox w p a b c) : w.cell? ⟨p, 0, none⟩ = some (.int .i64 a) := cell_of_row w _ 0 _ _ (0, 0) h
theorem StatBox.c1 (h : StatBox w p a b c) : w.cell? ⟨p, 1, none⟩ = some (.int .i64 b) := cell_of_row w _ 1 _ _ (0, 0) h
theorem StatBox.c2 (h : StatBox w p a b c) : w.cell? ⟨p, 2, none⟩ = some (.int .i64 c) := cell_of_row w _ 2 _ _ (0, 0) h
theorem StatBox.fr (h : StatBox w p a b c) (j : Nat) : w.frozen? ⟨p, j, none⟩ = false := frozen_of_row w _ j _ _ h
theorem NdBox.lt (h : NdBox w p x) : p < w.heap.size := (Array.getElem?_eq_some_iff.1 h).1
theorem NdBox.below (h : NdBox w p x) (hb : Below w.heap.size w w') : NdBox w' p x := (hb.block _ h.lt).trans h
theorem NdBox.c3 (h : NdBox w p x) : w.cell? ⟨p, 3, none⟩ = some (.int .i64 x.kind) := cell_of_row w _ 3 _ _ (0, 0) h
theorem NdBox.c4 (h : NdBox w p x) : w.cell? ⟨p, 4, none⟩ = some (.string ⟨x.data.toArray⟩) := cell_of_row w _ 4 _ _ (0, 0) h
end
section
variable {w w' : World} {p : Nat} {k : Int} {a b : ByteArray}
end
theorem build_stat (a b c : Int) (w : World) : (Instr.build 32 #[(0, .int .i64 a), (1, .int .i64 b), (2, .int .i64 c)]).run Tryd.prog w = .ok (.agg #[.int .i64 a, .int .i64 b, .int .i64 c]) w := by kernel_rfl
theorem build_stat0 (w : World) : (Instr.build 32 #[]).run Tryd.prog w = .ok (.agg #[.int .i64 0, .int .i64 0, .int .i64 0]) w := by kernel_rfl
theorem stored3 {w w' : World} {p : Nat} (a b c : Value) (h : Below w.heap.size w w') (hp : w.heap.size ≤ p) : Below w.heap.size w (((w'.setCell ⟨p, 0, none⟩ a).setCell ⟨p, 1, none⟩ b).setCell ⟨p, 2, none⟩ c) :=
  ((h.setCell hp a).setCell hp b).setCell hp c
theorem size_text (x : Nd) : ((⟨x.data.toArray⟩ : ByteArray).size : Int) = (x.data.length : Int) := by rw [Lib.size_eq]
set_option maxHeartbeats 4000000 in
theorem refStat_any (t : Tr) (hfit : Fit t) (htl : t.L.length ≤ 1048576) (u : Value) (s : ByteArray) (last : Bool) (w : World) (hu : Nodes w.heap.size w u t.L) :
    Calls Tryd.prog 9 #[.agg #[u, .int .i64 t.last], .string s, .bool last] w fun e w' => e = .returned (.tuple #[statV (M09.stat t s.data.toList last).1, .int .i64 (M09.stat t s.data.toList last).2]) ∧ Below w.heap.size w w' := by
  have HU := Lib.hid hu
  have HF := Lib.hid (fun (w' : World) (hb : Below w.heap.size w w') => W08.refFind_any t hfit htl u s last w' ((hu.below hb).more hb.size))
  have HAT := Lib.hid (fun (n : Int) (w' : World) (hb : Below w.heap.size w w') => refAt_any u t.L t.last n w.heap.size w' (hu.below hb) hb.size (by omega))
  have HLS := Lib.hid (fun (n : Int) (w' : World) (hb : Below w.heap.size w w') => refList_any u t.L t.last n w.heap.size w' (hu.below hb) hb.size (by omega))
  have HX : Hid (M09.stat t s.data.toList last = if (find t s.data.toList last).2 ≠ 0 then ((0, 0, 0), (find t s.data.toList last).2) else (((find t s.data.toList last).1, (nodeAt t.L (find t s.data.toList last).1).kind, if (nodeAt t.L (find t s.data.toList last).1).kind = 1 then ((listDir t.L (find t s.data.toList last).1).length : Int) else ((nodeAt t.L (find t s.data.toList last).1).data.length : Int)), 0)) := rfl
  have hlen := M07.list_len t.L (find t s.data.toList last).1
  generalize M09.stat t s.data.toList last = R at *
  generalize find t s.data.toList last = G at *
  obtain ⟨gn, ge⟩ := G
  obtain ⟨Au, cu, rfl, hu1, hu2⟩ := hu.form
  obtain ⟨w1, hw1⟩ : ∃ w1 : World, (w.alloc (.cells #[.slice Au t.L.length cu, .int .i64 t.last] 28)).alloc (.cells #[.int .i64 0, .int .i64 0, .int .i64 0] 32) = w1 := ⟨_, rfl⟩
  have B1 : Hid (Below w.heap.size w w1) := by show Below _ _ _; rw [← hw1]; exact W07.below_two _ _ _
  have TB : Hid (TreeBox w1 w.heap.size (.slice Au t.L.length cu) t.last) := by show TreeBox _ _ _ _; rw [← hw1]; exact heap_two_a _ _ _
  have SB : Hid (StatBox w1 (w.heap.size + 1) 0 0 0) := by show StatBox _ _ _ _ _; rw [← hw1]; exact heap_two_b _ _ _
  have hb0 := build_stat0
  have hbs := build_stat
  have HF := Lib.hid (HF.out w1 B1.out)
  clear hu
  go_enter Tryd.func9, Tryd.ntmps9
  have t0 := TB.out.c0
  have t1 := TB.out.c1
  go_wp2_with fail
  clear hw1 t0 t1
  refine HF.out.mono ?_
  rintro e w2 ⟨rfl, hb2⟩
  have B2 := Lib.hid (on B1.out hb2)
  have TB2 := Lib.hid (TB.out.below hb2)
  have SB2 := Lib.hid (SB.out.below hb2)
  clear hb2 TB SB HF
  have t0 := TB2.out.c0
  have t1 := TB2.out.c1
  have s0 := SB2.out.c0
  have s1 := SB2.out.c1
  have s2 := SB2.out.c2
  have f0 := SB2.out.fr 0
  have f1 := SB2.out.fr 1
  have f2 := SB2.out.fr 2
  by_cases he : ge = 0
  · have te : (ge != 0) = false := by simp [he]
    have HX : Hid (R = ((gn, (nodeAt t.L gn).kind, if (nodeAt t.L gn).kind = 1 then ((listDir t.L gn).length : Int) else ((nodeAt t.L gn).data.length : Int)), 0)) := HX.out.trans (if_neg (fun h => h he))
    have HA := Lib.hid (HAT.out gn w2 B2.out)
    have HL := Lib.hid (HLS.out gn)
    have hlen : (listDir t.L gn).length ≤ t.L.length := hlen
    have HSZ := Lib.hid (size_text (nodeAt t.L gn))
    generalize nodeAt t.L gn = x at *
    generalize listDir t.L gn = LS at *
    unfold nodeV at HA
    clear he HAT HLS
    go_wp2_with fail
    clear t0 t1 s0 s1 s2 f0 f1 f2
    refine HA.out.mono ?_
    rintro e w3 ⟨rfl, hb3⟩
    obtain ⟨w4, hw4⟩ : ∃ w4 : World, w3.alloc (.cells #[.int .i64 x.num, .int .i64 x.up, .string ⟨x.name.toArray⟩, .int .i64 x.kind, .string ⟨x.data.toArray⟩] 71) = w4 := ⟨_, rfl⟩
    have hb4 : Below w2.heap.size w2 w4 := by rw [← hw4]; exact hb3.alloc hb3.size _
    have NB : Hid (NdBox w4 w3.heap.size x) := by show NdBox _ _ _; rw [← hw4]; exact heap_top _ _
    have B4 := Lib.hid (on B2.out hb4)
    have TB4 := Lib.hid (TB2.out.below hb4)
    have SB4 := Lib.hid (SB2.out.below hb4)
    clear hb3 hb4 TB2 SB2 HA
    have t0 := TB4.out.c0
    have t1 := TB4.out.c1
    have n3 := NB.out.c3
    have n4 := NB.out.c4
    by_cases hk : x.kind = 1
    · have tk : (x.kind == 1) = true := by simp [hk]
      have HX : Hid (R = ((gn, x.kind, (LS.length : Int)), 0)) := by have := HX.out; rw [if_pos hk] at this; exact this
      have HL := Lib.hid (HL.out w4 B4.out)
      clear hk
      go_wp2_with fail
      clear hw4 t0 t1 n3 n4
      refine HL.out.mono ?_
      rintro e w5 ⟨u5, rfl, hu5, hb5⟩
      obtain ⟨A5, c5, rfl, h51, h52⟩ := hu5.form
      have NB5 := NB.out.below hb5
      have SB5 := SB4.out.below hb5
      have B5 := Lib.hid (on B4.out hb5)
      have n3 := NB5.c3
      have n4 := NB5.c4
      have s0 := SB5.c0
      have s1 := SB5.c1
      have s2 := SB5.c2
      have f0 := SB5.fr 0
      have f1 := SB5.fr 1
      have f2 := SB5.fr 2
      clear hb5 hu5 NB SB4 HL NB5 SB5
      go_wp2_with fail
      refine bodyPost_ret_by (v := .tuple #[.agg #[.int .i64 gn, .int .i64 x.kind, .int .i64 (LS.length : Int)], .int .i64 0]) ?_ rfl ?_
      · rw [results_cell_tmp rfl]
        go_simp
      · rw [HX.out]
        exact ⟨rfl, stored3 _ _ _ B5.out (by omega)⟩
    · have tk : (x.kind == 1) = false := by simpa using hk
      have HX : Hid (R = ((gn, x.kind, (x.data.length : Int)), 0)) := by have := HX.out; rw [if_neg hk] at this; exact this
      have s0 := SB4.out.c0
      have s1 := SB4.out.c1
      have s2 := SB4.out.c2
      have f0 := SB4.out.fr 0
      have f1 := SB4.out.fr 1
      have f2 := SB4.out.fr 2
      clear hk
      rw [← HSZ.out] at HX
      go_wp2_with fail
      refine bodyPost_ret_by (v := .tuple #[.agg #[.int .i64 gn, .int .i64 x.kind, .int .i64 ((⟨x.data.toArray⟩ : ByteArray).size : Int)], .int .i64 0]) ?_ rfl ?_
      · rw [results_cell_tmp rfl]
        go_simp
      · rw [HX.out]
        exact ⟨rfl, stored3 _ _ _ B4.out (by omega)⟩
  · have te : (ge != 0) = true := by simpa using he
    have HX : Hid (R = ((0, 0, 0), ge)) := HX.out.trans (if_pos he)
    clear he HAT HLS
    go_wp2_with fail
    refine bodyPost_ret_by (v := .tuple #[.agg #[.int .i64 0, .int .i64 0, .int .i64 0], .int .i64 ge]) ?_ rfl ?_
    · rw [results_cell_tmp rfl]
      go_simp
    · rw [HX.out]
      exact ⟨rfl, stored3 _ _ _ B2.out (by omega)⟩
theorem data_stat (t : Tr) (p : Bytes) (last : Bool) (kind other : Int) : M09.data t p last kind other = if (M09.stat t p last).2 ≠ 0 then ([], (M09.stat t p last).2) else if (M09.stat t p last).1.2.1 ≠ kind then ([], other) else ((nodeAt t.L (M09.stat t p last).1.1).data, 0) := by
  unfold M09.data M09.stat
  by_cases h : (find t p last).2 = 0 <;> simp [h]
theorem list_stat (t : Tr) (p : Bytes) : M09.list t p = if (M09.stat t p true).2 ≠ 0 then ([], (M09.stat t p true).2) else if (M09.stat t p true).1.2.1 ≠ 1 then ([], 7) else ((listDir t.L (M09.stat t p true).1.1).map (·.1), 0) := by
  unfold M09.list M09.stat
  by_cases h : (find t p true).2 = 0 <;> simp [h]
theorem ret_data {a : ByteArray} {b : Int} {r : Bytes × Int} (h : r = (a.data.toList, b)) : Ending.returned (.tuple #[.string a, .int .i64 b]) = .returned (.tuple #[.string ⟨r.1.toArray⟩, .int .i64 r.2]) := by
  rw [h]
set_option maxHeartbeats 4000000 in
theorem refData_any (t : Tr) (hfit : Fit t) (htl : t.L.length ≤ 1048576) (u : Value) (s : ByteArray) (last : Bool) (kind other : Int) (w : World) (hu : Nodes w.heap.size w u t.L) :
    Calls Tryd.prog 12 #[.agg #[u, .int .i64 t.last], .string s, .bool last, .int .i64 kind, .int .i64 other] w fun e w' => e = .returned (.tuple #[.string ⟨(M09.data t s.data.toList last kind other).1.toArray⟩, .int .i64 (M09.data t s.data.toList last kind other).2]) ∧ Below w.heap.size w w' := by
  have HF := Lib.hid (fun (w' : World) (hb : Below w.heap.size w w') => refStat_any t hfit htl u s last w' ((hu.below hb).more hb.size))
  have HAT := Lib.hid (fun (n : Int) (w' : World) (hb : Below w.heap.size w w') => refAt_any u t.L t.last n w.heap.size w' (hu.below hb) hb.size (by omega))
  have HX := Lib.hid (data_stat t s.data.toList last kind other)
  generalize M09.data t s.data.toList last kind other = R at *
  generalize M09.stat t s.data.toList last = G at *
  obtain ⟨⟨gn, gk, gz⟩, ge⟩ := G
  obtain ⟨Au, cu, rfl, hu1, hu2⟩ := hu.form
  obtain ⟨w1, hw1⟩ : ∃ w1 : World, w.alloc (.cells #[.slice Au t.L.length cu, .int .i64 t.last] 28) = w1 := ⟨_, rfl⟩
  have B1 : Hid (Below w.heap.size w w1) := by show Below _ _ _; rw [← hw1]; exact W07.below_one _ _
  have TB : Hid (TreeBox w1 w.heap.size (.slice Au t.L.length cu) t.last) := by show TreeBox _ _ _ _; rw [← hw1]; exact heap_top _ _
  have HF := Lib.hid (HF.out w1 B1.out)
  clear hu
  have t0 := TB.out.c0
  have t1 := TB.out.c1
  go_enter Tryd.func12, Tryd.ntmps12
  go_wp2_with fail
  clear hw1 t0 t1
  refine HF.out.mono ?_
  rintro e w2 ⟨rfl, hb2⟩
  obtain ⟨w3, hw3⟩ : ∃ w3 : World, w2.alloc (.cells #[.int .i64 gn, .int .i64 gk, .int .i64 gz] 32) = w3 := ⟨_, rfl⟩
  have hb3 : Below w1.heap.size w1 w3 := by rw [← hw3]; exact hb2.alloc hb2.size _
  have SB : Hid (StatBox w3 w2.heap.size gn gk gz) := by show StatBox _ _ _ _ _; rw [← hw3]; exact heap_top _ _
  have B3 := Lib.hid (on B1.out hb3)
  have TB3 := Lib.hid (TB.out.below hb3)
  clear hb2 hb3 TB B1 HF
  unfold statV
  have t0 := TB3.out.c0
  have t1 := TB3.out.c1
  have s0 := SB.out.c0
  have s1 := SB.out.c1
  by_cases he : ge = 0
  · have te : (ge != 0) = false := by simp [he]
    have HX : Hid (R = if gk ≠ kind then ([], other) else ((nodeAt t.L gn).data, 0)) := HX.out.trans (if_neg (fun h => h he))
    by_cases hk : gk = kind
    · have tk : (gk != kind) = false := by simp [hk]
      have HX : Hid (R = ((nodeAt t.L gn).data, 0)) := HX.out.trans (if_neg (fun h => h hk))
      have HA := Lib.hid (HAT.out gn w3 B3.out)
      generalize nodeAt t.L gn = x at *
      obtain ⟨ds, hds⟩ : ∃ ds : ByteArray, ds.data.toList = x.data := ⟨⟨x.data.toArray⟩, rfl⟩
      unfold nodeV at HA
      rw [mk_of hds] at HA
      rw [← hds] at HX
      have hfd := fun (w : World) => W07.field_data x.num x.up ⟨x.name.toArray⟩ x.kind ds w
      clear he hk HAT hds
      go_wp2_with fail
      clear hw3
      refine HA.out.mono ?_
      rintro e w4 ⟨rfl, hb4⟩
      have B4 := Lib.hid (on B3.out hb4)
      clear hb4 t0 t1 s0 s1
      go_wp2_with fail
      go_ret2
      exact ⟨ret_data HX.out, B4.out⟩
    · have tk : (gk != kind) = true := by simpa using hk
      have HX : Hid (R = ([], other)) := HX.out.trans (if_pos hk)
      clear he hk HAT
      go_wp2_with fail
      go_ret2
      exact ⟨ret_data (a := ⟨#[]⟩) HX.out, B3.out⟩
  · have te : (ge != 0) = true := by simpa using he
    have HX : Hid (R = ([], ge)) := HX.out.trans (if_pos he)
    clear he HAT
    go_wp2_with fail
    go_ret2
    exact ⟨ret_data (a := ⟨#[]⟩) HX.out, B3.out⟩
theorem names_next9 {LS : List M06.Ent} {k : Nat} (h : k < LS.length) : (LS.map (·.1)).take (k + 1) = (LS.map (·.1)).take k ++ [(LS[k]).1] := by
  rw [List.take_succ_eq_append_getElem (by rw [List.length_map]; exact h), List.getElem_map]
set_option maxHeartbeats 8000000 in
theorem refList9_any (t : Tr) (hfit : Fit t) (htl : t.L.length ≤ 1048576) (u : Value) (s : ByteArray) (w : World) (hu : Nodes w.heap.size w u t.L) :
    Calls Tryd.prog 15 #[.agg #[u, .int .i64 t.last], .string s] w (HandsT w (M09.list t s.data.toList)) := by
  obtain ⟨i0, hi, hz0, hz1, hz2⟩ := info_parts text_info
  have HI := Lib.hid hi
  clear hi
  have HF := Lib.hid (fun (w' : World) (hb : Below w.heap.size w w') => refStat_any t hfit htl u s true w' ((hu.below hb).more hb.size))
  have HLS := Lib.hid (fun (n : Int) (w' : World) (hb : Below w.heap.size w w') => refList_any u t.L t.last n w.heap.size w' (hu.below hb) hb.size (by omega))
  have HX := Lib.hid (list_stat t s.data.toList)
  have hlen := M07.list_len t.L (M09.stat t s.data.toList true).1.1
  generalize M09.list t s.data.toList = R at *
  generalize M09.stat t s.data.toList true = G at *
  obtain ⟨⟨gn, gk, gz⟩, ge⟩ := G
  obtain ⟨Au, cu, rfl, hu1, hu2⟩ := hu.form
  obtain ⟨w1, hw1⟩ : ∃ w1 : World, w.alloc (.cells #[.slice Au t.L.length cu, .int .i64 t.last] 28) = w1 := ⟨_, rfl⟩
  have B1 : Hid (Below w.heap.size w w1) := by show Below _ _ _; rw [← hw1]; exact W07.below_one _ _
  have TB : Hid (TreeBox w1 w.heap.size (.slice Au t.L.length cu) t.last) := by show TreeBox _ _ _ _; rw [← hw1]; exact heap_top _ _
  have HF := Lib.hid (HF.out w1 B1.out)
  clear hu
  have t0 := TB.out.c0
  have t1 := TB.out.c1
  go_enter Tryd.func15, Tryd.ntmps15
  go_wp2_with fail
  clear hw1 t0 t1
  refine HF.out.mono ?_
  rintro e w2 ⟨rfl, hb2⟩
  obtain ⟨w3, hw3⟩ : ∃ w3 : World, w2.alloc (.cells #[.int .i64 gn, .int .i64 gk, .int .i64 gz] 32) = w3 := ⟨_, rfl⟩
  have hb3 : Below w1.heap.size w1 w3 := by rw [← hw3]; exact hb2.alloc hb2.size _
  have SB : Hid (StatBox w3 w2.heap.size gn gk gz) := by show StatBox _ _ _ _ _; rw [← hw3]; exact heap_top _ _
  have B3 := Lib.hid (on B1.out hb3)
  have TB3 := Lib.hid (TB.out.below hb3)
  clear hb2 hb3 TB B1 HF
  unfold statV
  have t0 := TB3.out.c0
  have t1 := TB3.out.c1
  have s0 := SB.out.c0
  have s1 := SB.out.c1
  by_cases he : ge = 0
  · have te : (ge == 0) = true := by simp [he]
    subst he
    have HX : Hid (R = if gk ≠ 1 then ([], 7) else ((listDir t.L gn).map (·.1), 0)) := HX.out
    by_cases hk : gk = 1
    · have tk : (gk != 1) = false := by simp [hk]
      have HX : Hid (R = ((listDir t.L gn).map (·.1), 0)) := HX.out.trans (if_neg (fun h => h hk))
      have hlen : (listDir t.L gn).length ≤ t.L.length := hlen
      have HL := Lib.hid (HLS.out gn w3 B3.out)
      generalize listDir t.L gn = LS at *
      clear hk HLS
      go_wp2_with fail
      clear hw3
      refine HL.out.mono ?_
      rintro e w4 ⟨u4, rfl, hu4, hb4⟩
      have B4 := Lib.hid (on B3.out hb4)
      have E4 := Lib.hid hu4
      obtain ⟨A4, c4, rfl, hc2, hc3⟩ := hu4.form
      unfold maxLen at hc3
      clear hb4 hu4 t0 t1 s0 s1 HL
      generalize hm : LS.length = m at *
      have HM := Lib.hid hm
      clear hm
      go_wp2_with fail
      go_loopw [8, 10] (fun u8 u10 wr => ∃ (k : Nat), k ≤ m ∧ u10 = .int .i64 k ∧ Hid (wr.ownsRow w4.heap.size 9 1 u8 ((LS.map (·.1)).take k).length (((LS.map (·.1)).take k).map strV)) ∧ Hid (Below w4.heap.size w4 wr)) (fun _ u10 _ => m - (intOf u10).toNat)
      case atStart => exact ⟨0, Nat.zero_le _, rfl, World.ownsRow_nil _ _ _ _, Below.refl _ _⟩
      case round =>
        obtain ⟨k, hk, rfl, hown, hb5⟩ := hrel
        by_cases hlt : k < m
        · obtain ⟨b, o, hl1, q, rfl, hbl, hq, hc0, hc1⟩ := W06.Ents.at_ (E4.out.below hb5.out) hlt
          have HN := Lib.hid (names_next9 hl1)
          rw [← hq] at HN
          have hol : ((LS.map (·.1)).take k).length ≤ 1048576 := by rw [List.length_take, List.length_map]; omega
          generalize (LS.map (·.1)).take k = out at *
          have hsz := hb5.out.size
          clear hq hbl
          go_wp2_with (at_builtin; refine wpList_append_own _ rfl (.tmp 37) (.tmp 43) 42 rfl w4.heap.size 9 i0 (.string ⟨#[]⟩) 1 16 Tryd.underlying42 HI.out hz0 hz1 hz2 rfl (by decide) _ _ _ rfl (hown.out.alloc _) ⟨_, 0, none⟩ 1 1 [.string q] rfl rfl (cell_one_new _ _ _) (by intro u hu; simp at hu; subst hu; rfl) (by unfold maxLen; omega) (by omega) (by simp; omega) ?_; intro v1 w6 hown1 hgrow1 _)
          have B6 := Lib.hid (below_more hb5.out hown.out hgrow1)
          have O6 := Lib.hid (own_more hown1)
          rw [← HN.out] at O6
          clear hown1 hgrow1
          go_wp2_with fail
          go_roundw
          case rel => exact ⟨k + 1, by omega, by go_num, O6.out, B6.out⟩
          case measure => simp [intOf]; omega
        · have hz : (LS.map (·.1)).take k = LS.map (·.1) := List.take_of_length_le (by rw [List.length_map, HM.out]; omega)
          rw [hz] at hown
          clear hz
          go_wp2_with fail
          go_ret2
          rw [HX.out]
          exact ⟨_, rfl, Texts.of_own hown.out, on B4.out hb5.out⟩
    · have tk : (gk != 1) = true := by simpa using hk
      have HX : Hid (R = ([], 7)) := HX.out.trans (if_pos hk)
      clear hk HLS
      go_wp2_with fail
      go_ret2
      rw [HX.out]
      exact ⟨_, rfl, texts_nil _ _, B3.out⟩
  · have te : (ge == 0) = false := by simpa using he
    have te2 : (ge != 0) = true := by simpa using he
    have HX : Hid (R = ([], ge)) := HX.out.trans (if_pos he)
    clear he HLS
    go_wp2_with fail
    go_ret2
    rw [HX.out]
    exact ⟨_, rfl, texts_nil _ _, B3.out⟩
end Go.Proofs.YtdnedeeocpaolaaDoor.W09
