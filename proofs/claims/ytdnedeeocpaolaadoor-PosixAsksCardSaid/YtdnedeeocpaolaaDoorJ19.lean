/-
  Texts joined, in build order, each with its own comment and its own conditions: W09Told, W09Ways.
-/
import Derived.Test.YtdnedeeocpaolaaDoorJ11
import Derived.Test.YtdnedeeocpaolaaDoorJ17
/-
  Layer 9 (posix), walks of the landed code: what is asked of a node by a function that is handed on (ask): Lstat, Stat, Readlink, Read, List; Same. New memory may be laid, nothing that was there is changed. The conditions stand in the statements.
-/
namespace Go.Proofs.YtdnedeeocpaolaaDoor.W09
set_option maxRecDepth 100000
open Go Go.RowKit Go.Proofs.YtdnedeeocpaolaaDoor.Strs Go.Proofs.YtdnedeeocpaolaaDoor.Recs Go.Proofs.YtdnedeeocpaolaaDoor.Range
open Go.Proofs.YtdnedeeocpaolaaDoor.M07 (Tr Nd nodeAt inDir Right listDir)
open Go.Proofs.YtdnedeeocpaolaaDoor.M08 Go.Proofs.YtdnedeeocpaolaaDoor.M09
open Go.Proofs.YtdnedeeocpaolaaDoor.W07 (Small Trees Wrote listed heap_top)
open Go.Proofs.YtdnedeeocpaolaaDoor.W08 (Seeks)
open Go.Proofs.YtdnedeeocpaolaaDoor.Kit (ret_str ret_bool ret_int mk_of mk_bytes ba_ext below_draws on)

/-- a box holds a value -/
def Caught (w : World) (b : Nat) (v : Value) : Prop := w.cell? ⟨b, 0, none⟩ = some v ∧ b < w.heap.size
theorem Caught.below {w w' : World} {b : Nat} {v : Value} (h : Caught w b v) (hb : Below w.heap.size w w') : Caught w' b v := ⟨(hb.cell h.2).trans h.1, Nat.lt_of_lt_of_le h.2 hb.size⟩
theorem Caught.new (w : World) (v : Value) (t : TypeId) : Caught (w.alloc (.cells #[v] t)) w.heap.size v := ⟨(Boxed.new w t v).cell, by simp⟩
/-- Find's answer -/
def Finds (v : Value) (p : ByteArray) (last : Bool) (w : World) (n f : Int) : Prop := Calls Tryd.prog 39 #[v, .string p, .bool last] w fun e w' => e = .returned (.tuple #[.int .i64 n, .int .i64 f]) ∧ Below w.heap.size w w'
/-- what a question of a node, whose box is b, is answered with -/
def Says (f : Nat) (n : Int) (b : Nat) (w : World) (Q : World → Ending → World → Prop) : Prop := Calls Tryd.prog f #[.int .i64 n, .pointer (some ⟨b, 0, none⟩)] w (Q w)
def Txt (x : Bytes × Int) (w : World) (e : Ending) (w' : World) : Prop := e = .returned (.tuple #[.string ⟨x.1.toArray⟩, .int .i64 x.2]) ∧ Below w.heap.size w w'
def Num (x : Int) (w : World) (e : Ending) (w' : World) : Prop := e = .returned (.int .i64 x) ∧ Below w.heap.size w w'
def Sta (x : (Int × Int × Int) × Int) (w : World) (e : Ending) (w' : World) : Prop := e = .returned (.tuple #[statV x.1, .int .i64 x.2]) ∧ Below w.heap.size w w'
def Lst (x : List Bytes × Int) (w : World) : Ending → World → Prop := HandsT w x
theorem Txt.on {x : Bytes × Int} {w w1 w2 : World} {e : Ending} (hb : Below w.heap.size w w1) (h : Txt x w1 e w2) : Txt x w e w2 := ⟨h.1, Kit.on hb h.2⟩
theorem Sta.on {x : (Int × Int × Int) × Int} {w w1 w2 : World} {e : Ending} (hb : Below w.heap.size w w1) (h : Sta x w1 e w2) : Sta x w e w2 := ⟨h.1, Kit.on hb h.2⟩
theorem Lst.on {x : List Bytes × Int} {w w1 w2 : World} {e : Ending} (hb : Below w.heap.size w w1) (h : Lst x w1 e w2) : Lst x w e w2 := by
  obtain ⟨u, h1, h2, h3⟩ := h
  exact ⟨u, h1, h2, Kit.on hb h3⟩
theorem names_listed {t : Tr} (h : Right t) (n : Int) : M06.names (listed t n) = (listDir t.L n).map (·.1) := by
  rw [W08.listed_is h]
  unfold M06.names
  rw [M06.all_right ((M06.right_iff _).2 (M07.list_rises t.L n))]
theorem ask_no_string {v fv : Value} {p : ByteArray} {last : Bool} {n f : Int} {w : World} (h : ∀ w', Below w.heap.size w w' → Finds v p last w' n f) (hf : f ≠ 0) :
    Calls Tryd.prog 32 #[v, .string p, .bool last, fv] w (Txt (([] : Bytes), f) w) := by
  have HF := Lib.hid (h w (Below.refl _ _))
  unfold Finds at HF
  have tf : (f != 0) = true := by simpa using hf
  clear h hf
  go_enter Tryd.func32, Tryd.ntmps32
  go_wp2_with fail
  refine HF.out.mono ?_
  rintro e w1 ⟨rfl, HB⟩
  go_wp2_with fail
  go_ret2
  exact ⟨rfl, HB⟩
theorem ask_no_list {v fv : Value} {p : ByteArray} {last : Bool} {n f : Int} {w : World} (h : ∀ w', Below w.heap.size w w' → Finds v p last w' n f) (hf : f ≠ 0) :
    Calls Tryd.prog 36 #[v, .string p, .bool last, fv] w (Lst (([] : List Bytes), f) w) := by
  have HF := Lib.hid (h w (Below.refl _ _))
  unfold Finds at HF
  have tf : (f != 0) = true := by simpa using hf
  clear h hf
  go_enter Tryd.func36, Tryd.ntmps36
  go_wp2_with fail
  refine HF.out.mono ?_
  rintro e w1 ⟨rfl, HB⟩
  go_wp2_with fail
  go_ret2
  exact ⟨_, rfl, texts_nil _ _, HB⟩
theorem ask_no_stat {v fv : Value} {p : ByteArray} {last : Bool} {n f : Int} {w : World} (h : ∀ w', Below w.heap.size w w' → Finds v p last w' n f) (hf : f ≠ 0) :
    Calls Tryd.prog 58 #[v, .string p, .bool last, fv] w (Sta ((((0 : Int), (0 : Int), (0 : Int)), f) : (Int × Int × Int) × Int) w) := by
  obtain ⟨w1, hw1⟩ : ∃ w1 : World, w.alloc (.cells #[.int .i64 0, .int .i64 0, .int .i64 0] 32) = w1 := ⟨_, rfl⟩
  have B1 : Hid (Below w.heap.size w w1) := by show Below _ _ _; rw [← hw1]; exact W07.below_one _ _
  have SB : Hid (StatBox w1 w.heap.size 0 0 0) := by show StatBox _ _ _ _ _; rw [← hw1]; exact heap_top _ _
  have HF := Lib.hid (h w1 B1.out)
  unfold Finds at HF
  have tf : (f != 0) = true := by simpa using hf
  clear h hf
  go_enter Tryd.func58, Tryd.ntmps58
  go_wp2_with fail
  refine HF.out.mono ?_
  rintro e w2 ⟨rfl, hb2⟩
  have B2 := Lib.hid (on B1.out hb2)
  have SB2 := Lib.hid (SB.out.below hb2)
  clear hb2 SB HF
  obtain ⟨w3, hw3⟩ : ∃ w3 : World, w2.alloc (.cells #[.int .i64 0, .int .i64 0, .int .i64 0] 32) = w3 := ⟨_, rfl⟩
  have hb3 : Below w2.heap.size w2 w3 := by rw [← hw3]; exact (Below.refl _ _).alloc (Nat.le_refl _) _
  have SB3 := Lib.hid (show StatBox w3 w2.heap.size 0 0 0 by rw [← hw3]; exact heap_top _ _)
  have SB2 := Lib.hid (SB2.out.below hb3)
  have B3 := Lib.hid (on B2.out hb3)
  clear hb3
  have s0 := SB2.out.c0
  have s1 := SB2.out.c1
  have s2 := SB2.out.c2
  have f0 := SB2.out.fr 0
  have f1 := SB2.out.fr 1
  have f2 := SB2.out.fr 2
  have r0 := SB3.out.c0
  have r1 := SB3.out.c1
  have r2 := SB3.out.c2
  go_wp2_with fail
  refine bodyPost_ret_by (v := .tuple #[.agg #[.int .i64 0, .int .i64 0, .int .i64 0], .int .i64 f]) ?_ rfl ?_
  · rw [results_cell_tmp rfl]
    go_simp
  · exact ⟨rfl, stored3 _ _ _ B3.out (Nat.le_refl _)⟩
theorem readlink1_any {Rep : (Nat → Prop) → World → Value → Tr → Prop} (C : Trees Rep) {F : Nat → Prop} {w : World} {a : Option Addr} {t : Tr} (P : Rep F w (.pointer a) t) (hs : Small t) {b : Nat} (hb : Caught w b (.pointer a)) (n : Int) :
    Says 33 n b w (Txt (if (nodeAt t.L n).kind ≠ 3 then ([], 13) else ((nodeAt t.L n).data, 0))) := by
  have HK := Lib.hid (C.kind P hs n)
  have HD := Lib.hid (fun w' (h : Below w.heap.size w w') => C.data (C.below P h) hs n)
  have HB := Lib.hid hb
  have c0 := hb.1
  clear P hb
  unfold Says Txt
  generalize nodeAt t.L n = x at *
  by_cases hk : x.kind ≠ 3
  · have tk : (x.kind != 3) = true := by simp [hk]
    rw [if_pos hk]
    clear hk
    go_enter Tryd.func33, Tryd.ntmps33
    go_wp2_with fail
    refine HK.out.mono ?_
    rintro e w1 ⟨rfl, hb1⟩
    go_wp2_with fail
    go_ret2
    exact ⟨rfl, hb1⟩
  · have tk : (x.kind != 3) = false := by simpa using hk
    rw [if_neg hk]
    clear hk
    go_enter Tryd.func33, Tryd.ntmps33
    go_wp2_with fail
    refine HK.out.mono ?_
    rintro e w1 ⟨rfl, hb1⟩
    have c1 := (HB.out.below hb1).1
    go_wp2_with fail
    refine (HD.out w1 hb1).mono ?_
    rintro e w2 ⟨rfl, hb2⟩
    go_wp2_with fail
    go_ret2
    exact ⟨rfl, on hb1 hb2⟩
theorem ask_Readlink1 {v : Value} {p : ByteArray} {last : Bool} {n : Int} {w : World} {b : Nat} {x : Bytes × Int} (h : ∀ w', Below w.heap.size w w' → Finds v p last w' n 0) (hq : ∀ w', Below w.heap.size w w' → Says 33 n b w' (Txt x)) :
    Calls Tryd.prog 32 #[v, .string p, .bool last, .func (.func 33) #[] #[.pointer (some ⟨b, 0, none⟩)]] w (Txt x w) := by
  have HF := Lib.hid (h w (Below.refl _ _))
  have HQ := Lib.hid hq
  unfold Finds at HF
  unfold Says Txt at HQ
  clear h hq
  go_enter Tryd.func32, Tryd.ntmps32
  go_wp2_with fail
  refine HF.out.mono ?_
  rintro e w1 ⟨rfl, hb⟩
  go_wp2_with fail
  refine (HQ.out w1 hb).mono ?_
  rintro e w2 ⟨rfl, hb2⟩
  go_wp2_with fail
  go_ret2
  exact ⟨rfl, on hb hb2⟩
theorem readlink_over {Rep : (Nat → Prop) → World → Value → Tr → Prop} (C : Trees Rep) (S : Seeks Rep) {F : Nat → Prop} {w : World} {a : Option Addr} {t : Tr} (P : Rep F w (.pointer a) t) (G : Good t) (p : ByteArray) (hp : p.size ≤ 1048576) :
    Calls Tryd.prog 11 #[.pointer a, .string p] w (fun e w' => e = .returned (.tuple #[.string ⟨(M09.data t p.data.toList false 3 13).1.toArray⟩, .int .i64 (M09.data t p.data.toList false 3 13).2]) ∧ Below w.heap.size w w') := by
  have HX : Hid (M09.data t p.data.toList false 3 13 = if (M08.find t p.data.toList false).2 ≠ 0 then ([], (M08.find t p.data.toList false).2) else if (nodeAt t.L (M08.find t p.data.toList false).1).kind ≠ 3 then ([], 13) else ((nodeAt t.L (M08.find t p.data.toList false).1).data, 0)) := rfl
  obtain ⟨w1, hw1⟩ : ∃ w1 : World, w.alloc (.cells #[.pointer a] 25) = w1 := ⟨_, rfl⟩
  have B1 : Hid (Below w.heap.size w w1) := by show Below _ _ _; rw [← hw1]; exact W07.below_one _ _
  have CB : Hid (Caught w1 w.heap.size (.pointer a)) := by show Caught _ _ _; rw [← hw1]; exact Caught.new _ _ _
  have P1 := Lib.hid (C.below P B1.out)
  have HS := Lib.hid (fun w' (h : Below w1.heap.size w1 w') => S.find (C.below P1.out h) G p false hp)
  have HC := Lib.hid (fun w' (h : Below w1.heap.size w1 w') => readlink1_any C (C.below P1.out h) G.small (CB.out.below h) (M08.find t p.data.toList false).1)
  have c0 := CB.out.1
  clear P G hp
  generalize M09.data t p.data.toList false 3 13 = R at *
  generalize M08.find t p.data.toList false = X at *
  obtain ⟨n, f⟩ := X
  dsimp only at HS HC HX
  by_cases hf : f = 0
  · subst hf
    replace HX := Lib.hid (HX.out.trans (if_neg (by simp)))
    rw [← HX.out] at HC
    have HA := Lib.hid (ask_Readlink1 HS.out HC.out)
    clear HS HC HX
    go_enter Tryd.func11, Tryd.ntmps11
    go_wp2_with fail
    clear hw1
    refine HA.out.mono ?_
    rintro e w2 ⟨rfl, hb2⟩
    go_wp2_with fail
    go_ret2
    exact ⟨rfl, on B1.out hb2⟩
  · have HA := Lib.hid (fun fv => ask_no_string (fv := fv) HS.out hf)
    replace HX := Lib.hid (HX.out.trans (if_pos hf))
    clear HS HC hf
    go_enter Tryd.func11, Tryd.ntmps11
    go_wp2_with fail
    clear hw1
    refine (HA.out _).mono ?_
    rintro e w2 ⟨rfl, hb2⟩
    go_wp2_with fail
    go_ret2
    rw [HX.out]
    exact ⟨rfl, on B1.out hb2⟩
theorem read1_any {Rep : (Nat → Prop) → World → Value → Tr → Prop} (C : Trees Rep) {F : Nat → Prop} {w : World} {a : Option Addr} {t : Tr} (P : Rep F w (.pointer a) t) (hs : Small t) {b : Nat} (hb : Caught w b (.pointer a)) (n : Int) :
    Says 35 n b w (Txt (if (nodeAt t.L n).kind = 1 then ([], 8) else ((nodeAt t.L n).data, 0))) := by
  have HK := Lib.hid (C.kind P hs n)
  have HD := Lib.hid (fun w' (h : Below w.heap.size w w') => C.data (C.below P h) hs n)
  have HB := Lib.hid hb
  have c0 := hb.1
  clear P hb
  unfold Says Txt
  generalize nodeAt t.L n = x at *
  by_cases hk : x.kind = 1
  · have tk : (x.kind == 1) = true := by simp [hk]
    rw [if_pos hk]
    clear hk
    go_enter Tryd.func35, Tryd.ntmps35
    go_wp2_with fail
    refine HK.out.mono ?_
    rintro e w1 ⟨rfl, hb1⟩
    go_wp2_with fail
    go_ret2
    exact ⟨rfl, hb1⟩
  · have tk : (x.kind == 1) = false := by simpa using hk
    rw [if_neg hk]
    clear hk
    go_enter Tryd.func35, Tryd.ntmps35
    go_wp2_with fail
    refine HK.out.mono ?_
    rintro e w1 ⟨rfl, hb1⟩
    have c1 := (HB.out.below hb1).1
    go_wp2_with fail
    refine (HD.out w1 hb1).mono ?_
    rintro e w2 ⟨rfl, hb2⟩
    go_wp2_with fail
    go_ret2
    exact ⟨rfl, on hb1 hb2⟩
theorem ask_Read1 {v : Value} {p : ByteArray} {last : Bool} {n : Int} {w : World} {b : Nat} {x : Bytes × Int} (h : ∀ w', Below w.heap.size w w' → Finds v p last w' n 0) (hq : ∀ w', Below w.heap.size w w' → Says 35 n b w' (Txt x)) :
    Calls Tryd.prog 32 #[v, .string p, .bool last, .func (.func 35) #[] #[.pointer (some ⟨b, 0, none⟩)]] w (Txt x w) := by
  have HF := Lib.hid (h w (Below.refl _ _))
  have HQ := Lib.hid hq
  unfold Finds at HF
  unfold Says Txt at HQ
  clear h hq
  go_enter Tryd.func32, Tryd.ntmps32
  go_wp2_with fail
  refine HF.out.mono ?_
  rintro e w1 ⟨rfl, hb⟩
  go_wp2_with fail
  refine (HQ.out w1 hb).mono ?_
  rintro e w2 ⟨rfl, hb2⟩
  go_wp2_with fail
  go_ret2
  exact ⟨rfl, on hb hb2⟩
theorem read_data {t : Tr} (h : Right t) (hf : Fit t) (p : Bytes) : M09.data t p true 2 8 = if (M08.find t p true).2 ≠ 0 then ([], (M08.find t p true).2) else if (nodeAt t.L (M08.find t p true).1).kind = 1 then ([], 8) else ((nodeAt t.L (M08.find t p true).1).data, 0) := by
  unfold M09.data
  by_cases he : (M08.find t p true).2 = 0
  · have := find_file h hf he
    have h0 : ¬ ((M08.find t p true).2 ≠ 0) := fun e => e he
    rw [if_neg h0, if_neg h0]
    by_cases h1 : (nodeAt t.L (M08.find t p true).1).kind = 1
    · rw [if_pos h1, if_pos (by rw [h1]; decide)]
    · rw [if_neg h1, if_neg (by omega)]
  · rw [if_pos he, if_pos he]
theorem read_over {Rep : (Nat → Prop) → World → Value → Tr → Prop} (C : Trees Rep) (S : Seeks Rep) {F : Nat → Prop} {w : World} {a : Option Addr} {t : Tr} (P : Rep F w (.pointer a) t) (G : Good t) (p : ByteArray) (hp : p.size ≤ 1048576) :
    Calls Tryd.prog 13 #[.pointer a, .string p] w (fun e w' => e = .returned (.tuple #[.string ⟨(M09.data t p.data.toList true 2 8).1.toArray⟩, .int .i64 (M09.data t p.data.toList true 2 8).2]) ∧ Below w.heap.size w w') := by
  have HX : Hid (M09.data t p.data.toList true 2 8 = if (M08.find t p.data.toList true).2 ≠ 0 then ([], (M08.find t p.data.toList true).2) else if (nodeAt t.L (M08.find t p.data.toList true).1).kind = 1 then ([], 8) else ((nodeAt t.L (M08.find t p.data.toList true).1).data, 0)) := read_data (C.right P) G.fit _
  obtain ⟨w1, hw1⟩ : ∃ w1 : World, w.alloc (.cells #[.pointer a] 25) = w1 := ⟨_, rfl⟩
  have B1 : Hid (Below w.heap.size w w1) := by show Below _ _ _; rw [← hw1]; exact W07.below_one _ _
  have CB : Hid (Caught w1 w.heap.size (.pointer a)) := by show Caught _ _ _; rw [← hw1]; exact Caught.new _ _ _
  have P1 := Lib.hid (C.below P B1.out)
  have HS := Lib.hid (fun w' (h : Below w1.heap.size w1 w') => S.find (C.below P1.out h) G p true hp)
  have HC := Lib.hid (fun w' (h : Below w1.heap.size w1 w') => read1_any C (C.below P1.out h) G.small (CB.out.below h) (M08.find t p.data.toList true).1)
  have c0 := CB.out.1
  clear P G hp
  generalize M09.data t p.data.toList true 2 8 = R at *
  generalize M08.find t p.data.toList true = X at *
  obtain ⟨n, f⟩ := X
  dsimp only at HS HC HX
  by_cases hf : f = 0
  · subst hf
    replace HX := Lib.hid (HX.out.trans (if_neg (by simp)))
    rw [← HX.out] at HC
    have HA := Lib.hid (ask_Read1 HS.out HC.out)
    clear HS HC HX
    go_enter Tryd.func13, Tryd.ntmps13
    go_wp2_with fail
    clear hw1
    refine HA.out.mono ?_
    rintro e w2 ⟨rfl, hb2⟩
    go_wp2_with fail
    go_ret2
    exact ⟨rfl, on B1.out hb2⟩
  · have HA := Lib.hid (fun fv => ask_no_string (fv := fv) HS.out hf)
    replace HX := Lib.hid (HX.out.trans (if_pos hf))
    clear HS HC hf
    go_enter Tryd.func13, Tryd.ntmps13
    go_wp2_with fail
    clear hw1
    refine (HA.out _).mono ?_
    rintro e w2 ⟨rfl, hb2⟩
    go_wp2_with fail
    go_ret2
    rw [HX.out]
    exact ⟨rfl, on B1.out hb2⟩
theorem list1_any {Rep : (Nat → Prop) → World → Value → Tr → Prop} (C : Trees Rep) {F : Nat → Prop} {w : World} {a : Option Addr} {t : Tr} (P : Rep F w (.pointer a) t) (hs : Small t) {b : Nat} (hb : Caught w b (.pointer a)) (n : Int) :
    Says 37 n b w (Lst (if (nodeAt t.L n).kind ≠ 1 then ([], 7) else ((listDir t.L n).map (·.1), 0))) := by
  have HK := Lib.hid (C.kind P hs n)
  have HL := Lib.hid (fun w' (h : Below w.heap.size w w') => C.list (C.below P h) hs n)
  have HE := Lib.hid (fun (w' : World) (u : Value) (hu : W06.Ents w'.heap.size w' u (listed t n)) => W06.names_any _ _ _ hu (Nat.le_trans (W08.listed_len hs n) (by decide)))
  rw [names_listed (C.right P)] at HE
  have HB := Lib.hid hb
  have c0 := hb.1
  clear P hb
  unfold Says Lst
  generalize nodeAt t.L n = x at *
  by_cases hk : x.kind ≠ 1
  · have tk : (x.kind != 1) = true := by simp [hk]
    rw [if_pos hk]
    clear hk
    go_enter Tryd.func37, Tryd.ntmps37
    go_wp2_with fail
    refine HK.out.mono ?_
    rintro e w1 ⟨rfl, hb1⟩
    go_wp2_with fail
    go_ret2
    exact ⟨_, rfl, texts_nil _ _, hb1⟩
  · have tk : (x.kind != 1) = false := by simpa using hk
    rw [if_neg hk]
    clear hk
    go_enter Tryd.func37, Tryd.ntmps37
    go_wp2_with fail
    refine HK.out.mono ?_
    rintro e w1 ⟨rfl, hb1⟩
    have c1 := (HB.out.below hb1).1
    go_wp2_with fail
    refine (HL.out w1 hb1).mono ?_
    rintro e w2 ⟨u, rfl, hu, hb2⟩
    go_wp2_with fail
    refine (HE.out w2 u hu).mono ?_
    rintro e w3 ⟨u3, rfl, hu3, hb3⟩
    go_wp2_with fail
    go_ret2
    exact ⟨u3, rfl, hu3, on (on hb1 hb2) hb3⟩
theorem ask_List1 {v : Value} {p : ByteArray} {last : Bool} {n : Int} {w : World} {b : Nat} {x : List Bytes × Int} (h : ∀ w', Below w.heap.size w w' → Finds v p last w' n 0) (hq : ∀ w', Below w.heap.size w w' → Says 37 n b w' (Lst x)) :
    Calls Tryd.prog 36 #[v, .string p, .bool last, .func (.func 37) #[] #[.pointer (some ⟨b, 0, none⟩)]] w (Lst x w) := by
  have HF := Lib.hid (h w (Below.refl _ _))
  have HQ := Lib.hid hq
  unfold Finds at HF
  unfold Says Lst at HQ
  clear h hq
  go_enter Tryd.func36, Tryd.ntmps36
  go_wp2_with fail
  refine HF.out.mono ?_
  rintro e w1 ⟨rfl, hb⟩
  go_wp2_with fail
  refine (HQ.out w1 hb).mono ?_
  rintro e w2 ⟨u, rfl, hu, hb2⟩
  go_wp2_with fail
  go_ret2
  exact ⟨u, rfl, hu, on hb hb2⟩
theorem list_over {Rep : (Nat → Prop) → World → Value → Tr → Prop} (C : Trees Rep) (S : Seeks Rep) {F : Nat → Prop} {w : World} {a : Option Addr} {t : Tr} (P : Rep F w (.pointer a) t) (G : Good t) (p : ByteArray) (hp : p.size ≤ 1048576) :
    Calls Tryd.prog 14 #[.pointer a, .string p] w ((HandsT w (M09.list t p.data.toList))) := by
  have HX : Hid (M09.list t p.data.toList = if (M08.find t p.data.toList true).2 ≠ 0 then ([], (M08.find t p.data.toList true).2) else if (nodeAt t.L (M08.find t p.data.toList true).1).kind ≠ 1 then ([], 7) else ((listDir t.L (M08.find t p.data.toList true).1).map (·.1), 0)) := rfl
  obtain ⟨w1, hw1⟩ : ∃ w1 : World, w.alloc (.cells #[.pointer a] 25) = w1 := ⟨_, rfl⟩
  have B1 : Hid (Below w.heap.size w w1) := by show Below _ _ _; rw [← hw1]; exact W07.below_one _ _
  have CB : Hid (Caught w1 w.heap.size (.pointer a)) := by show Caught _ _ _; rw [← hw1]; exact Caught.new _ _ _
  have P1 := Lib.hid (C.below P B1.out)
  have HS := Lib.hid (fun w' (h : Below w1.heap.size w1 w') => S.find (C.below P1.out h) G p true hp)
  have HC := Lib.hid (fun w' (h : Below w1.heap.size w1 w') => list1_any C (C.below P1.out h) G.small (CB.out.below h) (M08.find t p.data.toList true).1)
  have c0 := CB.out.1
  clear P G hp
  generalize M09.list t p.data.toList = R at *
  generalize M08.find t p.data.toList true = X at *
  obtain ⟨n, f⟩ := X
  dsimp only at HS HC HX
  by_cases hf : f = 0
  · subst hf
    replace HX := Lib.hid (HX.out.trans (if_neg (by simp)))
    rw [← HX.out] at HC
    have HA := Lib.hid (ask_List1 HS.out HC.out)
    clear HS HC HX
    go_enter Tryd.func14, Tryd.ntmps14
    go_wp2_with fail
    clear hw1
    refine HA.out.mono ?_
    rintro e w2 ⟨u, rfl, hu, hb2⟩
    go_wp2_with fail
    go_ret2
    exact ⟨u, rfl, hu, on B1.out hb2⟩
  · have HA := Lib.hid (fun fv => ask_no_list (fv := fv) HS.out hf)
    replace HX := Lib.hid (HX.out.trans (if_pos hf))
    clear HS HC hf
    go_enter Tryd.func14, Tryd.ntmps14
    go_wp2_with fail
    clear hw1
    refine (HA.out _).mono ?_
    rintro e w2 ⟨u, rfl, hu, hb2⟩
    go_wp2_with fail
    go_ret2
    rw [HX.out]
    exact ⟨u, rfl, hu, on B1.out hb2⟩
theorem size_bytes (x : Nd) : ((⟨x.data.toArray⟩ : ByteArray).size : Int) = (x.data.length : Int) := by rw [Lib.size_eq]
theorem stored_stat {w' : World} {p : Nat} {a b c x y z : Int} (h : StatBox w' p a b c) : StatBox (((w'.setCell ⟨p, 0, none⟩ (.int .i64 x)).setCell ⟨p, 1, none⟩ (.int .i64 y)).setCell ⟨p, 2, none⟩ (.int .i64 z)) p x y z :=
  W07.set_heap (W07.set_heap (W07.set_heap h 0 (.int .i64 x)) 1 (.int .i64 y)) 2 (.int .i64 z)
theorem stored_size {w' : World} {p : Nat} {a b c z : Int} (h : StatBox w' p a b c) : StatBox (w'.setCell ⟨p, 2, none⟩ (.int .i64 z)) p a b z := W07.set_heap h 2 (.int .i64 z)
set_option maxHeartbeats 4000000 in
theorem stat1_any {Rep : (Nat → Prop) → World → Value → Tr → Prop} (C : Trees Rep) {F : Nat → Prop} {w : World} {a : Option Addr} {t : Tr} (P : Rep F w (.pointer a) t) (hs : Small t) {b : Nat} (hb : Caught w b (.pointer a)) (n : Int) :
    Says 59 n b w (Sta ((n, (nodeAt t.L n).kind, M09.sizeOf t n), 0)) := by
  have HSZ : Hid (M09.sizeOf t n = if (nodeAt t.L n).kind = 1 then ((listed t n).length : Int) else ((nodeAt t.L n).data.length : Int)) := by show _ = _; rw [W08.listed_is (C.right P)]; rfl
  have HTX := Lib.hid (size_bytes (nodeAt t.L n))
  have HLL := W08.listed_len hs n
  have HKK := Lib.hid (fun w' (h : Below w.heap.size w w') => C.kind (C.below P h) hs n)
  have HDD := Lib.hid (fun w' (h : Below w.heap.size w w') => C.data (C.below P h) hs n)
  have HLI := Lib.hid (fun w' (h : Below w.heap.size w w') => C.list (C.below P h) hs n)
  have HB := Lib.hid hb
  have hbl := hb.2
  clear P hb
  unfold Says Sta statV
  generalize M09.sizeOf t n = SZ at *
  generalize listed t n = LS at *
  generalize nodeAt t.L n = x at *
  obtain ⟨xb, hxb⟩ : ∃ d : ByteArray, (⟨x.data.toArray⟩ : ByteArray) = d := ⟨_, rfl⟩
  rw [hxb] at HTX HDD
  clear hxb
  obtain ⟨w1, hw1⟩ : ∃ w1 : World, w.alloc (.cells #[.int .i64 0, .int .i64 0, .int .i64 0] 32) = w1 := ⟨_, rfl⟩
  have B1 : Hid (Below w.heap.size w w1) := by show Below _ _ _; rw [← hw1]; exact W07.below_one _ _
  have RB : Hid (StatBox w1 w.heap.size 0 0 0) := by show StatBox _ _ _ _ _; rw [← hw1]; exact heap_top _ _
  have z1 : Hid (w1.heap.size = w.heap.size + 1) := by show _ = _; rw [← hw1]; exact World.size_alloc _ _
  obtain ⟨wA, hwA⟩ : ∃ wA : World, w1.alloc (.cells #[.int .i64 0, .int .i64 0, .int .i64 0] 32) = wA := ⟨_, rfl⟩
  have bA : Hid (Below w1.heap.size w1 wA) := by show Below _ _ _; rw [← hwA]; exact W07.below_one _ _
  have SA : Hid (StatBox wA w1.heap.size 0 0 0) := by show StatBox _ _ _ _ _; rw [← hwA]; exact heap_top _ _
  have cW : w1.cell? ⟨b, 0, none⟩ = some (.pointer a) := (HB.out.below B1.out).1
  have cA : wA.cell? ⟨b, 0, none⟩ = some (.pointer a) := ((HB.out.below B1.out).below bA.out).1
  have HKW := Lib.hid (HKK.out (w1.drewN 1) (B1.out.trans ((below_draws w1 1).mono B1.out.size)))
  have HKA := Lib.hid (HKK.out (wA.drewN 1) (on B1.out (on bA.out (below_draws wA 1))))
  have hbs := build_stat
  obtain ⟨pA, hpA⟩ : ∃ p, w1.heap.size = p := ⟨_, rfl⟩
  have HPA : Hid (w.heap.size + 1 ≤ pA) := by have := z1.out; show _ ≤ _; omega
  rw [hpA] at SA
  go_enter Tryd.func59, Tryd.ntmps59
  go_wp2_with fail
  clear hw1
  go_region_held3 (fun w' => w'.cell? ⟨b, 0, none⟩ = some (.pointer a))
    (first | exact cz | exact c3N | exact c3 | exact c2A | exact c2 | exact cX | exact cA | exact cW | go_keep)
    (first
      | (go_at_call 22; refine HKA.out.mono ?_; rintro e xA ⟨rfl, hbx⟩; have BX : Below w1.heap.size w1 xA := on bA.out ((below_draws wA 1).trans hbx); have SX := Lib.hid (SA.out.below ((below_draws wA 1).trans hbx)); have cX := ((HB.out.below B1.out).below BX).1; have HDA := Lib.hid (HDD.out xA (on B1.out BX)))
      | (go_at_call 22; refine HKW.out.mono ?_; rintro e x2 ⟨rfl, hbx⟩; have BX : Below w1.heap.size w1 x2 := (below_draws w1 1).trans hbx; have c2 := ((HB.out.below B1.out).below BX).1; have HDW := Lib.hid (HDD.out x2 (on B1.out BX)); obtain ⟨p2, hp2⟩ : ∃ p, x2.heap.size = p := ⟨_, rfl⟩; obtain ⟨x2A, h2A⟩ : ∃ w', x2.alloc (.cells #[.int .i64 0, .int .i64 0, .int .i64 0] 32) = w' := ⟨_, rfl⟩; have b2A : Below x2.heap.size x2 x2A := (by rw [← h2A]; exact W07.below_one _ _); have S2A := Lib.hid (show StatBox x2A p2 0 0 0 by rw [← hp2, ← h2A]; exact heap_top _ _); have c2A := ((HB.out.below B1.out).below (on BX b2A)).1; have HDX := Lib.hid (HDD.out x2A (on B1.out (on BX b2A))); have BX2 := on BX b2A)
      | (go_at_call 34; refine HDA.out.mono ?_; rintro e x3 ⟨rfl, hb3⟩; have B3 := on BX hb3; have S3 := Lib.hid (SX.out.below hb3); have c3 := ((HB.out.below B1.out).below B3).1; have m0 := S3.out.c0; have m1 := S3.out.c1; have m2 := S3.out.c2; have v0 := S3.out.fr 0; have v1 := S3.out.fr 1; have v2 := S3.out.fr 2; obtain ⟨wz, hwz⟩ : ∃ w', (((x3.setCell ⟨pA, 0, none⟩ (.int .i64 n)).setCell ⟨pA, 1, none⟩ (.int .i64 x.kind)).setCell ⟨pA, 2, none⟩ (.int .i64 (xb.size : Int))) = w' := ⟨_, rfl⟩; have SZB := Lib.hid (show StatBox wz pA n x.kind (xb.size : Int) by rw [← hwz]; exact stored_stat S3.out); have BZ := Lib.hid (show Below w1.heap.size w1 wz by rw [← hwz]; exact stored3 _ _ _ (B3) (by omega)); have cz := ((HB.out.below B1.out).below BZ.out).1)
      | (go_at_call 34; refine HDW.out.mono ?_; rintro e x3 ⟨rfl, hb3⟩; have B3 := on BX hb3; have c3 := ((HB.out.below B1.out).below B3).1; obtain ⟨p3, hp3⟩ : ∃ p, x3.heap.size = p := ⟨_, rfl⟩; obtain ⟨x3N, h3N⟩ : ∃ w', x3.alloc (.cells #[.int .i64 0, .int .i64 0, .int .i64 0] 32) = w' := ⟨_, rfl⟩; have b3N : Below x3.heap.size x3 x3N := (by rw [← h3N]; exact W07.below_one _ _); have S3N := Lib.hid (show StatBox x3N p3 0 0 0 by rw [← hp3, ← h3N]; exact heap_top _ _); have B3N := on B3 b3N; have hz3 := B3.size; have c3N := ((HB.out.below B1.out).below B3N).1; have m0 := S3N.out.c0; have m1 := S3N.out.c1; have m2 := S3N.out.c2; have v0 := S3N.out.fr 0; have v1 := S3N.out.fr 1; have v2 := S3N.out.fr 2; obtain ⟨wz, hwz⟩ : ∃ w', (((x3N.setCell ⟨p3, 0, none⟩ (.int .i64 n)).setCell ⟨p3, 1, none⟩ (.int .i64 x.kind)).setCell ⟨p3, 2, none⟩ (.int .i64 (xb.size : Int))) = w' := ⟨_, rfl⟩; have SZB := Lib.hid (show StatBox wz p3 n x.kind (xb.size : Int) by rw [← hwz]; exact stored_stat S3N.out); have BZ := Lib.hid (show Below w1.heap.size w1 wz by rw [← hwz]; exact stored3 _ _ _ (B3N) (by omega)); have cz := ((HB.out.below B1.out).below BZ.out).1)
      | (go_at_call 34; refine HDX.out.mono ?_; rintro e x3 ⟨rfl, hb3⟩; have B3 := on BX2 hb3; have S3 := Lib.hid (S2A.out.below hb3); have hz2 := BX.size; have c3 := ((HB.out.below B1.out).below B3).1; have m0 := S3.out.c0; have m1 := S3.out.c1; have m2 := S3.out.c2; have v0 := S3.out.fr 0; have v1 := S3.out.fr 1; have v2 := S3.out.fr 2; obtain ⟨wz, hwz⟩ : ∃ w', (((x3.setCell ⟨p2, 0, none⟩ (.int .i64 n)).setCell ⟨p2, 1, none⟩ (.int .i64 x.kind)).setCell ⟨p2, 2, none⟩ (.int .i64 (xb.size : Int))) = w' := ⟨_, rfl⟩; have SZB := Lib.hid (show StatBox wz p2 n x.kind (xb.size : Int) by rw [← hwz]; exact stored_stat S3.out); have BZ := Lib.hid (show Below w1.heap.size w1 wz by rw [← hwz]; exact stored3 _ _ _ (B3) (by omega)); have cz := ((HB.out.below B1.out).below BZ.out).1))
  all_goals (
    clear m0 m1 m2 v0 v1 v2 hwz cz cW cA
    first
      | (obtain ⟨pz, hpz⟩ : ∃ p, p = p3 := ⟨_, rfl⟩; subst hpz; have HPZ : Hid (w1.heap.size ≤ pz) := (by show _ ≤ _; omega))
      | (obtain ⟨pz, hpz⟩ : ∃ p, p = p2 := ⟨_, rfl⟩; subst hpz; have HPZ : Hid (w1.heap.size ≤ pz) := (by show _ ≤ _; omega))
      | (obtain ⟨pz, hpz⟩ : ∃ p, p = pA := ⟨_, rfl⟩; subst hpz; have HPZ : Hid (w1.heap.size ≤ pz) := (by show _ ≤ _; omega))
    by_cases hk : x.kind = 1
    · have tk : (x.kind == 1) = true := by simp [hk]
      have HX : Hid (SZ = (LS.length : Int)) := HSZ.out.trans (if_pos hk)
      have HL := Lib.hid (HLI.out wz (on B1.out BZ.out))
      have m1 := SZB.out.c1
      have c0 := ((HB.out.below B1.out).below BZ.out).1
      clear hk
      go_wp2_with fail
      refine HL.out.mono ?_
      rintro e w4 ⟨u, rfl, hu, hb4⟩
      obtain ⟨A4, c4, rfl, -, -⟩ := hu.form
      have S4 := SZB.out.below hb4
      have B4 := Lib.hid (show Below w1.heap.size w1 w4 from on BZ.out hb4)
      clear hu hb4 HL m1 c0
      have n2 := S4.c2
      have f2 := S4.fr 2
      obtain ⟨w5, hw5⟩ : ∃ w', w4.setCell ⟨pz, 2, none⟩ (.int .i64 (LS.length : Int)) = w' := ⟨_, rfl⟩
      have S5 := Lib.hid (show StatBox w5 pz n x.kind (LS.length : Int) by rw [← hw5]; exact stored_size S4)
      have B5 := Lib.hid (show Below w1.heap.size w1 w5 by rw [← hw5]; exact B4.out.setCell HPZ.out _)
      have R5 := RB.out.below B5.out
      have s0 := S5.out.c0
      have s1 := S5.out.c1
      have s2 := S5.out.c2
      have r0 := R5.c0
      have r1 := R5.c1
      have r2 := R5.c2
      have g0 := R5.fr 0
      have g1 := R5.fr 1
      have g2 := R5.fr 2
      clear S4 R5
      go_wp2_with fail
      refine bodyPost_ret_by (v := .tuple #[.agg #[.int .i64 n, .int .i64 x.kind, .int .i64 (LS.length : Int)], .int .i64 0]) ?_ rfl ?_
      · rw [results_cell_tmp rfl]
        go_simp
      · rw [HX.out]
        exact ⟨rfl, stored3 _ _ _ (on B1.out B5.out) (Nat.le_refl _)⟩
    · have tk : (x.kind == 1) = false := by simpa using hk
      have HX : Hid (SZ = (xb.size : Int)) := HSZ.out.trans ((if_neg hk).trans HTX.out.symm)
      have RZ := RB.out.below BZ.out
      have s0 := SZB.out.c0
      have s1 := SZB.out.c1
      have s2 := SZB.out.c2
      have r0 := RZ.c0
      have r1 := RZ.c1
      have r2 := RZ.c2
      have g0 := RZ.fr 0
      have g1 := RZ.fr 1
      have g2 := RZ.fr 2
      clear hk RZ
      go_wp2_with fail
      refine bodyPost_ret_by (v := .tuple #[.agg #[.int .i64 n, .int .i64 x.kind, .int .i64 (xb.size : Int)], .int .i64 0]) ?_ rfl ?_
      · rw [results_cell_tmp rfl]
        go_simp
      · rw [HX.out]
        exact ⟨rfl, stored3 _ _ _ (on B1.out BZ.out) (Nat.le_refl _)⟩)
theorem ask_stat1 {v : Value} {p : ByteArray} {last : Bool} {n : Int} {w : World} {b : Nat} {x : (Int × Int × Int) × Int} (h : ∀ w', Below w.heap.size w w' → Finds v p last w' n 0) (hq : ∀ w', Below w.heap.size w w' → Says 59 n b w' (Sta x)) :
    Calls Tryd.prog 58 #[v, .string p, .bool last, .func (.func 59) #[] #[.pointer (some ⟨b, 0, none⟩)]] w (Sta x w) := by
  obtain ⟨⟨x1, x2, x3⟩, x4⟩ := x
  obtain ⟨w1, hw1⟩ : ∃ w1 : World, w.alloc (.cells #[.int .i64 0, .int .i64 0, .int .i64 0] 32) = w1 := ⟨_, rfl⟩
  have B1 : Hid (Below w.heap.size w w1) := by show Below _ _ _; rw [← hw1]; exact W07.below_one _ _
  have SB : Hid (StatBox w1 w.heap.size 0 0 0) := by show StatBox _ _ _ _ _; rw [← hw1]; exact heap_top _ _
  have HF := Lib.hid (h w1 B1.out)
  have HQ := Lib.hid hq
  unfold Finds at HF
  unfold Says Sta statV at HQ
  clear h hq
  go_enter Tryd.func58, Tryd.ntmps58
  go_wp2_with fail
  refine HF.out.mono ?_
  rintro e w2 ⟨rfl, hb2⟩
  have B2 := Lib.hid (on B1.out hb2)
  have SB2 := Lib.hid (SB.out.below hb2)
  clear hb2 SB HF hw1
  go_wp2_with fail
  refine (HQ.out w2 B2.out).mono ?_
  rintro e w3 ⟨rfl, hb3⟩
  have SB3 := Lib.hid (SB2.out.below hb3)
  have B3 := Lib.hid (on B2.out hb3)
  clear hb3
  have s0 := SB3.out.c0
  have s1 := SB3.out.c1
  have s2 := SB3.out.c2
  have f0 := SB3.out.fr 0
  have f1 := SB3.out.fr 1
  have f2 := SB3.out.fr 2
  go_wp2_with fail
  refine bodyPost_ret_by (v := .tuple #[.agg #[.int .i64 x1, .int .i64 x2, .int .i64 x3], .int .i64 x4]) ?_ rfl ?_
  · rw [results_cell_tmp rfl]
    go_simp
  · exact ⟨rfl, stored3 _ _ _ B3.out (Nat.le_refl _)⟩
theorem stats_over {Rep : (Nat → Prop) → World → Value → Tr → Prop} (C : Trees Rep) (S : Seeks Rep) {F : Nat → Prop} {w : World} {a : Option Addr} {t : Tr} (P : Rep F w (.pointer a) t) (G : Good t) (p : ByteArray) (last : Bool) (hp : p.size ≤ 1048576) :
    Calls Tryd.prog 28 #[.pointer a, .string p, .bool last] w (Sta (M09.stat t p.data.toList last) w) := by
  have HX : Hid (M09.stat t p.data.toList last = if (M08.find t p.data.toList last).2 ≠ 0 then ((0, 0, 0), (M08.find t p.data.toList last).2) else (((M08.find t p.data.toList last).1, (nodeAt t.L (M08.find t p.data.toList last).1).kind, M09.sizeOf t (M08.find t p.data.toList last).1), 0)) := rfl
  obtain ⟨w1, hw1⟩ : ∃ w1 : World, (w.alloc (.cells #[.pointer a] 25)).alloc (.cells #[.int .i64 0, .int .i64 0, .int .i64 0] 32) = w1 := ⟨_, rfl⟩
  have B1 : Hid (Below w.heap.size w w1) := by show Below _ _ _; rw [← hw1]; exact W07.below_two _ _ _
  have CB : Hid (Caught w1 w.heap.size (.pointer a)) := by show Caught _ _ _; rw [← hw1]; exact (Caught.new _ _ _).below (W07.below_one _ _)
  have SB : Hid (StatBox w1 (w.heap.size + 1) 0 0 0) := by show StatBox _ _ _ _ _; rw [← hw1]; exact W07.heap_two_b _ _ _
  have P1 := Lib.hid (C.below P B1.out)
  have HS := Lib.hid (fun w' (h : Below w1.heap.size w1 w') => S.find (C.below P1.out h) G p last hp)
  have HC := Lib.hid (fun w' (h : Below w1.heap.size w1 w') => stat1_any C (C.below P1.out h) G.small (CB.out.below h) (M08.find t p.data.toList last).1)
  have c0 := CB.out.1
  clear P G hp
  generalize M09.stat t p.data.toList last = R at *
  generalize M08.find t p.data.toList last = X at *
  obtain ⟨n, f⟩ := X
  dsimp only at HS HC HX
  have HA : Hid (Calls Tryd.prog 58 #[.pointer a, .string p, .bool last, .func (.func 59) #[] #[.pointer (some ⟨w.heap.size, 0, none⟩)]] w1 (Sta R w1)) := by
    by_cases hf : f = 0
    · subst hf
      replace HX := HX.out.trans (if_neg (by simp))
      rw [← HX] at HC
      exact Lib.hid (ask_stat1 HS.out HC.out)
    · replace HX := HX.out.trans (if_pos hf)
      have := ask_no_stat (fv := .func (.func 59) #[] #[.pointer (some ⟨w.heap.size, 0, none⟩)]) HS.out hf
      rw [← HX] at this
      exact Lib.hid this
  clear HX HS HC
  obtain ⟨⟨x1, x2, x3⟩, x4⟩ := R
  unfold Sta statV at HA ⊢
  go_enter Tryd.func28, Tryd.ntmps28
  go_wp2_with fail
  clear hw1
  refine HA.out.mono ?_
  rintro e w2 ⟨rfl, hb2⟩
  have SB2 := SB.out.below hb2
  have B2 := Lib.hid (on B1.out hb2)
  have s0 := SB2.c0
  have s1 := SB2.c1
  have s2 := SB2.c2
  have f0 := SB2.fr 0
  have f1 := SB2.fr 1
  have f2 := SB2.fr 2
  clear hb2 SB SB2 HA c0
  go_wp2_with fail
  refine bodyPost_ret_by (v := .tuple #[.agg #[.int .i64 x1, .int .i64 x2, .int .i64 x3], .int .i64 x4]) ?_ rfl ?_
  · rw [results_cell_tmp rfl]
    go_simp
  · exact ⟨rfl, stored3 _ _ _ B2.out (by omega)⟩
theorem lstat_over {Rep : (Nat → Prop) → World → Value → Tr → Prop} (C : Trees Rep) (S : Seeks Rep) {F : Nat → Prop} {w : World} {a : Option Addr} {t : Tr} (P : Rep F w (.pointer a) t) (G : Good t) (p : ByteArray) (hp : p.size ≤ 1048576) :
    Calls Tryd.prog 8 #[.pointer a, .string p] w (Sta (M09.stat t p.data.toList false) w) := by
  obtain ⟨w1, hw1⟩ : ∃ w1 : World, w.alloc (.cells #[.int .i64 0, .int .i64 0, .int .i64 0] 32) = w1 := ⟨_, rfl⟩
  have B1 : Hid (Below w.heap.size w w1) := by show Below _ _ _; rw [← hw1]; exact W07.below_one _ _
  have SB : Hid (StatBox w1 w.heap.size 0 0 0) := by show StatBox _ _ _ _ _; rw [← hw1]; exact heap_top _ _
  have HA := Lib.hid (stats_over C S (C.below P B1.out) G p false hp)
  clear P G hp
  generalize M09.stat t p.data.toList false = R at *
  obtain ⟨⟨x1, x2, x3⟩, x4⟩ := R
  unfold Sta statV at HA ⊢
  go_enter Tryd.func8, Tryd.ntmps8
  go_wp2_with fail
  clear hw1
  refine HA.out.mono ?_
  rintro e w2 ⟨rfl, hb2⟩
  have SB2 := SB.out.below hb2
  have B2 := Lib.hid (on B1.out hb2)
  have s0 := SB2.c0
  have s1 := SB2.c1
  have s2 := SB2.c2
  have f0 := SB2.fr 0
  have f1 := SB2.fr 1
  have f2 := SB2.fr 2
  clear hb2 SB SB2 HA
  go_wp2_with fail
  refine bodyPost_ret_by (v := .tuple #[.agg #[.int .i64 x1, .int .i64 x2, .int .i64 x3], .int .i64 x4]) ?_ rfl ?_
  · rw [results_cell_tmp rfl]
    go_simp
  · exact ⟨rfl, stored3 _ _ _ B2.out (Nat.le_refl _)⟩
theorem stat_over {Rep : (Nat → Prop) → World → Value → Tr → Prop} (C : Trees Rep) (S : Seeks Rep) {F : Nat → Prop} {w : World} {a : Option Addr} {t : Tr} (P : Rep F w (.pointer a) t) (G : Good t) (p : ByteArray) (hp : p.size ≤ 1048576) :
    Calls Tryd.prog 10 #[.pointer a, .string p] w (Sta (M09.stat t p.data.toList true) w) := by
  obtain ⟨w1, hw1⟩ : ∃ w1 : World, w.alloc (.cells #[.int .i64 0, .int .i64 0, .int .i64 0] 32) = w1 := ⟨_, rfl⟩
  have B1 : Hid (Below w.heap.size w w1) := by show Below _ _ _; rw [← hw1]; exact W07.below_one _ _
  have SB : Hid (StatBox w1 w.heap.size 0 0 0) := by show StatBox _ _ _ _ _; rw [← hw1]; exact heap_top _ _
  have HA := Lib.hid (stats_over C S (C.below P B1.out) G p true hp)
  clear P G hp
  generalize M09.stat t p.data.toList true = R at *
  obtain ⟨⟨x1, x2, x3⟩, x4⟩ := R
  unfold Sta statV at HA ⊢
  go_enter Tryd.func10, Tryd.ntmps10
  go_wp2_with fail
  clear hw1
  refine HA.out.mono ?_
  rintro e w2 ⟨rfl, hb2⟩
  have SB2 := SB.out.below hb2
  have B2 := Lib.hid (on B1.out hb2)
  have s0 := SB2.c0
  have s1 := SB2.c1
  have s2 := SB2.c2
  have f0 := SB2.fr 0
  have f1 := SB2.fr 1
  have f2 := SB2.fr 2
  clear hb2 SB SB2 HA
  go_wp2_with fail
  refine bodyPost_ret_by (v := .tuple #[.agg #[.int .i64 x1, .int .i64 x2, .int .i64 x3], .int .i64 x4]) ?_ rfl ?_
  · rw [results_cell_tmp rfl]
    go_simp
  · exact ⟨rfl, stored3 _ _ _ B2.out (Nat.le_refl _)⟩
end Go.Proofs.YtdnedeeocpaolaaDoor.W09
/-
  Layer 9 (posix), over the contracts of tree and seek: what changes do that find their spots first. Conditions: those that each theorem bears.
-/
namespace Go.Proofs.YtdnedeeocpaolaaDoor.W09
set_option maxRecDepth 100000
open Go Go.RowKit Go.Proofs.YtdnedeeocpaolaaDoor.Strs Go.Proofs.YtdnedeeocpaolaaDoor.Recs Go.Proofs.YtdnedeeocpaolaaDoor.Range
open Go.Proofs.YtdnedeeocpaolaaDoor.M07 (Tr Nd nodeAt inDir Right listDir)
open Go.Proofs.YtdnedeeocpaolaaDoor.M08 Go.Proofs.YtdnedeeocpaolaaDoor.M09
open Go.Proofs.YtdnedeeocpaolaaDoor.W07 (Small Trees Wrote)
open Go.Proofs.YtdnedeeocpaolaaDoor.W08 (Seeks)
open Go.Proofs.YtdnedeeocpaolaaDoor.Kit (ret_str ret_bool ret_int mk_of mk_bytes ba_ext below_draws on)

theorem text_of (s : List UInt8) : ∃ d : ByteArray, d.data.toList = s := ⟨⟨s.toArray⟩, rfl⟩
theorem wrote_none {Rep : (Nat → Prop) → World → Value → Tr → Prop} (C : Trees Rep) {F : Nat → Prop} {w w' : World} {v : Value} {t : Tr} (P : Rep F w v t) (hb : Below w.heap.size w w') : Wrote Rep F v t w w' :=
  ⟨F, C.below P hb, Turns.new hb, fun _ h => Or.inl h⟩
set_option maxHeartbeats 2000000 in
theorem rename_over {Rep : (Nat → Prop) → World → Value → Tr → Prop} (C : Trees Rep) (S : Seeks Rep) {F : Nat → Prop} {w : World} {v : Value} {t : Tr} (P : Rep F w v t) (G : Good t) (a b : ByteArray) (ha : a.size ≤ 1048576) (hb : b.size ≤ 1048576) :
    Calls Tryd.prog 19 #[v, .string a, .string b] w fun e w' => e = .returned (.int .i64 (M09.rename t a.data.toList b.data.toList).2) ∧ Wrote Rep F v (M09.rename t a.data.toList b.data.toList).1 w w' := by
  have HA := Lib.hid (S.spot P G a ha)
  have HB := Lib.hid (fun w' (h : Below w.heap.size w w') => S.spot (C.below P h) G b hb)
  have HX : Hid (M09.rename t a.data.toList b.data.toList = if (spot t a.data.toList).2.2 ≠ 0 then (t, (spot t a.data.toList).2.2) else if (spot t b.data.toList).2.2 ≠ 0 then (t, (spot t b.data.toList).2.2) else M07.move t (spot t a.data.toList).1 (spot t a.data.toList).2.1 (spot t b.data.toList).1 (spot t b.data.toList).2.1) := rfl
  have HM := Lib.hid (fun w' (h : Below w.heap.size w w') => C.move (C.below P h) G.small)
  have HN := Lib.hid (fun w' (h : Below w.heap.size w w') => wrote_none C P h)
  clear P G ha hb
  generalize M09.rename t a.data.toList b.data.toList = R at *
  generalize spot t a.data.toList = X at *
  generalize spot t b.data.toList = Y at *
  obtain ⟨d, s, f⟩ := X
  obtain ⟨d2, s2, f2⟩ := Y
  obtain ⟨sb, rfl⟩ := text_of s
  obtain ⟨sb2, rfl⟩ := text_of s2
  rw [mk_bytes] at HA
  simp only [mk_bytes] at HB
  dsimp only at HA HB HX
  by_cases h1 : f = 0
  · subst h1
    by_cases h2 : f2 = 0
    · subst h2
      have HM := Lib.hid (fun w' h => HM.out w' h d sb d2 sb2)
      replace HX := Lib.hid (HX.out.trans ((if_neg (by simp)).trans (if_neg (by simp))))
      generalize M07.move t d sb.data.toList d2 sb2.data.toList = Q at *
      go_enter Tryd.func19, Tryd.ntmps19
      go_wp2_with fail
      refine HA.out.mono ?_
      rintro e w1 ⟨rfl, hb1⟩
      go_wp2_with fail
      refine (HB.out w1 hb1).mono ?_
      rintro e w2 ⟨rfl, hb2⟩
      have hb2 := on hb1 hb2
      go_wp2_with fail
      refine (HM.out w2 hb2).mono ?_
      rintro e w3 ⟨rfl, hwr⟩
      have W3 := Lib.hid (wrote_after hb2 hwr)
      clear hwr
      go_wp2_with fail
      go_ret
      rw [HX.out]
      exact ⟨rfl, W3.out⟩
    · have t2 : (f2 == 0) = false := by simpa using h2
      replace HX := Lib.hid (HX.out.trans ((if_neg (by simp)).trans (if_pos h2)))
      clear h2 HM
      go_enter Tryd.func19, Tryd.ntmps19
      go_wp2_with fail
      refine HA.out.mono ?_
      rintro e w1 ⟨rfl, hb1⟩
      go_wp2_with fail
      refine (HB.out w1 hb1).mono ?_
      rintro e w2 ⟨rfl, hb2⟩
      have hb2 := on hb1 hb2
      go_wp2_with fail
      go_ret
      rw [HX.out]
      exact ⟨rfl, HN.out w2 hb2⟩
  · have t1 : (f == 0) = false := by simpa using h1
    replace HX := Lib.hid (HX.out.trans (if_pos h1))
    clear h1 HM HB
    go_enter Tryd.func19, Tryd.ntmps19
    go_wp2_with fail
    refine HA.out.mono ?_
    rintro e w1 ⟨rfl, hb1⟩
    go_wp2_with fail
    go_ret
    rw [HX.out]
    exact ⟨rfl, HN.out w1 hb1⟩
theorem cut_kind {t : Tr} (h : Right t) (d : Int) (s : List UInt8) : (nodeAt t.L (inDir t.L d s)).kind = 0 ↔ inDir t.L d s = 0 := by
  constructor
  · intro e
    refine Classical.byContradiction fun h0 => ?_
    obtain ⟨a, ha, hn, -⟩ := M07.in_found h0
    rw [← hn, h.at_ ha] at e
    exact h.kind a ha e
  · intro e
    rw [e]
    refine Classical.byContradiction fun h0 => ?_
    obtain ⟨h1, h2⟩ := M07.at_some h0
    have := (h.ends _ h1).1
    omega
theorem same_over {Rep : (Nat → Prop) → World → Value → Tr → Prop} (C : Trees Rep) (S : Seeks Rep) {F : Nat → Prop} {w : World} {v : Value} {t : Tr} (P : Rep F w v t) (G : Good t) (p q : ByteArray) (hp : p.size ≤ 1048576) (hq : q.size ≤ 1048576) :
    Calls Tryd.prog 17 #[v, .string p, .string q] w fun e w' => e = .returned (.bool (same t p.data.toList q.data.toList)) ∧ Below w.heap.size w w' := by
  have HA := Lib.hid (S.find P G p true hp)
  have HB := Lib.hid (fun w' (h : Below w.heap.size w w') => S.find (C.below P h) G q true hq)
  have HX : Hid (same t p.data.toList q.data.toList = decide ((M08.find t p.data.toList true).2 = 0 ∧ (M08.find t q.data.toList true).2 = 0 ∧ (M08.find t p.data.toList true).1 = (M08.find t q.data.toList true).1)) := rfl
  clear P G hp hq
  generalize same t p.data.toList q.data.toList = R at *
  generalize M08.find t p.data.toList true = X at *
  generalize M08.find t q.data.toList true = Y at *
  obtain ⟨n, f⟩ := X
  obtain ⟨n2, f2⟩ := Y
  dsimp only at HA HB HX
  by_cases h1 : f = 0
  · subst h1
    by_cases h2 : f2 = 0
    · subst h2
      replace HX : Hid (R = decide (n = n2)) := HX.out.trans (by simp)
      go_enter Tryd.func17, Tryd.ntmps17
      go_wp2_with fail
      refine HA.out.mono ?_
      rintro e w1 ⟨rfl, hb1⟩
      go_wp2_with fail
      refine (HB.out w1 hb1).mono ?_
      rintro e w2 ⟨rfl, hb2⟩
      have hb2 := on hb1 hb2
      go_wp2_with fail
      go_ret
      rw [HX.out]
      exact ⟨by by_cases h : n = n2 <;> simp [h], hb2⟩
    · have t2 : (f2 == 0) = false := by simpa using h2
      replace HX : Hid (R = false) := HX.out.trans (by simp [h2])
      clear h2
      go_enter Tryd.func17, Tryd.ntmps17
      go_wp2_with fail
      refine HA.out.mono ?_
      rintro e w1 ⟨rfl, hb1⟩
      go_wp2_with fail
      refine (HB.out w1 hb1).mono ?_
      rintro e w2 ⟨rfl, hb2⟩
      have hb2 := on hb1 hb2
      go_wp2_with fail
      go_ret
      rw [HX.out]
      exact ⟨rfl, hb2⟩
  · have t1 : (f == 0) = false := by simpa using h1
    replace HX : Hid (R = false) := HX.out.trans (by simp [h1])
    clear h1 HB
    go_enter Tryd.func17, Tryd.ntmps17
    go_wp2_with fail
    refine HA.out.mono ?_
    rintro e w1 ⟨rfl, hb1⟩
    go_wp2_with fail
    go_ret
    rw [HX.out]
    exact ⟨rfl, hb1⟩
end Go.Proofs.YtdnedeeocpaolaaDoor.W09
