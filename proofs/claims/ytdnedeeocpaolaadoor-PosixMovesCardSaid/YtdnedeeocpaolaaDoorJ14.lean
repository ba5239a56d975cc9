/-
  Texts joined, in build order, each with its own comment and its own conditions: W09Asks.
-/
import Derived.Test.YtdnedeeocpaolaaDoorJ11
import Derived.Test.YtdnedeeocpaolaaDoorJ13
import Derived.Deep.RegionHeld3
/-
  Layer 9 (posix), walks over the contracts: the law's lives, and PosixAsks: each returns true; nothing that was there is changed. The conditions stand in the statements.
-/
namespace Go.Proofs.YtdnedeeocpaolaaDoor.W09
set_option maxRecDepth 100000
open Go Go.RowKit Go.Proofs.YtdnedeeocpaolaaDoor.Strs Go.Proofs.YtdnedeeocpaolaaDoor.Recs Go.Proofs.YtdnedeeocpaolaaDoor.Range
open Go.Proofs.YtdnedeeocpaolaaDoor.M07 (Tr Nd nodeAt inDir Right listDir)
open Go.Proofs.YtdnedeeocpaolaaDoor.M08 Go.Proofs.YtdnedeeocpaolaaDoor.M09
open Go.Proofs.YtdnedeeocpaolaaDoor.W07 (Small Trees Wrote Nodes nodeV TreeBox heap_top)
open Go.Proofs.YtdnedeeocpaolaaDoor.W08 (Sn Snodes snC snC_len isFew few_is made)
open Go.Proofs.YtdnedeeocpaolaaDoor.Kit (ret_str ret_bool ret_int mk_of mk_bytes ba_ext below_draws on)

/-- behind a call that may write the tree: it reads as t' all the same, in blocks of the law's own -/
theorem wrote_on {Rep : (Nat → Prop) → World → Value → Tr → Prop} {F : Nat → Prop} {w0 w w' : World} {v : Value} {t' : Tr} (hF : ∀ k, F k → w0.heap.size ≤ k) (hB : Below w0.heap.size w0 w) (h : Wrote Rep F v t' w w') : ∃ F', Rep F' w' v t' ∧ (∀ k, F' k → w0.heap.size ≤ k) ∧ Below w0.heap.size w0 w' := by
  obtain ⟨F', h1, h2, h3⟩ := h
  exact ⟨F', h1, fun k hk => (h3 k hk).elim (hF k) (fun h => Nat.le_trans hB.size h), hB.trans (h2.below hF hB.size)⟩
def twoN : List Sn := [⟨-1, [97], 1, []⟩, ⟨-1, [108], 3, [97]⟩]
def twoT : Tr := ⟨[⟨1, 1, [], 1, []⟩, ⟨2, 1, [97], 1, []⟩, ⟨3, 1, [108], 3, [97]⟩], 3⟩
def threeT : Tr := ⟨[⟨1, 1, [], 1, []⟩, ⟨2, 1, [97], 1, []⟩, ⟨3, 1, [108], 3, [97]⟩, ⟨4, 2, [102], 2, [120]⟩], 4⟩
theorem two_made : (made twoN).1 = twoT := by rfl
theorem two_within : Within twoT 61 := by rw [← two_made]; exact made_within (by decide)
theorem two_find : M08.find twoT [108, 47, 102] true = (0, 5) := by
  have e : goTo twoT 1 [[108], [102]] true 0 = (0, 1, 5) := by
    rw [go_link (by rfl) (by decide) (by rfl) (by decide) (by decide) (by decide)]
    show goTo twoT 1 [[97], [102]] true 1 = _
    rw [go_on (by rfl) (by decide) (by rfl) (by decide) (Or.inl (by decide))]
    show goTo twoT 2 [[102]] true 1 = _
    rw [go_none (by rfl) (by decide) (by rfl) (by decide)]
  unfold M08.find
  rw [if_neg (by decide), if_neg (by decide)]
  show ((goTo twoT 1 [[108], [102]] true 0).1, _) = _
  rw [show M04.parts [108, 47, 102] = [[108], [102]] from rfl, e]
theorem two_spot : spot twoT [108, 47, 102] = (2, [102], 0) := by
  have e : goTo twoT 1 [[108]] true 0 = (2, 1, 0) := by
    rw [go_link (by rfl) (by decide) (by rfl) (by decide) (by decide) (by decide)]
    show goTo twoT 1 [[97]] true 1 = _
    rw [go_on (by rfl) (by decide) (by rfl) (by decide) (Or.inl (by decide))]
    show goTo twoT 2 [] true 1 = _
    rw [go_nil]
  unfold spot
  rw [if_neg (by decide), if_neg (by decide), if_neg (by decide)]
  have hp : M04.parts [108, 47, 102] = [[108], [102]] := rfl
  simp only [hp, show ([[108], [102]] : List (List UInt8)).dropLast = [[108]] from rfl, e]
  rfl
theorem two_write : write twoT [108, 47, 102] [120] = (threeT, 0) := by
  unfold write
  rw [two_find, if_neg (by decide), if_neg (by decide), two_spot, if_neg (by decide), if_neg (by decide)]
  unfold putAt
  rw [two_spot, if_neg (by decide)]
  rfl
theorem three_within : Within threeT 62 := by have := two_within.next (kept_write twoT [108, 47, 102] [120]); rw [two_write] at this; exact this
theorem three_data : M09.data threeT [47, 97, 47, 102] true 2 8 = ([120], 0) := by
  have e : M08.find threeT [47, 97, 47, 102] true = (4, 0) := by
    have e : goTo threeT 1 [[97], [102]] true 0 = (4, 0, 0) := by
      rw [go_on (by rfl) (by decide) (by rfl) (by decide) (Or.inl (by decide))]
      show goTo threeT 2 [[102]] true 0 = _
      rw [go_on (by rfl) (by decide) (by rfl) (by decide) (Or.inl (by decide))]
      show goTo threeT 4 [] true 0 = _
      rw [go_nil]
    unfold M08.find
    rw [if_neg (by decide), if_neg (by decide)]
    show ((goTo threeT 1 [[97], [102]] true 0).1, _) = _
    rw [show M04.parts [47, 97, 47, 102] = [[97], [102]] from rfl, e]
  unfold M09.data
  rw [e]; rfl
theorem two_nodes (w : World) (t : TypeId) : Snodes (w.heap.size + 1) (w.alloc (.cells #[.int .i64 (-1), .string ⟨#[97]⟩, .int .i64 1, .string ⟨#[]⟩, .int .i64 (-1), .string ⟨#[108]⟩, .int .i64 3, .string ⟨#[97]⟩] t)) (.slice (some ⟨w.heap.size, 0, none⟩) 2 2) twoN := by
  refine ⟨_, 2, rfl, Nat.le_refl _, by decide, fun _ => ⟨_, rfl, Nat.lt_succ_self _, fun k hk j hj => ?_⟩⟩
  have hf := flat_at snC_len twoN k hk j hj
  have hlt : j < (snC twoN[k]).length := by rw [snC_len]; exact hj
  rw [List.getElem?_eq_getElem hlt] at hf ⊢
  exact cells_new w (twoN.flatMap snC) t (k * 4 + j) _ hf
set_option maxHeartbeats 2000000 in
theorem lives9_over {Rep : (Nat → Prop) → World → Value → Tr → Prop} (C : Trees Rep) (S : Posix Rep) (w : World) : Calls Tryd.prog 6 #[] w fun e w' => e = .returned (.bool true) ∧ Below w.heap.size w w' := by
  obtain ⟨w1, hw1⟩ : ∃ w1, w.alloc (.cells #[.int .i64 (-1), .string ⟨#[97]⟩, .int .i64 1, .string ⟨#[]⟩, .int .i64 (-1), .string ⟨#[108]⟩, .int .i64 3, .string ⟨#[97]⟩] 59) = w1 := ⟨_, rfl⟩
  have hs : w1.heap.size = w.heap.size + 1 := by rw [← hw1]; exact World.size_alloc _ _
  have B1 : Hid (Below w.heap.size w w1) := by rw [← hw1]; exact (Below.refl _ _).alloc (Nat.le_refl _) _
  have HM := W08.made_over C w1 (.slice (some ⟨w.heap.size, 0, none⟩) 2 2) twoN (by rw [hs, ← hw1]; exact two_nodes w _) (by decide) (by decide)
  rw [two_made] at HM
  have HM := Lib.hid HM
  clear hs
  go_enter Tryd.func6, Tryd.ntmps6
  go_wp2_with fail
  clear hw1
  refine HM.out.mono ?_
  rintro e w2 ⟨pv, u, F, rfl, hrep, hn, hF, hb⟩
  obtain ⟨Au, cu, rfl, -, -⟩ := hn.form
  have B2 := Lib.hid (on B1.out hb)
  have HF2 : Hid (∀ k, F k → w.heap.size ≤ k) := fun k hk => Nat.le_trans B1.out.size (hF k hk)
  have P3 := Lib.hid (C.below hrep ((Below.refl w2.heap.size w2).alloc (Nat.le_refl _) (.cells #[.slice Au twoT.L.length cu, .int .i64 twoT.last] 28)))
  have B3 := Lib.hid (B2.out.alloc B2.out.size (.cells #[.slice Au twoT.L.length cu, .int .i64 twoT.last] 28))
  obtain ⟨w3, hw3⟩ : ∃ w3, w2.alloc (.cells #[.slice Au twoT.L.length cu, .int .i64 twoT.last] 28) = w3 := ⟨_, rfl⟩
  rw [hw3] at P3 B3
  have HW := S.write P3.out (two_within.good (by decide)) ⟨#[108, 47, 102]⟩ ⟨#[120]⟩ (by decide) (by decide)
  rw [show (⟨#[108, 47, 102]⟩ : ByteArray).data.toList = [108, 47, 102] from rfl, show (⟨#[120]⟩ : ByteArray).data.toList = [120] from rfl, two_write] at HW
  have HW := Lib.hid HW
  clear hrep hn hF hb HM
  go_wp2_with fail
  clear hw3
  refine HW.out.mono ?_
  rintro e w4 ⟨rfl, hwr⟩
  obtain ⟨F4, P4, HF4, B4⟩ := wrote_on HF2.out B3.out hwr
  have HRD := S.read P4 (three_within.good (by decide)) ⟨#[47, 97, 47, 102]⟩ (by decide)
  rw [show (⟨#[47, 97, 47, 102]⟩ : ByteArray).data.toList = [47, 97, 47, 102] from rfl, three_data] at HRD
  have HRD := Lib.hid HRD
  have B4 := Lib.hid B4
  clear hwr P4 HF4 HW
  go_wp2_with fail
  refine HRD.out.mono ?_
  rintro e w5 ⟨rfl, hb5⟩
  have B5 := Lib.hid (on B4.out hb5)
  clear hb5 HRD
  go_wp2_with fail
  go_ret
  exact ⟨rfl, B5.out⟩
theorem same_hold {w1 w' w'' : World} {p q : Nat} {y0 y1 : Value} (hp : p < w1.heap.size) (hq : q < w1.heap.size) (hS : w'.cell? ⟨p, 0, none⟩ = some y0 ∧ w'.cell? ⟨q, 0, none⟩ = some y1 ∧ Below w1.heap.size w1 w') (hb : Below w'.heap.size w' w'') : w''.cell? ⟨p, 0, none⟩ = some y0 ∧ w''.cell? ⟨q, 0, none⟩ = some y1 ∧ Below w1.heap.size w1 w'' := by
  have hs := hS.2.2.size
  exact ⟨(hb.cell (by show p < _; omega)).trans hS.1, (hb.cell (by show q < _; omega)).trans hS.2.1, on hS.2.2 hb⟩
set_option maxHeartbeats 16000000 in
theorem posixAsks_over {Rep : (Nat → Prop) → World → Value → Tr → Prop} (C : Trees Rep) (S : Posix Rep) (w : World) (v : Value) (L : List Sn) (h : Snodes w.heap.size w v L) (p q : ByteArray) :
    Calls Tryd.prog 3 #[v, .string p, .string q] w fun e w' => e = .returned (.bool true) ∧ Below w.heap.size w w' := by
  have HFW := Lib.hid (W08.few_any v L w.heap.size w h)
  have HL := Lib.hid (fun w' => lives9_over C S w')
  have HH := Lib.hid h
  obtain ⟨A, c, rfl, -, -⟩ := h.form
  clear h
  generalize hm : L.length = m at *
  cases hf : isFew L with
  | false =>
    rw [hf] at HFW
    clear hf hm
    go_enter Tryd.func3, Tryd.ntmps3
    go_wp2_with fail
    refine HFW.out.mono ?_
    rintro e w1 ⟨rfl, hw⟩
    have hw := hw.symm
    subst hw
    go_wp2_with fail
    refine (HL.out _).mono ?_
    rintro e w2 ⟨rfl, hb⟩
    go_wp2_with fail
    go_ret
    exact ⟨rfl, hb⟩
  | true =>
    rw [hf] at HFW
    obtain ⟨hd, hl⟩ := few_is hf
    by_cases hp : (2000 : Int) < p.size
    · clear hf hm hd hl
      go_enter Tryd.func3, Tryd.ntmps3
      go_wp2_with fail
      refine HFW.out.mono ?_
      rintro e w1 ⟨rfl, hw⟩
      have hw := hw.symm
      subst hw
      go_wp2_with fail
      refine (HL.out _).mono ?_
      rintro e w2 ⟨rfl, hb⟩
      go_wp2_with fail
      go_ret
      exact ⟨rfl, hb⟩
    · by_cases hq : (2000 : Int) < q.size
      · clear hf hm hd hl
        go_enter Tryd.func3, Tryd.ntmps3
        go_wp2_with fail
        refine HFW.out.mono ?_
        rintro e w1 ⟨rfl, hw⟩
        have hw := hw.symm
        subst hw
        go_wp2_with fail
        refine (HL.out _).mono ?_
        rintro e w2 ⟨rfl, hb⟩
        go_wp2_with fail
        go_ret
        exact ⟨rfl, hb⟩
      · have hps : p.size ≤ 1048576 := by omega
        have hqs : q.size ≤ 1048576 := by omega
        have HM := W08.made_over C w (.slice A m c) L HH.out hl hd
        have HWI := Lib.hid (made_within hl)
        have HG := Lib.hid (HWI.out.good (by decide))
        generalize (made L).1 = T at *
        have HM := Lib.hid HM
        have HSM := Lib.hid (same_stats HWI.out.right p.data.toList q.data.toList)
        clear hf hm hd hl
        go_enter Tryd.func3, Tryd.ntmps3
        go_wp2_with fail
        refine HFW.out.mono ?_
        rintro e w1 ⟨rfl, hw⟩
        have hw := hw.symm
        subst hw
        go_wp2_with fail
        refine HM.out.mono ?_
        rintro e w2 ⟨pv, u, F, rfl, hrep, hn, -, hb⟩
        obtain ⟨Au, cu, rfl, -, -⟩ := hn.form
        obtain ⟨w3, hw3⟩ : ∃ w3, w2.alloc (.cells #[.slice Au T.L.length cu, .int .i64 T.last] 28) = w3 := ⟨_, rfl⟩
        have ha : Below w2.heap.size w2 w3 := by rw [← hw3]; exact (Below.refl _ _).alloc (Nat.le_refl _) _
        have TB := Lib.hid (show TreeBox w3 w2.heap.size (.slice Au T.L.length cu) T.last by rw [← hw3]; exact heap_top _ _)
        have P3 := Lib.hid (C.below hrep ha)
        have N3 := Lib.hid ((hn.below ha).more ha.size)
        have B3 := Lib.hid (on hb ha)
        clear hrep hn hb ha HM
        have HLS := Lib.hid (fun (w' : World) (hb : Below w3.heap.size w3 w') => S.lstat (C.below P3.out hb) HG.out p hps)
        have HSTp := Lib.hid (fun (w' : World) (hb : Below w3.heap.size w3 w') => S.stat (C.below P3.out hb) HG.out p hps)
        have HSTq := Lib.hid (fun (w' : World) (hb : Below w3.heap.size w3 w') => S.stat (C.below P3.out hb) HG.out q hqs)
        have HRL := Lib.hid (fun (w' : World) (hb : Below w3.heap.size w3 w') => S.readlink (C.below P3.out hb) HG.out p hps)
        have HRD := Lib.hid (fun (w' : World) (hb : Below w3.heap.size w3 w') => S.read (C.below P3.out hb) HG.out p hps)
        have HLI := Lib.hid (fun (w' : World) (hb : Below w3.heap.size w3 w') => S.list (C.below P3.out hb) HG.out p hps)
        have HSA := Lib.hid (fun (w' : World) (hb : Below w3.heap.size w3 w') => S.same (C.below P3.out hb) HG.out p q hps hqs)
        have HRSf := Lib.hid (fun (w' : World) (hb : Below w3.heap.size w3 w') => refStat_any T HG.out.fit HG.out.small.1 (.slice Au T.L.length cu) p false w' ((N3.out.below hb).more hb.size))
        have HRSt := Lib.hid (fun (w' : World) (hb : Below w3.heap.size w3 w') => refStat_any T HG.out.fit HG.out.small.1 (.slice Au T.L.length cu) p true w' ((N3.out.below hb).more hb.size))
        have HDAf := Lib.hid (fun (w' : World) (hb : Below w3.heap.size w3 w') => refData_any T HG.out.fit HG.out.small.1 (.slice Au T.L.length cu) p false 3 13 w' ((N3.out.below hb).more hb.size))
        have HDAt := Lib.hid (fun (w' : World) (hb : Below w3.heap.size w3 w') => refData_any T HG.out.fit HG.out.small.1 (.slice Au T.L.length cu) p true 2 8 w' ((N3.out.below hb).more hb.size))
        have HRI := Lib.hid (fun (w' : World) (hb : Below w3.heap.size w3 w') => refList9_any T HG.out.fit HG.out.small.1 (.slice Au T.L.length cu) p w' ((N3.out.below hb).more hb.size))
        rw [HSM.out] at HSA
        generalize M09.stat T p.data.toList false = A1 at *
        generalize M09.stat T p.data.toList true = A2 at *
        generalize M09.stat T q.data.toList true = A3 at *
        generalize M09.data T p.data.toList false 3 13 = D1 at *
        generalize M09.data T p.data.toList true 2 8 = D2 at *
        generalize M09.list T p.data.toList = LI at *
        obtain ⟨⟨a11, a12, a13⟩, a14⟩ := A1
        obtain ⟨⟨a21, a22, a23⟩, a24⟩ := A2
        obtain ⟨⟨a31, a32, a33⟩, a34⟩ := A3
        obtain ⟨d1, d1e⟩ := D1
        obtain ⟨d2, d2e⟩ := D2
        obtain ⟨li, lie⟩ := LI
        unfold statV at HLS HSTp HSTq HRSf HRSt
        have T0 : Hid (Below w3.heap.size w3 w3) := Below.refl _ _
        have HC := Lib.hid (HLS.out w3 T0.out)
        go_wp2_with fail
        clear hw3
        refine HC.out.mono ?_
        rintro e w4 ⟨rfl, hb⟩
        obtain ⟨w5, hwb⟩ : ∃ x : World, w4.alloc (.cells #[.int .i64 a11, .int .i64 a12, .int .i64 a13] 32) = x := ⟨_, rfl⟩
        have hb : Below w3.heap.size w3 w5 := by rw [← hwb]; exact hb.alloc hb.size _
        have SB1 := Lib.hid (show StatBox w5 w4.heap.size a11 a12 a13 by rw [← hwb]; exact heap_top _ _)
        have T0 := Lib.hid (on T0.out hb)
        replace TB := Lib.hid (TB.out.below hb)
        clear hb HC
        have t0 := TB.out.c0
        have t1 := TB.out.c1
        have HC := Lib.hid (HRSf.out w5 T0.out)
        go_wp2_with fail
        clear hwb
        clear t0 t1
        refine HC.out.mono ?_
        rintro e w6 ⟨rfl, hb⟩
        obtain ⟨w7, hwb⟩ : ∃ x : World, w6.alloc (.cells #[.int .i64 a11, .int .i64 a12, .int .i64 a13] 32) = x := ⟨_, rfl⟩
        have hb : Below w5.heap.size w5 w7 := by rw [← hwb]; exact hb.alloc hb.size _
        have SB2 := Lib.hid (show StatBox w7 w6.heap.size a11 a12 a13 by rw [← hwb]; exact heap_top _ _)
        have T0 := Lib.hid (on T0.out hb)
        replace TB := Lib.hid (TB.out.below hb)
        replace SB1 := Lib.hid (SB1.out.below hb)
        clear hb HC
        have HC := Lib.hid (HSTp.out w7 T0.out)
        go_wp2_with fail
        clear hwb
        refine HC.out.mono ?_
        rintro e w8 ⟨rfl, hb⟩
        obtain ⟨w9, hwb⟩ : ∃ x : World, w8.alloc (.cells #[.int .i64 a21, .int .i64 a22, .int .i64 a23] 32) = x := ⟨_, rfl⟩
        have hb : Below w7.heap.size w7 w9 := by rw [← hwb]; exact hb.alloc hb.size _
        have SB3 := Lib.hid (show StatBox w9 w8.heap.size a21 a22 a23 by rw [← hwb]; exact heap_top _ _)
        have T0 := Lib.hid (on T0.out hb)
        replace TB := Lib.hid (TB.out.below hb)
        replace SB1 := Lib.hid (SB1.out.below hb)
        replace SB2 := Lib.hid (SB2.out.below hb)
        clear hb HC
        have t0 := TB.out.c0
        have t1 := TB.out.c1
        have HC := Lib.hid (HRSt.out w9 T0.out)
        go_wp2_with fail
        clear hwb
        clear t0 t1
        refine HC.out.mono ?_
        rintro e w10 ⟨rfl, hb⟩
        obtain ⟨w11, hwb⟩ : ∃ x : World, w10.alloc (.cells #[.int .i64 a21, .int .i64 a22, .int .i64 a23] 32) = x := ⟨_, rfl⟩
        have hb : Below w9.heap.size w9 w11 := by rw [← hwb]; exact hb.alloc hb.size _
        have SB4 := Lib.hid (show StatBox w11 w10.heap.size a21 a22 a23 by rw [← hwb]; exact heap_top _ _)
        have T0 := Lib.hid (on T0.out hb)
        replace TB := Lib.hid (TB.out.below hb)
        replace SB1 := Lib.hid (SB1.out.below hb)
        replace SB2 := Lib.hid (SB2.out.below hb)
        replace SB3 := Lib.hid (SB3.out.below hb)
        clear hb HC
        have SB1c0 := SB1.out.c0
        have SB1c1 := SB1.out.c1
        have SB1c2 := SB1.out.c2
        have SB2c0 := SB2.out.c0
        have SB2c1 := SB2.out.c1
        have SB2c2 := SB2.out.c2
        have SB3c0 := SB3.out.c0
        have SB3c1 := SB3.out.c1
        have SB3c2 := SB3.out.c2
        have SB4c0 := SB4.out.c0
        have SB4c1 := SB4.out.c1
        have SB4c2 := SB4.out.c2
        have HC := Lib.hid (HRL.out w11 T0.out)
        go_wp2_with fail
        clear hwb
        refine HC.out.mono ?_
        rintro e w12 ⟨rfl, hb⟩
        have T0 := Lib.hid (on T0.out hb)
        replace TB := Lib.hid (TB.out.below hb)
        replace SB1 := Lib.hid (SB1.out.below hb)
        replace SB2 := Lib.hid (SB2.out.below hb)
        replace SB3 := Lib.hid (SB3.out.below hb)
        replace SB4 := Lib.hid (SB4.out.below hb)
        clear SB1c0 SB1c1 SB1c2 SB2c0 SB2c1 SB2c2 SB3c0 SB3c1 SB3c2 SB4c0 SB4c1 SB4c2 SB1 SB2 SB4
        clear hb HC
        have t0 := TB.out.c0
        have t1 := TB.out.c1
        have HC := Lib.hid (HDAf.out w12 T0.out)
        go_wp2_with fail
        clear t0 t1
        refine HC.out.mono ?_
        rintro e w13 ⟨rfl, hb⟩
        have T0 := Lib.hid (on T0.out hb)
        replace TB := Lib.hid (TB.out.below hb)
        replace SB3 := Lib.hid (SB3.out.below hb)
        clear hb HC
        have HC := Lib.hid (HRD.out w13 T0.out)
        go_wp2_with fail
        refine HC.out.mono ?_
        rintro e w14 ⟨rfl, hb⟩
        have T0 := Lib.hid (on T0.out hb)
        replace TB := Lib.hid (TB.out.below hb)
        replace SB3 := Lib.hid (SB3.out.below hb)
        clear hb HC
        have t0 := TB.out.c0
        have t1 := TB.out.c1
        have HC := Lib.hid (HDAt.out w14 T0.out)
        go_wp2_with fail
        clear t0 t1
        refine HC.out.mono ?_
        rintro e w15 ⟨rfl, hb⟩
        have T0 := Lib.hid (on T0.out hb)
        replace TB := Lib.hid (TB.out.below hb)
        replace SB3 := Lib.hid (SB3.out.below hb)
        clear hb HC
        have HC := Lib.hid (HLI.out w15 T0.out)
        go_wp2_with fail
        refine HC.out.mono ?_
        rintro e w16 ⟨u1, rfl, hu1, hb⟩
        have T0 := Lib.hid (on T0.out hb)
        replace TB := Lib.hid (TB.out.below hb)
        replace SB3 := Lib.hid (SB3.out.below hb)
        have U1 := Lib.hid hu1
        clear hu1
        clear hb HC
        have t0 := TB.out.c0
        have t1 := TB.out.c1
        have HC := Lib.hid (HRI.out w16 T0.out)
        go_wp2_with fail
        clear t0 t1
        refine HC.out.mono ?_
        rintro e w17 ⟨u2, rfl, hu2, hb⟩
        have T0 := Lib.hid (on T0.out hb)
        replace TB := Lib.hid (TB.out.below hb)
        replace SB3 := Lib.hid (SB3.out.below hb)
        have U2 := Lib.hid hu2
        replace U1 := Lib.hid ((U1.out.below hb).more hb.size)
        clear hu2
        clear hb HC
        have HC := Lib.hid (HSTq.out w17 T0.out)
        go_wp2_with fail
        refine HC.out.mono ?_
        rintro e w18 ⟨rfl, hb⟩
        obtain ⟨w19, hwb⟩ : ∃ x : World, w18.alloc (.cells #[.int .i64 a31, .int .i64 a32, .int .i64 a33] 32) = x := ⟨_, rfl⟩
        have hb : Below w17.heap.size w17 w19 := by rw [← hwb]; exact hb.alloc hb.size _
        have SB5 := Lib.hid (show StatBox w19 w18.heap.size a31 a32 a33 by rw [← hwb]; exact heap_top _ _)
        have T0 := Lib.hid (on T0.out hb)
        replace TB := Lib.hid (TB.out.below hb)
        replace SB3 := Lib.hid (SB3.out.below hb)
        replace U1 := Lib.hid ((U1.out.below hb).more hb.size)
        replace U2 := Lib.hid ((U2.out.below hb).more hb.size)
        clear hb HC
        have r0 := SB3.out.c0
        have r1 := SB5.out.c0
        have rp := SB3.out.lt
        have rq := SB5.out.lt
        have HB := Lib.hid (on B3.out T0.out)
        have HSM2 := Lib.hid (fun (w' : World) (hb : Below w19.heap.size w19 w') => W02.same_any u1 u2 li li w19.heap.size w' (U1.out.below hb) (U2.out.below hb))
        have HSA : Hid (∀ (w' : World), Below w19.heap.size w19 w' → Calls Tryd.prog 17 #[pv, .string p, .string q] w' fun e w'' => e = .returned (.bool (decide (0 < a21) && decide (a34 = 0) && decide (a31 = a21))) ∧ Below w'.heap.size w' w'') := fun w' hb => HSA.out w' (on T0.out hb)
        clear TB HSM P3 N3 HLS HSTp HSTq HRL HRD HLI HRSf HRSt HDAf HDAt HRI U1 U2 SB3 SB5 HFW HG HWI HH
        by_cases k1 : 0 < a21
        · by_cases k2 : a34 = 0
          · skip
            have q1 : (0 : Int) < a21 := k1
            have q2 : (a34 == 0) = true := by simp [k2]
            rw [decide_eq_true k1, decide_eq_true k2] at HSA
            have q3 : (decide (a31 = a21)) = (a31 == a21) := rfl
            clear k2
            go_wp2_with fail
            refine wp_region_held_drew (S := fun w' => w'.cell? ⟨w8.heap.size, 0, none⟩ = some (.int .i64 a21) ∧ w'.cell? ⟨w18.heap.size, 0, none⟩ = some (.int .i64 a31) ∧ Below w19.heap.size w19 w') (by kernel_rfl) ⟨r0, r1, below_draws w19 1⟩ (fun hHeld => ?_)
            refine wpAnyH_take (i := 0) (oi := { dst := some 145, op := Op.move (Operand.tmp 21), type := 42, pos := "law.go:77", after := #[], guard := none }) (v := ?va0) rfl ?zba0 ?zca0 ?zda0 ?zea0 ?zfa0 ?zga0 ?zha0
            case zfa0 => (refine Or.inl ⟨by rfl, ?_⟩; intro w hSw; (try dsimp only at hSw); go_simp; try with_reducible rfl)
            case zba0 => kernel_rfl
            case zca0 => kernel_rfl
            case zda0 => kernel_rfl
            case zea0 => exact fun _ _ _ h => h
            case zga0 => assumption
            try simp only [Act.put, List.setIfInBounds_toArray, List.set_cons_zero, List.set_cons_succ]
            refine wpAnyH_take (i := 1) (oi := { dst := some 146, op := Op.move (Operand.tmp 22), type := 42, pos := "law.go:77", after := #[], guard := none }) (v := ?va1) rfl ?zba1 ?zca1 ?zda1 ?zea1 ?zfa1 ?zga1 ?zha1
            case zfa1 => (refine Or.inl ⟨by rfl, ?_⟩; intro w hSw; (try dsimp only at hSw); go_simp; try with_reducible rfl)
            case zba1 => kernel_rfl
            case zca1 => kernel_rfl
            case zda1 => kernel_rfl
            case zea1 => exact fun _ _ _ h => h
            case zga1 => assumption
            try simp only [Act.put, List.setIfInBounds_toArray, List.set_cons_zero, List.set_cons_succ]
            refine wpAnyH_ready (rs := [2]) (by kernel_rfl) (by simp) ?_
            refine AllReadyH.cons (o := { dst := some 147, op := Op.call { callee := Callee.value (Operand.func 16), args := #[Operand.tmp 145, Operand.tmp 146], argTypes := #[42, 42] }, type := 4, pos := "law.go:77", after := #[{ on := 0, ground := Ground.data }, { on := 1, ground := Ground.data }], guard := none }) rfl (fun K hK => ?_) AllReadyH.nil
            go_simp
            (go_at_call 16; refine (HSM2.out _ (below_draws w19 1)).mono ?_; rintro e x1 ⟨rfl, n1, hx1⟩; have hb1 : Below (w19.drewN 1).heap.size (w19.drewN 1) x1 := (by rw [hx1]; exact below_draws _ _); have hS1 := same_hold (w' := w19.drewN 1) rp rq ⟨r0, r1, below_draws w19 1⟩ hb1; clear hx1 hb1)
            go_wp2_with fail
            refine hK.out _ _ ?_ (fun hHeld => ?_)
            · exact hS1
            clear hK K
            try simp only [Act.put, List.setIfInBounds_toArray, List.set_cons_zero, List.set_cons_succ]
            refine wpAnyH_take (i := 3) (oi := { dst := some 148, op := Op.move (Operand.tmp 147), type := 4, pos := "law.go:77", after := #[{ on := 2, ground := Ground.data }, { on := 2, ground := Ground.chain }], guard := none }) (v := ?va3) rfl ?zba3 ?zca3 ?zda3 ?zea3 ?zfa3 ?zga3 ?zha3
            case zfa3 => (refine Or.inl ⟨by rfl, ?_⟩; intro w hSw; (try dsimp only at hSw); go_simp; try with_reducible rfl)
            case zba3 => kernel_rfl
            case zca3 => kernel_rfl
            case zda3 => kernel_rfl
            case zea3 => exact fun _ _ _ h => h
            case zga3 => assumption
            try simp only [Act.put, List.setIfInBounds_toArray, List.set_cons_zero, List.set_cons_succ]
            refine wpAnyH_take (i := 4) (oi := { dst := some 149, op := Op.move (Operand.tmp 10), type := 33, pos := "law.go:77", after := #[{ on := 3, ground := Ground.guard }], guard := some (3, true) }) (v := ?va4) rfl ?zba4 ?zca4 ?zda4 ?zea4 ?zfa4 ?zga4 ?zha4
            case zfa4 => (refine Or.inl ⟨by rfl, ?_⟩; intro w hSw; (try dsimp only at hSw); go_simp; try with_reducible rfl)
            case zba4 => kernel_rfl
            case zca4 => kernel_rfl
            case zda4 => kernel_rfl
            case zea4 => exact fun _ _ _ h => h
            case zga4 => assumption
            try simp only [Act.put, List.setIfInBounds_toArray, List.set_cons_zero, List.set_cons_succ]
            refine wpAnyH_take (i := 5) (oi := { dst := some 150, op := Op.move (Operand.tmp 12), type := 3, pos := "law.go:77", after := #[{ on := 3, ground := Ground.guard }], guard := some (3, true) }) (v := ?va5) rfl ?zba5 ?zca5 ?zda5 ?zea5 ?zfa5 ?zga5 ?zha5
            case zfa5 => (refine Or.inl ⟨by rfl, ?_⟩; intro w hSw; (try dsimp only at hSw); go_simp; try with_reducible rfl)
            case zba5 => kernel_rfl
            case zca5 => kernel_rfl
            case zda5 => kernel_rfl
            case zea5 => exact fun _ _ _ h => h
            case zga5 => assumption
            try simp only [Act.put, List.setIfInBounds_toArray, List.set_cons_zero, List.set_cons_succ]
            refine wpAnyH_take (i := 6) (oi := { dst := some 151, op := Op.binOp BinOp.eql 33 (Operand.tmp 149) (Operand.tmp 150) 33, type := 4, pos := "law.go:77", after := #[{ on := 4, ground := Ground.data }, { on := 5, ground := Ground.data }, { on := 3, ground := Ground.guard }], guard := some (3, true) }) (v := ?va6) rfl ?zba6 ?zca6 ?zda6 ?zea6 ?zfa6 ?zga6 ?zha6
            case zfa6 => (refine Or.inl ⟨by rfl, ?_⟩; intro w hSw; (try dsimp only at hSw); go_simp; try with_reducible rfl)
            case zba6 => kernel_rfl
            case zca6 => kernel_rfl
            case zda6 => kernel_rfl
            case zea6 => exact fun _ _ _ h => h
            case zga6 => assumption
            try simp only [Act.put, List.setIfInBounds_toArray, List.set_cons_zero, List.set_cons_succ]
            refine wpAnyH_take (i := 7) (oi := { dst := some 152, op := Op.pick (Operand.tmp 148) (Operand.tmp 151) (Operand.const (Value.bool false)), type := 4, pos := "law.go:77", after := #[{ on := 3, ground := Ground.data }, { on := 6, ground := Ground.data }], guard := none }) (v := ?va7) rfl ?zba7 ?zca7 ?zda7 ?zea7 ?zfa7 ?zga7 ?zha7
            case zfa7 => (refine Or.inl ⟨by rfl, ?_⟩; intro w hSw; (try dsimp only at hSw); go_simp; try with_reducible rfl)
            case zba7 => kernel_rfl
            case zca7 => kernel_rfl
            case zda7 => kernel_rfl
            case zea7 => exact fun _ _ _ h => h
            case zga7 => assumption
            try simp only [Act.put, List.setIfInBounds_toArray, List.set_cons_zero, List.set_cons_succ]
            refine wpAnyH_take (i := 8) (oi := { dst := some 153, op := Op.move (Operand.tmp 152), type := 4, pos := "law.go:77", after := #[{ on := 7, ground := Ground.data }, { on := 3, ground := Ground.chain }], guard := none }) (v := ?va8) rfl ?zba8 ?zca8 ?zda8 ?zea8 ?zfa8 ?zga8 ?zha8
            case zfa8 => (refine Or.inl ⟨by rfl, ?_⟩; intro w hSw; (try dsimp only at hSw); go_simp; try with_reducible rfl)
            case zba8 => kernel_rfl
            case zca8 => kernel_rfl
            case zda8 => kernel_rfl
            case zea8 => exact fun _ _ _ h => h
            case zga8 => assumption
            try simp only [Act.put, List.setIfInBounds_toArray, List.set_cons_zero, List.set_cons_succ]
            refine wpAnyH_take (i := 9) (oi := { dst := some 154, op := Op.move (Operand.tmp 7), type := 25, pos := "law.go:77", after := #[{ on := 8, ground := Ground.guard }], guard := some (8, true) }) (v := ?va9) rfl ?zba9 ?zca9 ?zda9 ?zea9 ?zfa9 ?zga9 ?zha9
            case zfa9 => (refine Or.inl ⟨by rfl, ?_⟩; intro w hSw; (try dsimp only at hSw); go_simp; try with_reducible rfl)
            case zba9 => kernel_rfl
            case zca9 => kernel_rfl
            case zda9 => kernel_rfl
            case zea9 => exact fun _ _ _ h => h
            case zga9 => assumption
            try simp only [Act.put, List.setIfInBounds_toArray, List.set_cons_zero, List.set_cons_succ]
            refine wpAnyH_take (i := 10) (oi := { dst := some 155, op := Op.move (Operand.tmp 1), type := 9, pos := "law.go:77", after := #[{ on := 8, ground := Ground.guard }], guard := some (8, true) }) (v := ?va10) rfl ?zba10 ?zca10 ?zda10 ?zea10 ?zfa10 ?zga10 ?zha10
            case zfa10 => (refine Or.inl ⟨by rfl, ?_⟩; intro w hSw; (try dsimp only at hSw); go_simp; try with_reducible rfl)
            case zba10 => kernel_rfl
            case zca10 => kernel_rfl
            case zda10 => kernel_rfl
            case zea10 => exact fun _ _ _ h => h
            case zga10 => assumption
            try simp only [Act.put, List.setIfInBounds_toArray, List.set_cons_zero, List.set_cons_succ]
            refine wpAnyH_take (i := 11) (oi := { dst := some 156, op := Op.move (Operand.tmp 2), type := 9, pos := "law.go:77", after := #[{ on := 8, ground := Ground.guard }], guard := some (8, true) }) (v := ?va11) rfl ?zba11 ?zca11 ?zda11 ?zea11 ?zfa11 ?zga11 ?zha11
            case zfa11 => (refine Or.inl ⟨by rfl, ?_⟩; intro w hSw; (try dsimp only at hSw); go_simp; try with_reducible rfl)
            case zba11 => kernel_rfl
            case zca11 => kernel_rfl
            case zda11 => kernel_rfl
            case zea11 => exact fun _ _ _ h => h
            case zga11 => assumption
            try simp only [Act.put, List.setIfInBounds_toArray, List.set_cons_zero, List.set_cons_succ]
            refine wpAnyH_take (i := 13) (oi := { dst := some 158, op := Op.fieldAddr 32 (Operand.tmp 13) 0, type := 0, pos := "law.go:77", after := #[{ on := 8, ground := Ground.guard }], guard := some (8, true) }) (v := ?va13) rfl ?zba13 ?zca13 ?zda13 ?zea13 ?zfa13 ?zga13 ?zha13
            case zfa13 => (refine Or.inl ⟨by rfl, ?_⟩; intro w hSw; (try dsimp only at hSw); go_simp; try with_reducible rfl)
            case zba13 => kernel_rfl
            case zca13 => kernel_rfl
            case zda13 => kernel_rfl
            case zea13 => exact fun _ _ _ h => h
            case zga13 => assumption
            try simp only [Act.put, List.setIfInBounds_toArray, List.set_cons_zero, List.set_cons_succ]
            refine wpAnyH_take (i := 14) (oi := { dst := some 159, op := Op.load 3 (Operand.tmp 158), type := 3, pos := "law.go:77", after := #[{ on := 13, ground := Ground.data }, { on := 8, ground := Ground.guard }], guard := some (8, true) }) (v := ?va14) rfl ?zba14 ?zca14 ?zda14 ?zea14 ?zfa14 ?zga14 ?zha14
            case zfa14 => (refine Or.inl ⟨by rfl, ?_⟩; intro w hSw; (try dsimp only at hSw); go_simp; try with_reducible rfl)
            case zba14 => kernel_rfl
            case zca14 => kernel_rfl
            case zda14 => kernel_rfl
            case zea14 => exact fun _ _ _ h => h
            case zga14 => assumption
            try simp only [Act.put, List.setIfInBounds_toArray, List.set_cons_zero, List.set_cons_succ]
            refine wpAnyH_take (i := 15) (oi := { dst := some 160, op := Op.binOp BinOp.gtr 3 (Operand.tmp 159) (Operand.const (Value.int IntKind.i64 0)) 3, type := 4, pos := "law.go:77", after := #[{ on := 14, ground := Ground.data }, { on := 8, ground := Ground.guard }], guard := some (8, true) }) (v := ?va15) rfl ?zba15 ?zca15 ?zda15 ?zea15 ?zfa15 ?zga15 ?zha15
            case zfa15 => (refine Or.inl ⟨by rfl, ?_⟩; intro w hSw; (try dsimp only at hSw); go_simp; try with_reducible rfl)
            case zba15 => kernel_rfl
            case zca15 => kernel_rfl
            case zda15 => kernel_rfl
            case zea15 => exact fun _ _ _ h => h
            case zga15 => assumption
            try simp only [Act.put, List.setIfInBounds_toArray, List.set_cons_zero, List.set_cons_succ]
            refine wpAnyH_ready (rs := [12]) (by kernel_rfl) (by simp) ?_
            refine AllReadyH.cons (o := { dst := some 157, op := Op.call { callee := Callee.value (Operand.func 17), args := #[Operand.tmp 154, Operand.tmp 155, Operand.tmp 156], argTypes := #[25, 9, 9] }, type := 4, pos := "law.go:77", after := #[{ on := 9, ground := Ground.data }, { on := 10, ground := Ground.data }, { on := 11, ground := Ground.data }, { on := 8, ground := Ground.chain }, { on := 8, ground := Ground.guard }], guard := some (8, true) }) rfl (fun K hK => ?_) AllReadyH.nil
            go_simp
            (go_at_call 17; refine (HSA.out x1 hS1.2.2).mono ?_; rintro e x2 ⟨rfl, hb2⟩; have hS2 := same_hold rp rq hS1 hb2; clear hb2)
            go_wp2_with fail
            refine hK.out _ _ ?_ (fun hHeld => ?_)
            · exact hS2
            clear hK K
            try simp only [Act.put, List.setIfInBounds_toArray, List.set_cons_zero, List.set_cons_succ]
            refine wpAnyH_take (i := 16) (oi := { dst := some 161, op := Op.move (Operand.tmp 160), type := 4, pos := "law.go:77", after := #[{ on := 15, ground := Ground.data }, { on := 12, ground := Ground.chain }, { on := 8, ground := Ground.guard }], guard := some (8, true) }) (v := ?va16) rfl ?zba16 ?zca16 ?zda16 ?zea16 ?zfa16 ?zga16 ?zha16
            case zfa16 => (refine Or.inl ⟨by rfl, ?_⟩; intro w hSw; (try dsimp only at hSw); go_simp; try with_reducible rfl)
            case zba16 => kernel_rfl
            case zca16 => kernel_rfl
            case zda16 => kernel_rfl
            case zea16 => exact fun _ _ _ h => h
            case zga16 => assumption
            try simp only [Act.put, List.setIfInBounds_toArray, List.set_cons_zero, List.set_cons_succ]
            refine wpAnyH_take (i := 17) (oi := { dst := some 162, op := Op.move (Operand.tmp 14), type := 33, pos := "law.go:77", after := #[{ on := 16, ground := Ground.guard }], guard := some (16, true) }) (v := ?va17) rfl ?zba17 ?zca17 ?zda17 ?zea17 ?zfa17 ?zga17 ?zha17
            case zfa17 => (refine Or.inl ⟨by rfl, ?_⟩; intro w hSw; (try dsimp only at hSw); go_simp; try with_reducible rfl)
            case zba17 => kernel_rfl
            case zca17 => kernel_rfl
            case zda17 => kernel_rfl
            case zea17 => exact fun _ _ _ h => h
            case zga17 => assumption
            try simp only [Act.put, List.setIfInBounds_toArray, List.set_cons_zero, List.set_cons_succ]
            refine wpAnyH_take (i := 18) (oi := { dst := some 163, op := Op.binOp BinOp.eql 33 (Operand.tmp 162) (Operand.const (Value.int IntKind.i64 0)) 33, type := 4, pos := "law.go:77", after := #[{ on := 17, ground := Ground.data }, { on := 16, ground := Ground.guard }], guard := some (16, true) }) (v := ?va18) rfl ?zba18 ?zca18 ?zda18 ?zea18 ?zfa18 ?zga18 ?zha18
            case zfa18 => (refine Or.inl ⟨by rfl, ?_⟩; intro w hSw; (try dsimp only at hSw); go_simp; try with_reducible rfl)
            case zba18 => kernel_rfl
            case zca18 => kernel_rfl
            case zda18 => kernel_rfl
            case zea18 => exact fun _ _ _ h => h
            case zga18 => assumption
            try simp only [Act.put, List.setIfInBounds_toArray, List.set_cons_zero, List.set_cons_succ]
            refine wpAnyH_take (i := 19) (oi := { dst := some 164, op := Op.pick (Operand.tmp 161) (Operand.tmp 163) (Operand.const (Value.bool false)), type := 4, pos := "law.go:77", after := #[{ on := 16, ground := Ground.data }, { on := 18, ground := Ground.data }, { on := 8, ground := Ground.guard }], guard := some (8, true) }) (v := ?va19) rfl ?zba19 ?zca19 ?zda19 ?zea19 ?zfa19 ?zga19 ?zha19
            case zfa19 => (refine Or.inl ⟨by rfl, ?_⟩; intro w hSw; (try dsimp only at hSw); go_simp; try with_reducible rfl)
            case zba19 => kernel_rfl
            case zca19 => kernel_rfl
            case zda19 => kernel_rfl
            case zea19 => exact fun _ _ _ h => h
            case zga19 => assumption
            try simp only [Act.put, List.setIfInBounds_toArray, List.set_cons_zero, List.set_cons_succ]
            refine wpAnyH_take (i := 20) (oi := { dst := some 165, op := Op.move (Operand.tmp 164), type := 4, pos := "law.go:77", after := #[{ on := 19, ground := Ground.data }, { on := 16, ground := Ground.chain }, { on := 8, ground := Ground.guard }], guard := some (8, true) }) (v := ?va20) rfl ?zba20 ?zca20 ?zda20 ?zea20 ?zfa20 ?zga20 ?zha20
            case zfa20 => (refine Or.inl ⟨by rfl, ?_⟩; intro w hSw; (try dsimp only at hSw); go_simp; try with_reducible rfl)
            case zba20 => kernel_rfl
            case zca20 => kernel_rfl
            case zda20 => kernel_rfl
            case zea20 => exact fun _ _ _ h => h
            case zga20 => assumption
            try simp only [Act.put, List.setIfInBounds_toArray, List.set_cons_zero, List.set_cons_succ]
            refine wpAnyH_take (i := 21) (oi := { dst := some 166, op := Op.fieldAddr 32 (Operand.tmp 23) 0, type := 0, pos := "law.go:77", after := #[{ on := 20, ground := Ground.guard }], guard := some (20, true) }) (v := ?va21) rfl ?zba21 ?zca21 ?zda21 ?zea21 ?zfa21 ?zga21 ?zha21
            case zfa21 => (refine Or.inl ⟨by rfl, ?_⟩; intro w hSw; (try dsimp only at hSw); go_simp; try with_reducible rfl)
            case zba21 => kernel_rfl
            case zca21 => kernel_rfl
            case zda21 => kernel_rfl
            case zea21 => exact fun _ _ _ h => h
            case zga21 => assumption
            try simp only [Act.put, List.setIfInBounds_toArray, List.set_cons_zero, List.set_cons_succ]
            refine wpAnyH_take (i := 22) (oi := { dst := some 167, op := Op.load 3 (Operand.tmp 166), type := 3, pos := "law.go:77", after := #[{ on := 21, ground := Ground.data }, { on := 20, ground := Ground.guard }], guard := some (20, true) }) (v := ?va22) rfl ?zba22 ?zca22 ?zda22 ?zea22 ?zfa22 ?zga22 ?zha22
            case zfa22 => (refine Or.inl ⟨by rfl, ?_⟩; intro w hSw; (try dsimp only at hSw); go_simp; try with_reducible rfl)
            case zba22 => kernel_rfl
            case zca22 => kernel_rfl
            case zda22 => kernel_rfl
            case zea22 => exact fun _ _ _ h => h
            case zga22 => assumption
            try simp only [Act.put, List.setIfInBounds_toArray, List.set_cons_zero, List.set_cons_succ]
            refine wpAnyH_take (i := 23) (oi := { dst := some 168, op := Op.fieldAddr 32 (Operand.tmp 13) 0, type := 0, pos := "law.go:77", after := #[{ on := 20, ground := Ground.guard }], guard := some (20, true) }) (v := ?va23) rfl ?zba23 ?zca23 ?zda23 ?zea23 ?zfa23 ?zga23 ?zha23
            case zfa23 => (refine Or.inl ⟨by rfl, ?_⟩; intro w hSw; (try dsimp only at hSw); go_simp; try with_reducible rfl)
            case zba23 => kernel_rfl
            case zca23 => kernel_rfl
            case zda23 => kernel_rfl
            case zea23 => exact fun _ _ _ h => h
            case zga23 => assumption
            try simp only [Act.put, List.setIfInBounds_toArray, List.set_cons_zero, List.set_cons_succ]
            refine wpAnyH_take (i := 24) (oi := { dst := some 169, op := Op.load 3 (Operand.tmp 168), type := 3, pos := "law.go:77", after := #[{ on := 23, ground := Ground.data }, { on := 20, ground := Ground.guard }], guard := some (20, true) }) (v := ?va24) rfl ?zba24 ?zca24 ?zda24 ?zea24 ?zfa24 ?zga24 ?zha24
            case zfa24 => (refine Or.inl ⟨by rfl, ?_⟩; intro w hSw; (try dsimp only at hSw); go_simp; try with_reducible rfl)
            case zba24 => kernel_rfl
            case zca24 => kernel_rfl
            case zda24 => kernel_rfl
            case zea24 => exact fun _ _ _ h => h
            case zga24 => assumption
            try simp only [Act.put, List.setIfInBounds_toArray, List.set_cons_zero, List.set_cons_succ]
            refine wpAnyH_take (i := 25) (oi := { dst := some 170, op := Op.binOp BinOp.eql 3 (Operand.tmp 167) (Operand.tmp 169) 3, type := 4, pos := "law.go:77", after := #[{ on := 22, ground := Ground.data }, { on := 24, ground := Ground.data }, { on := 20, ground := Ground.guard }], guard := some (20, true) }) (v := ?va25) rfl ?zba25 ?zca25 ?zda25 ?zea25 ?zfa25 ?zga25 ?zha25
            case zfa25 => (refine Or.inl ⟨by rfl, ?_⟩; intro w hSw; (try dsimp only at hSw); go_simp; try with_reducible rfl)
            case zba25 => kernel_rfl
            case zca25 => kernel_rfl
            case zda25 => kernel_rfl
            case zea25 => exact fun _ _ _ h => h
            case zga25 => assumption
            try simp only [Act.put, List.setIfInBounds_toArray, List.set_cons_zero, List.set_cons_succ]
            refine wpAnyH_take (i := 26) (oi := { dst := some 171, op := Op.pick (Operand.tmp 165) (Operand.tmp 170) (Operand.const (Value.bool false)), type := 4, pos := "law.go:77", after := #[{ on := 20, ground := Ground.data }, { on := 25, ground := Ground.data }, { on := 8, ground := Ground.guard }], guard := some (8, true) }) (v := ?va26) rfl ?zba26 ?zca26 ?zda26 ?zea26 ?zfa26 ?zga26 ?zha26
            case zfa26 => (refine Or.inl ⟨by rfl, ?_⟩; intro w hSw; (try dsimp only at hSw); go_simp; try with_reducible rfl)
            case zba26 => kernel_rfl
            case zca26 => kernel_rfl
            case zda26 => kernel_rfl
            case zea26 => exact fun _ _ _ h => h
            case zga26 => assumption
            try simp only [Act.put, List.setIfInBounds_toArray, List.set_cons_zero, List.set_cons_succ]
            refine wpAnyH_take (i := 27) (oi := { dst := some 172, op := Op.binOp BinOp.eql 4 (Operand.tmp 157) (Operand.tmp 171) 4, type := 4, pos := "law.go:77", after := #[{ on := 12, ground := Ground.data }, { on := 26, ground := Ground.data }, { on := 8, ground := Ground.guard }], guard := some (8, true) }) (v := ?va27) rfl ?zba27 ?zca27 ?zda27 ?zea27 ?zfa27 ?zga27 ?zha27
            case zfa27 => (refine Or.inl ⟨by rfl, ?_⟩; intro w hSw; (try dsimp only at hSw); go_simp; try with_reducible rfl)
            case zba27 => kernel_rfl
            case zca27 => kernel_rfl
            case zda27 => kernel_rfl
            case zea27 => exact fun _ _ _ h => h
            case zga27 => assumption
            try simp only [Act.put, List.setIfInBounds_toArray, List.set_cons_zero, List.set_cons_succ]
            refine wpAnyH_take (i := 28) (oi := { dst := some 173, op := Op.pick (Operand.tmp 153) (Operand.tmp 172) (Operand.const (Value.bool false)), type := 4, pos := "law.go:77", after := #[{ on := 8, ground := Ground.data }, { on := 27, ground := Ground.data }], guard := none }) (v := ?va28) rfl ?zba28 ?zca28 ?zda28 ?zea28 ?zfa28 ?zga28 ?zha28
            case zfa28 => (refine Or.inl ⟨by rfl, ?_⟩; intro w hSw; (try dsimp only at hSw); go_simp; try with_reducible rfl)
            case zba28 => kernel_rfl
            case zca28 => kernel_rfl
            case zda28 => kernel_rfl
            case zea28 => exact fun _ _ _ h => h
            case zga28 => assumption
            try simp only [Act.put, List.setIfInBounds_toArray, List.set_cons_zero, List.set_cons_succ]
            refine wpAnyH_take (i := 29) (oi := { dst := some 174, op := Op.move (Operand.tmp 173), type := 4, pos := "law.go:77", after := #[{ on := 28, ground := Ground.data }, { on := 20, ground := Ground.chain }], guard := none }) (v := ?va29) rfl ?zba29 ?zca29 ?zda29 ?zea29 ?zfa29 ?zga29 ?zha29
            case zfa29 => (refine Or.inl ⟨by rfl, ?_⟩; intro w hSw; (try dsimp only at hSw); go_simp; try with_reducible rfl)
            case zba29 => kernel_rfl
            case zca29 => kernel_rfl
            case zda29 => kernel_rfl
            case zea29 => exact fun _ _ _ h => h
            case zga29 => assumption
            try simp only [Act.put, List.setIfInBounds_toArray, List.set_cons_zero, List.set_cons_succ]
            refine wpAnyH_ready (rs := [30]) (by kernel_rfl) (by simp) ?_
            refine AllReadyH.cons (o := { dst := some 175, op := Op.call { callee := Callee.value (Operand.func 6), args := #[], argTypes := #[] }, type := 4, pos := "law.go:77", after := #[{ on := 29, ground := Ground.chain }, { on := 29, ground := Ground.guard }], guard := some (29, true) }) rfl (fun K hK => ?_) AllReadyH.nil
            go_simp
            (go_at_call 6; refine (HL.out x2).mono ?_; rintro e x3 ⟨rfl, hb3⟩; have hS3 := same_hold rp rq hS2 hb3; clear hb3)
            go_wp2_with fail
            refine hK.out _ _ ?_ (fun hHeld => ?_)
            · exact hS3
            clear hK K
            try simp only [Act.put, List.setIfInBounds_toArray, List.set_cons_zero, List.set_cons_succ]
            refine wpAnyH_take (i := 31) (oi := { dst := some 176, op := Op.pick (Operand.tmp 174) (Operand.tmp 175) (Operand.const (Value.bool false)), type := 4, pos := "law.go:77", after := #[{ on := 29, ground := Ground.data }, { on := 30, ground := Ground.data }], guard := none }) (v := ?va31) rfl ?zba31 ?zca31 ?zda31 ?zea31 ?zfa31 ?zga31 ?zha31
            case zfa31 => (refine Or.inl ⟨by rfl, ?_⟩; intro w hSw; (try dsimp only at hSw); go_simp; try with_reducible rfl)
            case zba31 => kernel_rfl
            case zca31 => kernel_rfl
            case zda31 => kernel_rfl
            case zea31 => exact fun _ _ _ h => h
            case zga31 => assumption
            try simp only [Act.put, List.setIfInBounds_toArray, List.set_cons_zero, List.set_cons_succ]
            refine wpAnyH_take (i := 32) (oi := { dst := some 6, op := Op.assign (Operand.tmp 176), type := 4, pos := "law.go:77", after := #[{ on := 31, ground := Ground.data }, { on := 30, ground := Ground.chain }, { on := 0, ground := Ground.phase }, { on := 1, ground := Ground.phase }, { on := 2, ground := Ground.phase }, { on := 3, ground := Ground.phase }, { on := 4, ground := Ground.phase }, { on := 5, ground := Ground.phase }, { on := 6, ground := Ground.phase }, { on := 7, ground := Ground.phase }, { on := 8, ground := Ground.phase }, { on := 9, ground := Ground.phase }, { on := 10, ground := Ground.phase }, { on := 11, ground := Ground.phase }, { on := 12, ground := Ground.phase }, { on := 13, ground := Ground.phase }, { on := 14, ground := Ground.phase }, { on := 15, ground := Ground.phase }, { on := 16, ground := Ground.phase }, { on := 17, ground := Ground.phase }, { on := 18, ground := Ground.phase }, { on := 19, ground := Ground.phase }, { on := 20, ground := Ground.phase }, { on := 21, ground := Ground.phase }, { on := 22, ground := Ground.phase }, { on := 23, ground := Ground.phase }, { on := 24, ground := Ground.phase }, { on := 25, ground := Ground.phase }, { on := 26, ground := Ground.phase }, { on := 27, ground := Ground.phase }, { on := 28, ground := Ground.phase }, { on := 29, ground := Ground.phase }, { on := 30, ground := Ground.phase }, { on := 31, ground := Ground.phase }], guard := none }) (v := ?va32) rfl ?zba32 ?zca32 ?zda32 ?zea32 ?zfa32 ?zga32 ?zha32
            case zfa32 => (refine Or.inl ⟨by rfl, ?_⟩; intro w hSw; (try dsimp only at hSw); go_simp; try with_reducible rfl)
            case zba32 => kernel_rfl
            case zca32 => kernel_rfl
            case zda32 => kernel_rfl
            case zea32 => exact fun _ _ _ h => h
            case zga32 => assumption
            try simp only [Act.put, List.setIfInBounds_toArray, List.set_cons_zero, List.set_cons_succ]
            refine wpAnyH_done (by kernel_rfl) ?_ _
            have BX := Lib.hid (on HB.out hS3.2.2)
            go_wp2_with fail
            go_ret
            exact ⟨rfl, BX.out⟩
          · skip
            have q1 : (0 : Int) < a21 := k1
            have q2 : (a34 == 0) = false := by simpa using k2
            rw [decide_eq_true k1, decide_eq_false k2] at HSA
            clear k2
            go_wp2_with fail
            refine wp_region_held_drew (S := fun w' => w'.cell? ⟨w8.heap.size, 0, none⟩ = some (.int .i64 a21) ∧ w'.cell? ⟨w18.heap.size, 0, none⟩ = some (.int .i64 a31) ∧ Below w19.heap.size w19 w') (by kernel_rfl) ⟨r0, r1, below_draws w19 1⟩ (fun hHeld => ?_)
            refine wpAnyH_take (i := 0) (oi := { dst := some 145, op := Op.move (Operand.tmp 21), type := 42, pos := "law.go:77", after := #[], guard := none }) (v := ?vb0) rfl ?zbb0 ?zcb0 ?zdb0 ?zeb0 ?zfb0 ?zgb0 ?zhb0
            case zfb0 => (refine Or.inl ⟨by rfl, ?_⟩; intro w hSw; (try dsimp only at hSw); go_simp; try with_reducible rfl)
            case zbb0 => kernel_rfl
            case zcb0 => kernel_rfl
            case zdb0 => kernel_rfl
            case zeb0 => exact fun _ _ _ h => h
            case zgb0 => assumption
            try simp only [Act.put, List.setIfInBounds_toArray, List.set_cons_zero, List.set_cons_succ]
            refine wpAnyH_take (i := 1) (oi := { dst := some 146, op := Op.move (Operand.tmp 22), type := 42, pos := "law.go:77", after := #[], guard := none }) (v := ?vb1) rfl ?zbb1 ?zcb1 ?zdb1 ?zeb1 ?zfb1 ?zgb1 ?zhb1
            case zfb1 => (refine Or.inl ⟨by rfl, ?_⟩; intro w hSw; (try dsimp only at hSw); go_simp; try with_reducible rfl)
            case zbb1 => kernel_rfl
            case zcb1 => kernel_rfl
            case zdb1 => kernel_rfl
            case zeb1 => exact fun _ _ _ h => h
            case zgb1 => assumption
            try simp only [Act.put, List.setIfInBounds_toArray, List.set_cons_zero, List.set_cons_succ]
            refine wpAnyH_ready (rs := [2]) (by kernel_rfl) (by simp) ?_
            refine AllReadyH.cons (o := { dst := some 147, op := Op.call { callee := Callee.value (Operand.func 16), args := #[Operand.tmp 145, Operand.tmp 146], argTypes := #[42, 42] }, type := 4, pos := "law.go:77", after := #[{ on := 0, ground := Ground.data }, { on := 1, ground := Ground.data }], guard := none }) rfl (fun K hK => ?_) AllReadyH.nil
            go_simp
            (go_at_call 16; refine (HSM2.out _ (below_draws w19 1)).mono ?_; rintro e x1 ⟨rfl, n1, hx1⟩; have hb1 : Below (w19.drewN 1).heap.size (w19.drewN 1) x1 := (by rw [hx1]; exact below_draws _ _); have hS1 := same_hold (w' := w19.drewN 1) rp rq ⟨r0, r1, below_draws w19 1⟩ hb1; clear hx1 hb1)
            go_wp2_with fail
            refine hK.out _ _ ?_ (fun hHeld => ?_)
            · exact hS1
            clear hK K
            try simp only [Act.put, List.setIfInBounds_toArray, List.set_cons_zero, List.set_cons_succ]
            refine wpAnyH_take (i := 3) (oi := { dst := some 148, op := Op.move (Operand.tmp 147), type := 4, pos := "law.go:77", after := #[{ on := 2, ground := Ground.data }, { on := 2, ground := Ground.chain }], guard := none }) (v := ?vb3) rfl ?zbb3 ?zcb3 ?zdb3 ?zeb3 ?zfb3 ?zgb3 ?zhb3
            case zfb3 => (refine Or.inl ⟨by rfl, ?_⟩; intro w hSw; (try dsimp only at hSw); go_simp; try with_reducible rfl)
            case zbb3 => kernel_rfl
            case zcb3 => kernel_rfl
            case zdb3 => kernel_rfl
            case zeb3 => exact fun _ _ _ h => h
            case zgb3 => assumption
            try simp only [Act.put, List.setIfInBounds_toArray, List.set_cons_zero, List.set_cons_succ]
            refine wpAnyH_take (i := 4) (oi := { dst := some 149, op := Op.move (Operand.tmp 10), type := 33, pos := "law.go:77", after := #[{ on := 3, ground := Ground.guard }], guard := some (3, true) }) (v := ?vb4) rfl ?zbb4 ?zcb4 ?zdb4 ?zeb4 ?zfb4 ?zgb4 ?zhb4
            case zfb4 => (refine Or.inl ⟨by rfl, ?_⟩; intro w hSw; (try dsimp only at hSw); go_simp; try with_reducible rfl)
            case zbb4 => kernel_rfl
            case zcb4 => kernel_rfl
            case zdb4 => kernel_rfl
            case zeb4 => exact fun _ _ _ h => h
            case zgb4 => assumption
            try simp only [Act.put, List.setIfInBounds_toArray, List.set_cons_zero, List.set_cons_succ]
            refine wpAnyH_take (i := 5) (oi := { dst := some 150, op := Op.move (Operand.tmp 12), type := 3, pos := "law.go:77", after := #[{ on := 3, ground := Ground.guard }], guard := some (3, true) }) (v := ?vb5) rfl ?zbb5 ?zcb5 ?zdb5 ?zeb5 ?zfb5 ?zgb5 ?zhb5
            case zfb5 => (refine Or.inl ⟨by rfl, ?_⟩; intro w hSw; (try dsimp only at hSw); go_simp; try with_reducible rfl)
            case zbb5 => kernel_rfl
            case zcb5 => kernel_rfl
            case zdb5 => kernel_rfl
            case zeb5 => exact fun _ _ _ h => h
            case zgb5 => assumption
            try simp only [Act.put, List.setIfInBounds_toArray, List.set_cons_zero, List.set_cons_succ]
            refine wpAnyH_take (i := 6) (oi := { dst := some 151, op := Op.binOp BinOp.eql 33 (Operand.tmp 149) (Operand.tmp 150) 33, type := 4, pos := "law.go:77", after := #[{ on := 4, ground := Ground.data }, { on := 5, ground := Ground.data }, { on := 3, ground := Ground.guard }], guard := some (3, true) }) (v := ?vb6) rfl ?zbb6 ?zcb6 ?zdb6 ?zeb6 ?zfb6 ?zgb6 ?zhb6
            case zfb6 => (refine Or.inl ⟨by rfl, ?_⟩; intro w hSw; (try dsimp only at hSw); go_simp; try with_reducible rfl)
            case zbb6 => kernel_rfl
            case zcb6 => kernel_rfl
            case zdb6 => kernel_rfl
            case zeb6 => exact fun _ _ _ h => h
            case zgb6 => assumption
            try simp only [Act.put, List.setIfInBounds_toArray, List.set_cons_zero, List.set_cons_succ]
            refine wpAnyH_take (i := 7) (oi := { dst := some 152, op := Op.pick (Operand.tmp 148) (Operand.tmp 151) (Operand.const (Value.bool false)), type := 4, pos := "law.go:77", after := #[{ on := 3, ground := Ground.data }, { on := 6, ground := Ground.data }], guard := none }) (v := ?vb7) rfl ?zbb7 ?zcb7 ?zdb7 ?zeb7 ?zfb7 ?zgb7 ?zhb7
            case zfb7 => (refine Or.inl ⟨by rfl, ?_⟩; intro w hSw; (try dsimp only at hSw); go_simp; try with_reducible rfl)
            case zbb7 => kernel_rfl
            case zcb7 => kernel_rfl
            case zdb7 => kernel_rfl
            case zeb7 => exact fun _ _ _ h => h
            case zgb7 => assumption
            try simp only [Act.put, List.setIfInBounds_toArray, List.set_cons_zero, List.set_cons_succ]
            refine wpAnyH_take (i := 8) (oi := { dst := some 153, op := Op.move (Operand.tmp 152), type := 4, pos := "law.go:77", after := #[{ on := 7, ground := Ground.data }, { on := 3, ground := Ground.chain }], guard := none }) (v := ?vb8) rfl ?zbb8 ?zcb8 ?zdb8 ?zeb8 ?zfb8 ?zgb8 ?zhb8
            case zfb8 => (refine Or.inl ⟨by rfl, ?_⟩; intro w hSw; (try dsimp only at hSw); go_simp; try with_reducible rfl)
            case zbb8 => kernel_rfl
            case zcb8 => kernel_rfl
            case zdb8 => kernel_rfl
            case zeb8 => exact fun _ _ _ h => h
            case zgb8 => assumption
            try simp only [Act.put, List.setIfInBounds_toArray, List.set_cons_zero, List.set_cons_succ]
            refine wpAnyH_take (i := 9) (oi := { dst := some 154, op := Op.move (Operand.tmp 7), type := 25, pos := "law.go:77", after := #[{ on := 8, ground := Ground.guard }], guard := some (8, true) }) (v := ?vb9) rfl ?zbb9 ?zcb9 ?zdb9 ?zeb9 ?zfb9 ?zgb9 ?zhb9
            case zfb9 => (refine Or.inl ⟨by rfl, ?_⟩; intro w hSw; (try dsimp only at hSw); go_simp; try with_reducible rfl)
            case zbb9 => kernel_rfl
            case zcb9 => kernel_rfl
            case zdb9 => kernel_rfl
            case zeb9 => exact fun _ _ _ h => h
            case zgb9 => assumption
            try simp only [Act.put, List.setIfInBounds_toArray, List.set_cons_zero, List.set_cons_succ]
            refine wpAnyH_take (i := 10) (oi := { dst := some 155, op := Op.move (Operand.tmp 1), type := 9, pos := "law.go:77", after := #[{ on := 8, ground := Ground.guard }], guard := some (8, true) }) (v := ?vb10) rfl ?zbb10 ?zcb10 ?zdb10 ?zeb10 ?zfb10 ?zgb10 ?zhb10
            case zfb10 => (refine Or.inl ⟨by rfl, ?_⟩; intro w hSw; (try dsimp only at hSw); go_simp; try with_reducible rfl)
            case zbb10 => kernel_rfl
            case zcb10 => kernel_rfl
            case zdb10 => kernel_rfl
            case zeb10 => exact fun _ _ _ h => h
            case zgb10 => assumption
            try simp only [Act.put, List.setIfInBounds_toArray, List.set_cons_zero, List.set_cons_succ]
            refine wpAnyH_take (i := 11) (oi := { dst := some 156, op := Op.move (Operand.tmp 2), type := 9, pos := "law.go:77", after := #[{ on := 8, ground := Ground.guard }], guard := some (8, true) }) (v := ?vb11) rfl ?zbb11 ?zcb11 ?zdb11 ?zeb11 ?zfb11 ?zgb11 ?zhb11
            case zfb11 => (refine Or.inl ⟨by rfl, ?_⟩; intro w hSw; (try dsimp only at hSw); go_simp; try with_reducible rfl)
            case zbb11 => kernel_rfl
            case zcb11 => kernel_rfl
            case zdb11 => kernel_rfl
            case zeb11 => exact fun _ _ _ h => h
            case zgb11 => assumption
            try simp only [Act.put, List.setIfInBounds_toArray, List.set_cons_zero, List.set_cons_succ]
            refine wpAnyH_take (i := 13) (oi := { dst := some 158, op := Op.fieldAddr 32 (Operand.tmp 13) 0, type := 0, pos := "law.go:77", after := #[{ on := 8, ground := Ground.guard }], guard := some (8, true) }) (v := ?vb13) rfl ?zbb13 ?zcb13 ?zdb13 ?zeb13 ?zfb13 ?zgb13 ?zhb13
            case zfb13 => (refine Or.inl ⟨by rfl, ?_⟩; intro w hSw; (try dsimp only at hSw); go_simp; try with_reducible rfl)
            case zbb13 => kernel_rfl
            case zcb13 => kernel_rfl
            case zdb13 => kernel_rfl
            case zeb13 => exact fun _ _ _ h => h
            case zgb13 => assumption
            try simp only [Act.put, List.setIfInBounds_toArray, List.set_cons_zero, List.set_cons_succ]
            refine wpAnyH_take (i := 14) (oi := { dst := some 159, op := Op.load 3 (Operand.tmp 158), type := 3, pos := "law.go:77", after := #[{ on := 13, ground := Ground.data }, { on := 8, ground := Ground.guard }], guard := some (8, true) }) (v := ?vb14) rfl ?zbb14 ?zcb14 ?zdb14 ?zeb14 ?zfb14 ?zgb14 ?zhb14
            case zfb14 => (refine Or.inl ⟨by rfl, ?_⟩; intro w hSw; (try dsimp only at hSw); go_simp; try with_reducible rfl)
            case zbb14 => kernel_rfl
            case zcb14 => kernel_rfl
            case zdb14 => kernel_rfl
            case zeb14 => exact fun _ _ _ h => h
            case zgb14 => assumption
            try simp only [Act.put, List.setIfInBounds_toArray, List.set_cons_zero, List.set_cons_succ]
            refine wpAnyH_take (i := 15) (oi := { dst := some 160, op := Op.binOp BinOp.gtr 3 (Operand.tmp 159) (Operand.const (Value.int IntKind.i64 0)) 3, type := 4, pos := "law.go:77", after := #[{ on := 14, ground := Ground.data }, { on := 8, ground := Ground.guard }], guard := some (8, true) }) (v := ?vb15) rfl ?zbb15 ?zcb15 ?zdb15 ?zeb15 ?zfb15 ?zgb15 ?zhb15
            case zfb15 => (refine Or.inl ⟨by rfl, ?_⟩; intro w hSw; (try dsimp only at hSw); go_simp; try with_reducible rfl)
            case zbb15 => kernel_rfl
            case zcb15 => kernel_rfl
            case zdb15 => kernel_rfl
            case zeb15 => exact fun _ _ _ h => h
            case zgb15 => assumption
            try simp only [Act.put, List.setIfInBounds_toArray, List.set_cons_zero, List.set_cons_succ]
            refine wpAnyH_ready (rs := [12]) (by kernel_rfl) (by simp) ?_
            refine AllReadyH.cons (o := { dst := some 157, op := Op.call { callee := Callee.value (Operand.func 17), args := #[Operand.tmp 154, Operand.tmp 155, Operand.tmp 156], argTypes := #[25, 9, 9] }, type := 4, pos := "law.go:77", after := #[{ on := 9, ground := Ground.data }, { on := 10, ground := Ground.data }, { on := 11, ground := Ground.data }, { on := 8, ground := Ground.chain }, { on := 8, ground := Ground.guard }], guard := some (8, true) }) rfl (fun K hK => ?_) AllReadyH.nil
            go_simp
            (go_at_call 17; refine (HSA.out x1 hS1.2.2).mono ?_; rintro e x2 ⟨rfl, hb2⟩; have hS2 := same_hold rp rq hS1 hb2; clear hb2)
            go_wp2_with fail
            refine hK.out _ _ ?_ (fun hHeld => ?_)
            · exact hS2
            clear hK K
            try simp only [Act.put, List.setIfInBounds_toArray, List.set_cons_zero, List.set_cons_succ]
            refine wpAnyH_take (i := 16) (oi := { dst := some 161, op := Op.move (Operand.tmp 160), type := 4, pos := "law.go:77", after := #[{ on := 15, ground := Ground.data }, { on := 12, ground := Ground.chain }, { on := 8, ground := Ground.guard }], guard := some (8, true) }) (v := ?vb16) rfl ?zbb16 ?zcb16 ?zdb16 ?zeb16 ?zfb16 ?zgb16 ?zhb16
            case zfb16 => (refine Or.inl ⟨by rfl, ?_⟩; intro w hSw; (try dsimp only at hSw); go_simp; try with_reducible rfl)
            case zbb16 => kernel_rfl
            case zcb16 => kernel_rfl
            case zdb16 => kernel_rfl
            case zeb16 => exact fun _ _ _ h => h
            case zgb16 => assumption
            try simp only [Act.put, List.setIfInBounds_toArray, List.set_cons_zero, List.set_cons_succ]
            refine wpAnyH_take (i := 17) (oi := { dst := some 162, op := Op.move (Operand.tmp 14), type := 33, pos := "law.go:77", after := #[{ on := 16, ground := Ground.guard }], guard := some (16, true) }) (v := ?vb17) rfl ?zbb17 ?zcb17 ?zdb17 ?zeb17 ?zfb17 ?zgb17 ?zhb17
            case zfb17 => (refine Or.inl ⟨by rfl, ?_⟩; intro w hSw; (try dsimp only at hSw); go_simp; try with_reducible rfl)
            case zbb17 => kernel_rfl
            case zcb17 => kernel_rfl
            case zdb17 => kernel_rfl
            case zeb17 => exact fun _ _ _ h => h
            case zgb17 => assumption
            try simp only [Act.put, List.setIfInBounds_toArray, List.set_cons_zero, List.set_cons_succ]
            refine wpAnyH_take (i := 18) (oi := { dst := some 163, op := Op.binOp BinOp.eql 33 (Operand.tmp 162) (Operand.const (Value.int IntKind.i64 0)) 33, type := 4, pos := "law.go:77", after := #[{ on := 17, ground := Ground.data }, { on := 16, ground := Ground.guard }], guard := some (16, true) }) (v := ?vb18) rfl ?zbb18 ?zcb18 ?zdb18 ?zeb18 ?zfb18 ?zgb18 ?zhb18
            case zfb18 => (refine Or.inl ⟨by rfl, ?_⟩; intro w hSw; (try dsimp only at hSw); go_simp; try with_reducible rfl)
            case zbb18 => kernel_rfl
            case zcb18 => kernel_rfl
            case zdb18 => kernel_rfl
            case zeb18 => exact fun _ _ _ h => h
            case zgb18 => assumption
            try simp only [Act.put, List.setIfInBounds_toArray, List.set_cons_zero, List.set_cons_succ]
            refine wpAnyH_take (i := 19) (oi := { dst := some 164, op := Op.pick (Operand.tmp 161) (Operand.tmp 163) (Operand.const (Value.bool false)), type := 4, pos := "law.go:77", after := #[{ on := 16, ground := Ground.data }, { on := 18, ground := Ground.data }, { on := 8, ground := Ground.guard }], guard := some (8, true) }) (v := ?vb19) rfl ?zbb19 ?zcb19 ?zdb19 ?zeb19 ?zfb19 ?zgb19 ?zhb19
            case zfb19 => (refine Or.inl ⟨by rfl, ?_⟩; intro w hSw; (try dsimp only at hSw); go_simp; try with_reducible rfl)
            case zbb19 => kernel_rfl
            case zcb19 => kernel_rfl
            case zdb19 => kernel_rfl
            case zeb19 => exact fun _ _ _ h => h
            case zgb19 => assumption
            try simp only [Act.put, List.setIfInBounds_toArray, List.set_cons_zero, List.set_cons_succ]
            refine wpAnyH_take (i := 20) (oi := { dst := some 165, op := Op.move (Operand.tmp 164), type := 4, pos := "law.go:77", after := #[{ on := 19, ground := Ground.data }, { on := 16, ground := Ground.chain }, { on := 8, ground := Ground.guard }], guard := some (8, true) }) (v := ?vb20) rfl ?zbb20 ?zcb20 ?zdb20 ?zeb20 ?zfb20 ?zgb20 ?zhb20
            case zfb20 => (refine Or.inl ⟨by rfl, ?_⟩; intro w hSw; (try dsimp only at hSw); go_simp; try with_reducible rfl)
            case zbb20 => kernel_rfl
            case zcb20 => kernel_rfl
            case zdb20 => kernel_rfl
            case zeb20 => exact fun _ _ _ h => h
            case zgb20 => assumption
            try simp only [Act.put, List.setIfInBounds_toArray, List.set_cons_zero, List.set_cons_succ]
            refine wpAnyH_take (i := 21) (oi := { dst := some 166, op := Op.fieldAddr 32 (Operand.tmp 23) 0, type := 0, pos := "law.go:77", after := #[{ on := 20, ground := Ground.guard }], guard := some (20, true) }) (v := undef) rfl ?zbb21 ?zcb21 ?zdb21 ?zeb21 ?zfb21 ?zgb21 ?zhb21
            case zfb21 => exact Or.inr ⟨by rfl, rfl⟩
            case zbb21 => kernel_rfl
            case zcb21 => kernel_rfl
            case zdb21 => kernel_rfl
            case zeb21 => exact fun _ _ _ h => h
            case zgb21 => assumption
            try simp only [Act.put, List.setIfInBounds_toArray, List.set_cons_zero, List.set_cons_succ]
            refine wpAnyH_take (i := 22) (oi := { dst := some 167, op := Op.load 3 (Operand.tmp 166), type := 3, pos := "law.go:77", after := #[{ on := 21, ground := Ground.data }, { on := 20, ground := Ground.guard }], guard := some (20, true) }) (v := undef) rfl ?zbb22 ?zcb22 ?zdb22 ?zeb22 ?zfb22 ?zgb22 ?zhb22
            case zfb22 => exact Or.inr ⟨by rfl, rfl⟩
            case zbb22 => kernel_rfl
            case zcb22 => kernel_rfl
            case zdb22 => kernel_rfl
            case zeb22 => exact fun _ _ _ h => h
            case zgb22 => assumption
            try simp only [Act.put, List.setIfInBounds_toArray, List.set_cons_zero, List.set_cons_succ]
            refine wpAnyH_take (i := 23) (oi := { dst := some 168, op := Op.fieldAddr 32 (Operand.tmp 13) 0, type := 0, pos := "law.go:77", after := #[{ on := 20, ground := Ground.guard }], guard := some (20, true) }) (v := undef) rfl ?zbb23 ?zcb23 ?zdb23 ?zeb23 ?zfb23 ?zgb23 ?zhb23
            case zfb23 => exact Or.inr ⟨by rfl, rfl⟩
            case zbb23 => kernel_rfl
            case zcb23 => kernel_rfl
            case zdb23 => kernel_rfl
            case zeb23 => exact fun _ _ _ h => h
            case zgb23 => assumption
            try simp only [Act.put, List.setIfInBounds_toArray, List.set_cons_zero, List.set_cons_succ]
            refine wpAnyH_take (i := 24) (oi := { dst := some 169, op := Op.load 3 (Operand.tmp 168), type := 3, pos := "law.go:77", after := #[{ on := 23, ground := Ground.data }, { on := 20, ground := Ground.guard }], guard := some (20, true) }) (v := undef) rfl ?zbb24 ?zcb24 ?zdb24 ?zeb24 ?zfb24 ?zgb24 ?zhb24
            case zfb24 => exact Or.inr ⟨by rfl, rfl⟩
            case zbb24 => kernel_rfl
            case zcb24 => kernel_rfl
            case zdb24 => kernel_rfl
            case zeb24 => exact fun _ _ _ h => h
            case zgb24 => assumption
            try simp only [Act.put, List.setIfInBounds_toArray, List.set_cons_zero, List.set_cons_succ]
            refine wpAnyH_take (i := 25) (oi := { dst := some 170, op := Op.binOp BinOp.eql 3 (Operand.tmp 167) (Operand.tmp 169) 3, type := 4, pos := "law.go:77", after := #[{ on := 22, ground := Ground.data }, { on := 24, ground := Ground.data }, { on := 20, ground := Ground.guard }], guard := some (20, true) }) (v := undef) rfl ?zbb25 ?zcb25 ?zdb25 ?zeb25 ?zfb25 ?zgb25 ?zhb25
            case zfb25 => exact Or.inr ⟨by rfl, rfl⟩
            case zbb25 => kernel_rfl
            case zcb25 => kernel_rfl
            case zdb25 => kernel_rfl
            case zeb25 => exact fun _ _ _ h => h
            case zgb25 => assumption
            try simp only [Act.put, List.setIfInBounds_toArray, List.set_cons_zero, List.set_cons_succ]
            refine wpAnyH_take (i := 26) (oi := { dst := some 171, op := Op.pick (Operand.tmp 165) (Operand.tmp 170) (Operand.const (Value.bool false)), type := 4, pos := "law.go:77", after := #[{ on := 20, ground := Ground.data }, { on := 25, ground := Ground.data }, { on := 8, ground := Ground.guard }], guard := some (8, true) }) (v := ?vb26) rfl ?zbb26 ?zcb26 ?zdb26 ?zeb26 ?zfb26 ?zgb26 ?zhb26
            case zfb26 => (refine Or.inl ⟨by rfl, ?_⟩; intro w hSw; (try dsimp only at hSw); go_simp; try with_reducible rfl)
            case zbb26 => kernel_rfl
            case zcb26 => kernel_rfl
            case zdb26 => kernel_rfl
            case zeb26 => exact fun _ _ _ h => h
            case zgb26 => assumption
            try simp only [Act.put, List.setIfInBounds_toArray, List.set_cons_zero, List.set_cons_succ]
            refine wpAnyH_take (i := 27) (oi := { dst := some 172, op := Op.binOp BinOp.eql 4 (Operand.tmp 157) (Operand.tmp 171) 4, type := 4, pos := "law.go:77", after := #[{ on := 12, ground := Ground.data }, { on := 26, ground := Ground.data }, { on := 8, ground := Ground.guard }], guard := some (8, true) }) (v := ?vb27) rfl ?zbb27 ?zcb27 ?zdb27 ?zeb27 ?zfb27 ?zgb27 ?zhb27
            case zfb27 => (refine Or.inl ⟨by rfl, ?_⟩; intro w hSw; (try dsimp only at hSw); go_simp; try with_reducible rfl)
            case zbb27 => kernel_rfl
            case zcb27 => kernel_rfl
            case zdb27 => kernel_rfl
            case zeb27 => exact fun _ _ _ h => h
            case zgb27 => assumption
            try simp only [Act.put, List.setIfInBounds_toArray, List.set_cons_zero, List.set_cons_succ]
            refine wpAnyH_take (i := 28) (oi := { dst := some 173, op := Op.pick (Operand.tmp 153) (Operand.tmp 172) (Operand.const (Value.bool false)), type := 4, pos := "law.go:77", after := #[{ on := 8, ground := Ground.data }, { on := 27, ground := Ground.data }], guard := none }) (v := ?vb28) rfl ?zbb28 ?zcb28 ?zdb28 ?zeb28 ?zfb28 ?zgb28 ?zhb28
            case zfb28 => (refine Or.inl ⟨by rfl, ?_⟩; intro w hSw; (try dsimp only at hSw); go_simp; try with_reducible rfl)
            case zbb28 => kernel_rfl
            case zcb28 => kernel_rfl
            case zdb28 => kernel_rfl
            case zeb28 => exact fun _ _ _ h => h
            case zgb28 => assumption
            try simp only [Act.put, List.setIfInBounds_toArray, List.set_cons_zero, List.set_cons_succ]
            refine wpAnyH_take (i := 29) (oi := { dst := some 174, op := Op.move (Operand.tmp 173), type := 4, pos := "law.go:77", after := #[{ on := 28, ground := Ground.data }, { on := 20, ground := Ground.chain }], guard := none }) (v := ?vb29) rfl ?zbb29 ?zcb29 ?zdb29 ?zeb29 ?zfb29 ?zgb29 ?zhb29
            case zfb29 => (refine Or.inl ⟨by rfl, ?_⟩; intro w hSw; (try dsimp only at hSw); go_simp; try with_reducible rfl)
            case zbb29 => kernel_rfl
            case zcb29 => kernel_rfl
            case zdb29 => kernel_rfl
            case zeb29 => exact fun _ _ _ h => h
            case zgb29 => assumption
            try simp only [Act.put, List.setIfInBounds_toArray, List.set_cons_zero, List.set_cons_succ]
            refine wpAnyH_ready (rs := [30]) (by kernel_rfl) (by simp) ?_
            refine AllReadyH.cons (o := { dst := some 175, op := Op.call { callee := Callee.value (Operand.func 6), args := #[], argTypes := #[] }, type := 4, pos := "law.go:77", after := #[{ on := 29, ground := Ground.chain }, { on := 29, ground := Ground.guard }], guard := some (29, true) }) rfl (fun K hK => ?_) AllReadyH.nil
            go_simp
            (go_at_call 6; refine (HL.out x2).mono ?_; rintro e x3 ⟨rfl, hb3⟩; have hS3 := same_hold rp rq hS2 hb3; clear hb3)
            go_wp2_with fail
            refine hK.out _ _ ?_ (fun hHeld => ?_)
            · exact hS3
            clear hK K
            try simp only [Act.put, List.setIfInBounds_toArray, List.set_cons_zero, List.set_cons_succ]
            refine wpAnyH_take (i := 31) (oi := { dst := some 176, op := Op.pick (Operand.tmp 174) (Operand.tmp 175) (Operand.const (Value.bool false)), type := 4, pos := "law.go:77", after := #[{ on := 29, ground := Ground.data }, { on := 30, ground := Ground.data }], guard := none }) (v := ?vb31) rfl ?zbb31 ?zcb31 ?zdb31 ?zeb31 ?zfb31 ?zgb31 ?zhb31
            case zfb31 => (refine Or.inl ⟨by rfl, ?_⟩; intro w hSw; (try dsimp only at hSw); go_simp; try with_reducible rfl)
            case zbb31 => kernel_rfl
            case zcb31 => kernel_rfl
            case zdb31 => kernel_rfl
            case zeb31 => exact fun _ _ _ h => h
            case zgb31 => assumption
            try simp only [Act.put, List.setIfInBounds_toArray, List.set_cons_zero, List.set_cons_succ]
            refine wpAnyH_take (i := 32) (oi := { dst := some 6, op := Op.assign (Operand.tmp 176), type := 4, pos := "law.go:77", after := #[{ on := 31, ground := Ground.data }, { on := 30, ground := Ground.chain }, { on := 0, ground := Ground.phase }, { on := 1, ground := Ground.phase }, { on := 2, ground := Ground.phase }, { on := 3, ground := Ground.phase }, { on := 4, ground := Ground.phase }, { on := 5, ground := Ground.phase }, { on := 6, ground := Ground.phase }, { on := 7, ground := Ground.phase }, { on := 8, ground := Ground.phase }, { on := 9, ground := Ground.phase }, { on := 10, ground := Ground.phase }, { on := 11, ground := Ground.phase }, { on := 12, ground := Ground.phase }, { on := 13, ground := Ground.phase }, { on := 14, ground := Ground.phase }, { on := 15, ground := Ground.phase }, { on := 16, ground := Ground.phase }, { on := 17, ground := Ground.phase }, { on := 18, ground := Ground.phase }, { on := 19, ground := Ground.phase }, { on := 20, ground := Ground.phase }, { on := 21, ground := Ground.phase }, { on := 22, ground := Ground.phase }, { on := 23, ground := Ground.phase }, { on := 24, ground := Ground.phase }, { on := 25, ground := Ground.phase }, { on := 26, ground := Ground.phase }, { on := 27, ground := Ground.phase }, { on := 28, ground := Ground.phase }, { on := 29, ground := Ground.phase }, { on := 30, ground := Ground.phase }, { on := 31, ground := Ground.phase }], guard := none }) (v := ?vb32) rfl ?zbb32 ?zcb32 ?zdb32 ?zeb32 ?zfb32 ?zgb32 ?zhb32
            case zfb32 => (refine Or.inl ⟨by rfl, ?_⟩; intro w hSw; (try dsimp only at hSw); go_simp; try with_reducible rfl)
            case zbb32 => kernel_rfl
            case zcb32 => kernel_rfl
            case zdb32 => kernel_rfl
            case zeb32 => exact fun _ _ _ h => h
            case zgb32 => assumption
            try simp only [Act.put, List.setIfInBounds_toArray, List.set_cons_zero, List.set_cons_succ]
            refine wpAnyH_done (by kernel_rfl) ?_ _
            have BX := Lib.hid (on HB.out hS3.2.2)
            go_wp2_with fail
            go_ret
            exact ⟨rfl, BX.out⟩
        · skip
          have q1 : decide ((0 : Int) < a21) = false := decide_eq_false k1
          have q2 : ¬ (0 : Int) < a21 := k1
          rw [decide_eq_false k1] at HSA
          go_wp2_with fail
          refine wp_region_held_drew (S := fun w' => w'.cell? ⟨w8.heap.size, 0, none⟩ = some (.int .i64 a21) ∧ w'.cell? ⟨w18.heap.size, 0, none⟩ = some (.int .i64 a31) ∧ Below w19.heap.size w19 w') (by kernel_rfl) ⟨r0, r1, below_draws w19 1⟩ (fun hHeld => ?_)
          refine wpAnyH_take (i := 0) (oi := { dst := some 145, op := Op.move (Operand.tmp 21), type := 42, pos := "law.go:77", after := #[], guard := none }) (v := ?vc0) rfl ?zbc0 ?zcc0 ?zdc0 ?zec0 ?zfc0 ?zgc0 ?zhc0
          case zfc0 => (refine Or.inl ⟨by rfl, ?_⟩; intro w hSw; (try dsimp only at hSw); go_simp; try with_reducible rfl)
          case zbc0 => kernel_rfl
          case zcc0 => kernel_rfl
          case zdc0 => kernel_rfl
          case zec0 => exact fun _ _ _ h => h
          case zgc0 => assumption
          try simp only [Act.put, List.setIfInBounds_toArray, List.set_cons_zero, List.set_cons_succ]
          refine wpAnyH_take (i := 1) (oi := { dst := some 146, op := Op.move (Operand.tmp 22), type := 42, pos := "law.go:77", after := #[], guard := none }) (v := ?vc1) rfl ?zbc1 ?zcc1 ?zdc1 ?zec1 ?zfc1 ?zgc1 ?zhc1
          case zfc1 => (refine Or.inl ⟨by rfl, ?_⟩; intro w hSw; (try dsimp only at hSw); go_simp; try with_reducible rfl)
          case zbc1 => kernel_rfl
          case zcc1 => kernel_rfl
          case zdc1 => kernel_rfl
          case zec1 => exact fun _ _ _ h => h
          case zgc1 => assumption
          try simp only [Act.put, List.setIfInBounds_toArray, List.set_cons_zero, List.set_cons_succ]
          refine wpAnyH_ready (rs := [2]) (by kernel_rfl) (by simp) ?_
          refine AllReadyH.cons (o := { dst := some 147, op := Op.call { callee := Callee.value (Operand.func 16), args := #[Operand.tmp 145, Operand.tmp 146], argTypes := #[42, 42] }, type := 4, pos := "law.go:77", after := #[{ on := 0, ground := Ground.data }, { on := 1, ground := Ground.data }], guard := none }) rfl (fun K hK => ?_) AllReadyH.nil
          go_simp
          (go_at_call 16; refine (HSM2.out _ (below_draws w19 1)).mono ?_; rintro e x1 ⟨rfl, n1, hx1⟩; have hb1 : Below (w19.drewN 1).heap.size (w19.drewN 1) x1 := (by rw [hx1]; exact below_draws _ _); have hS1 := same_hold (w' := w19.drewN 1) rp rq ⟨r0, r1, below_draws w19 1⟩ hb1; clear hx1 hb1)
          go_wp2_with fail
          refine hK.out _ _ ?_ (fun hHeld => ?_)
          · exact hS1
          clear hK K
          try simp only [Act.put, List.setIfInBounds_toArray, List.set_cons_zero, List.set_cons_succ]
          refine wpAnyH_take (i := 3) (oi := { dst := some 148, op := Op.move (Operand.tmp 147), type := 4, pos := "law.go:77", after := #[{ on := 2, ground := Ground.data }, { on := 2, ground := Ground.chain }], guard := none }) (v := ?vc3) rfl ?zbc3 ?zcc3 ?zdc3 ?zec3 ?zfc3 ?zgc3 ?zhc3
          case zfc3 => (refine Or.inl ⟨by rfl, ?_⟩; intro w hSw; (try dsimp only at hSw); go_simp; try with_reducible rfl)
          case zbc3 => kernel_rfl
          case zcc3 => kernel_rfl
          case zdc3 => kernel_rfl
          case zec3 => exact fun _ _ _ h => h
          case zgc3 => assumption
          try simp only [Act.put, List.setIfInBounds_toArray, List.set_cons_zero, List.set_cons_succ]
          refine wpAnyH_take (i := 4) (oi := { dst := some 149, op := Op.move (Operand.tmp 10), type := 33, pos := "law.go:77", after := #[{ on := 3, ground := Ground.guard }], guard := some (3, true) }) (v := ?vc4) rfl ?zbc4 ?zcc4 ?zdc4 ?zec4 ?zfc4 ?zgc4 ?zhc4
          case zfc4 => (refine Or.inl ⟨by rfl, ?_⟩; intro w hSw; (try dsimp only at hSw); go_simp; try with_reducible rfl)
          case zbc4 => kernel_rfl
          case zcc4 => kernel_rfl
          case zdc4 => kernel_rfl
          case zec4 => exact fun _ _ _ h => h
          case zgc4 => assumption
          try simp only [Act.put, List.setIfInBounds_toArray, List.set_cons_zero, List.set_cons_succ]
          refine wpAnyH_take (i := 5) (oi := { dst := some 150, op := Op.move (Operand.tmp 12), type := 3, pos := "law.go:77", after := #[{ on := 3, ground := Ground.guard }], guard := some (3, true) }) (v := ?vc5) rfl ?zbc5 ?zcc5 ?zdc5 ?zec5 ?zfc5 ?zgc5 ?zhc5
          case zfc5 => (refine Or.inl ⟨by rfl, ?_⟩; intro w hSw; (try dsimp only at hSw); go_simp; try with_reducible rfl)
          case zbc5 => kernel_rfl
          case zcc5 => kernel_rfl
          case zdc5 => kernel_rfl
          case zec5 => exact fun _ _ _ h => h
          case zgc5 => assumption
          try simp only [Act.put, List.setIfInBounds_toArray, List.set_cons_zero, List.set_cons_succ]
          refine wpAnyH_take (i := 6) (oi := { dst := some 151, op := Op.binOp BinOp.eql 33 (Operand.tmp 149) (Operand.tmp 150) 33, type := 4, pos := "law.go:77", after := #[{ on := 4, ground := Ground.data }, { on := 5, ground := Ground.data }, { on := 3, ground := Ground.guard }], guard := some (3, true) }) (v := ?vc6) rfl ?zbc6 ?zcc6 ?zdc6 ?zec6 ?zfc6 ?zgc6 ?zhc6
          case zfc6 => (refine Or.inl ⟨by rfl, ?_⟩; intro w hSw; (try dsimp only at hSw); go_simp; try with_reducible rfl)
          case zbc6 => kernel_rfl
          case zcc6 => kernel_rfl
          case zdc6 => kernel_rfl
          case zec6 => exact fun _ _ _ h => h
          case zgc6 => assumption
          try simp only [Act.put, List.setIfInBounds_toArray, List.set_cons_zero, List.set_cons_succ]
          refine wpAnyH_take (i := 7) (oi := { dst := some 152, op := Op.pick (Operand.tmp 148) (Operand.tmp 151) (Operand.const (Value.bool false)), type := 4, pos := "law.go:77", after := #[{ on := 3, ground := Ground.data }, { on := 6, ground := Ground.data }], guard := none }) (v := ?vc7) rfl ?zbc7 ?zcc7 ?zdc7 ?zec7 ?zfc7 ?zgc7 ?zhc7
          case zfc7 => (refine Or.inl ⟨by rfl, ?_⟩; intro w hSw; (try dsimp only at hSw); go_simp; try with_reducible rfl)
          case zbc7 => kernel_rfl
          case zcc7 => kernel_rfl
          case zdc7 => kernel_rfl
          case zec7 => exact fun _ _ _ h => h
          case zgc7 => assumption
          try simp only [Act.put, List.setIfInBounds_toArray, List.set_cons_zero, List.set_cons_succ]
          refine wpAnyH_take (i := 8) (oi := { dst := some 153, op := Op.move (Operand.tmp 152), type := 4, pos := "law.go:77", after := #[{ on := 7, ground := Ground.data }, { on := 3, ground := Ground.chain }], guard := none }) (v := ?vc8) rfl ?zbc8 ?zcc8 ?zdc8 ?zec8 ?zfc8 ?zgc8 ?zhc8
          case zfc8 => (refine Or.inl ⟨by rfl, ?_⟩; intro w hSw; (try dsimp only at hSw); go_simp; try with_reducible rfl)
          case zbc8 => kernel_rfl
          case zcc8 => kernel_rfl
          case zdc8 => kernel_rfl
          case zec8 => exact fun _ _ _ h => h
          case zgc8 => assumption
          try simp only [Act.put, List.setIfInBounds_toArray, List.set_cons_zero, List.set_cons_succ]
          refine wpAnyH_take (i := 9) (oi := { dst := some 154, op := Op.move (Operand.tmp 7), type := 25, pos := "law.go:77", after := #[{ on := 8, ground := Ground.guard }], guard := some (8, true) }) (v := ?vc9) rfl ?zbc9 ?zcc9 ?zdc9 ?zec9 ?zfc9 ?zgc9 ?zhc9
          case zfc9 => (refine Or.inl ⟨by rfl, ?_⟩; intro w hSw; (try dsimp only at hSw); go_simp; try with_reducible rfl)
          case zbc9 => kernel_rfl
          case zcc9 => kernel_rfl
          case zdc9 => kernel_rfl
          case zec9 => exact fun _ _ _ h => h
          case zgc9 => assumption
          try simp only [Act.put, List.setIfInBounds_toArray, List.set_cons_zero, List.set_cons_succ]
          refine wpAnyH_take (i := 10) (oi := { dst := some 155, op := Op.move (Operand.tmp 1), type := 9, pos := "law.go:77", after := #[{ on := 8, ground := Ground.guard }], guard := some (8, true) }) (v := ?vc10) rfl ?zbc10 ?zcc10 ?zdc10 ?zec10 ?zfc10 ?zgc10 ?zhc10
          case zfc10 => (refine Or.inl ⟨by rfl, ?_⟩; intro w hSw; (try dsimp only at hSw); go_simp; try with_reducible rfl)
          case zbc10 => kernel_rfl
          case zcc10 => kernel_rfl
          case zdc10 => kernel_rfl
          case zec10 => exact fun _ _ _ h => h
          case zgc10 => assumption
          try simp only [Act.put, List.setIfInBounds_toArray, List.set_cons_zero, List.set_cons_succ]
          refine wpAnyH_take (i := 11) (oi := { dst := some 156, op := Op.move (Operand.tmp 2), type := 9, pos := "law.go:77", after := #[{ on := 8, ground := Ground.guard }], guard := some (8, true) }) (v := ?vc11) rfl ?zbc11 ?zcc11 ?zdc11 ?zec11 ?zfc11 ?zgc11 ?zhc11
          case zfc11 => (refine Or.inl ⟨by rfl, ?_⟩; intro w hSw; (try dsimp only at hSw); go_simp; try with_reducible rfl)
          case zbc11 => kernel_rfl
          case zcc11 => kernel_rfl
          case zdc11 => kernel_rfl
          case zec11 => exact fun _ _ _ h => h
          case zgc11 => assumption
          try simp only [Act.put, List.setIfInBounds_toArray, List.set_cons_zero, List.set_cons_succ]
          refine wpAnyH_take (i := 13) (oi := { dst := some 158, op := Op.fieldAddr 32 (Operand.tmp 13) 0, type := 0, pos := "law.go:77", after := #[{ on := 8, ground := Ground.guard }], guard := some (8, true) }) (v := ?vc13) rfl ?zbc13 ?zcc13 ?zdc13 ?zec13 ?zfc13 ?zgc13 ?zhc13
          case zfc13 => (refine Or.inl ⟨by rfl, ?_⟩; intro w hSw; (try dsimp only at hSw); go_simp; try with_reducible rfl)
          case zbc13 => kernel_rfl
          case zcc13 => kernel_rfl
          case zdc13 => kernel_rfl
          case zec13 => exact fun _ _ _ h => h
          case zgc13 => assumption
          try simp only [Act.put, List.setIfInBounds_toArray, List.set_cons_zero, List.set_cons_succ]
          refine wpAnyH_take (i := 14) (oi := { dst := some 159, op := Op.load 3 (Operand.tmp 158), type := 3, pos := "law.go:77", after := #[{ on := 13, ground := Ground.data }, { on := 8, ground := Ground.guard }], guard := some (8, true) }) (v := ?vc14) rfl ?zbc14 ?zcc14 ?zdc14 ?zec14 ?zfc14 ?zgc14 ?zhc14
          case zfc14 => (refine Or.inl ⟨by rfl, ?_⟩; intro w hSw; (try dsimp only at hSw); go_simp; try with_reducible rfl)
          case zbc14 => kernel_rfl
          case zcc14 => kernel_rfl
          case zdc14 => kernel_rfl
          case zec14 => exact fun _ _ _ h => h
          case zgc14 => assumption
          try simp only [Act.put, List.setIfInBounds_toArray, List.set_cons_zero, List.set_cons_succ]
          refine wpAnyH_take (i := 15) (oi := { dst := some 160, op := Op.binOp BinOp.gtr 3 (Operand.tmp 159) (Operand.const (Value.int IntKind.i64 0)) 3, type := 4, pos := "law.go:77", after := #[{ on := 14, ground := Ground.data }, { on := 8, ground := Ground.guard }], guard := some (8, true) }) (v := ?vc15) rfl ?zbc15 ?zcc15 ?zdc15 ?zec15 ?zfc15 ?zgc15 ?zhc15
          case zfc15 => (refine Or.inl ⟨by rfl, ?_⟩; intro w hSw; (try dsimp only at hSw); go_simp; try with_reducible rfl)
          case zbc15 => kernel_rfl
          case zcc15 => kernel_rfl
          case zdc15 => kernel_rfl
          case zec15 => exact fun _ _ _ h => h
          case zgc15 => assumption
          try simp only [Act.put, List.setIfInBounds_toArray, List.set_cons_zero, List.set_cons_succ]
          refine wpAnyH_ready (rs := [12]) (by kernel_rfl) (by simp) ?_
          refine AllReadyH.cons (o := { dst := some 157, op := Op.call { callee := Callee.value (Operand.func 17), args := #[Operand.tmp 154, Operand.tmp 155, Operand.tmp 156], argTypes := #[25, 9, 9] }, type := 4, pos := "law.go:77", after := #[{ on := 9, ground := Ground.data }, { on := 10, ground := Ground.data }, { on := 11, ground := Ground.data }, { on := 8, ground := Ground.chain }, { on := 8, ground := Ground.guard }], guard := some (8, true) }) rfl (fun K hK => ?_) AllReadyH.nil
          go_simp
          (go_at_call 17; refine (HSA.out x1 hS1.2.2).mono ?_; rintro e x2 ⟨rfl, hb2⟩; have hS2 := same_hold rp rq hS1 hb2; clear hb2)
          go_wp2_with fail
          refine hK.out _ _ ?_ (fun hHeld => ?_)
          · exact hS2
          clear hK K
          try simp only [Act.put, List.setIfInBounds_toArray, List.set_cons_zero, List.set_cons_succ]
          refine wpAnyH_take (i := 16) (oi := { dst := some 161, op := Op.move (Operand.tmp 160), type := 4, pos := "law.go:77", after := #[{ on := 15, ground := Ground.data }, { on := 12, ground := Ground.chain }, { on := 8, ground := Ground.guard }], guard := some (8, true) }) (v := ?vc16) rfl ?zbc16 ?zcc16 ?zdc16 ?zec16 ?zfc16 ?zgc16 ?zhc16
          case zfc16 => (refine Or.inl ⟨by rfl, ?_⟩; intro w hSw; (try dsimp only at hSw); go_simp; try with_reducible rfl)
          case zbc16 => kernel_rfl
          case zcc16 => kernel_rfl
          case zdc16 => kernel_rfl
          case zec16 => exact fun _ _ _ h => h
          case zgc16 => assumption
          try simp only [Act.put, List.setIfInBounds_toArray, List.set_cons_zero, List.set_cons_succ]
          refine wpAnyH_take (i := 17) (oi := { dst := some 162, op := Op.move (Operand.tmp 14), type := 33, pos := "law.go:77", after := #[{ on := 16, ground := Ground.guard }], guard := some (16, true) }) (v := undef) rfl ?zbc17 ?zcc17 ?zdc17 ?zec17 ?zfc17 ?zgc17 ?zhc17
          case zfc17 => exact Or.inr ⟨by rfl, rfl⟩
          case zbc17 => kernel_rfl
          case zcc17 => kernel_rfl
          case zdc17 => kernel_rfl
          case zec17 => exact fun _ _ _ h => h
          case zgc17 => assumption
          try simp only [Act.put, List.setIfInBounds_toArray, List.set_cons_zero, List.set_cons_succ]
          refine wpAnyH_take (i := 18) (oi := { dst := some 163, op := Op.binOp BinOp.eql 33 (Operand.tmp 162) (Operand.const (Value.int IntKind.i64 0)) 33, type := 4, pos := "law.go:77", after := #[{ on := 17, ground := Ground.data }, { on := 16, ground := Ground.guard }], guard := some (16, true) }) (v := undef) rfl ?zbc18 ?zcc18 ?zdc18 ?zec18 ?zfc18 ?zgc18 ?zhc18
          case zfc18 => exact Or.inr ⟨by rfl, rfl⟩
          case zbc18 => kernel_rfl
          case zcc18 => kernel_rfl
          case zdc18 => kernel_rfl
          case zec18 => exact fun _ _ _ h => h
          case zgc18 => assumption
          try simp only [Act.put, List.setIfInBounds_toArray, List.set_cons_zero, List.set_cons_succ]
          refine wpAnyH_take (i := 19) (oi := { dst := some 164, op := Op.pick (Operand.tmp 161) (Operand.tmp 163) (Operand.const (Value.bool false)), type := 4, pos := "law.go:77", after := #[{ on := 16, ground := Ground.data }, { on := 18, ground := Ground.data }, { on := 8, ground := Ground.guard }], guard := some (8, true) }) (v := ?vc19) rfl ?zbc19 ?zcc19 ?zdc19 ?zec19 ?zfc19 ?zgc19 ?zhc19
          case zfc19 => (refine Or.inl ⟨by rfl, ?_⟩; intro w hSw; (try dsimp only at hSw); go_simp; try with_reducible rfl)
          case zbc19 => kernel_rfl
          case zcc19 => kernel_rfl
          case zdc19 => kernel_rfl
          case zec19 => exact fun _ _ _ h => h
          case zgc19 => assumption
          try simp only [Act.put, List.setIfInBounds_toArray, List.set_cons_zero, List.set_cons_succ]
          refine wpAnyH_take (i := 20) (oi := { dst := some 165, op := Op.move (Operand.tmp 164), type := 4, pos := "law.go:77", after := #[{ on := 19, ground := Ground.data }, { on := 16, ground := Ground.chain }, { on := 8, ground := Ground.guard }], guard := some (8, true) }) (v := ?vc20) rfl ?zbc20 ?zcc20 ?zdc20 ?zec20 ?zfc20 ?zgc20 ?zhc20
          case zfc20 => (refine Or.inl ⟨by rfl, ?_⟩; intro w hSw; (try dsimp only at hSw); go_simp; try with_reducible rfl)
          case zbc20 => kernel_rfl
          case zcc20 => kernel_rfl
          case zdc20 => kernel_rfl
          case zec20 => exact fun _ _ _ h => h
          case zgc20 => assumption
          try simp only [Act.put, List.setIfInBounds_toArray, List.set_cons_zero, List.set_cons_succ]
          refine wpAnyH_take (i := 21) (oi := { dst := some 166, op := Op.fieldAddr 32 (Operand.tmp 23) 0, type := 0, pos := "law.go:77", after := #[{ on := 20, ground := Ground.guard }], guard := some (20, true) }) (v := undef) rfl ?zbc21 ?zcc21 ?zdc21 ?zec21 ?zfc21 ?zgc21 ?zhc21
          case zfc21 => exact Or.inr ⟨by rfl, rfl⟩
          case zbc21 => kernel_rfl
          case zcc21 => kernel_rfl
          case zdc21 => kernel_rfl
          case zec21 => exact fun _ _ _ h => h
          case zgc21 => assumption
          try simp only [Act.put, List.setIfInBounds_toArray, List.set_cons_zero, List.set_cons_succ]
          refine wpAnyH_take (i := 22) (oi := { dst := some 167, op := Op.load 3 (Operand.tmp 166), type := 3, pos := "law.go:77", after := #[{ on := 21, ground := Ground.data }, { on := 20, ground := Ground.guard }], guard := some (20, true) }) (v := undef) rfl ?zbc22 ?zcc22 ?zdc22 ?zec22 ?zfc22 ?zgc22 ?zhc22
          case zfc22 => exact Or.inr ⟨by rfl, rfl⟩
          case zbc22 => kernel_rfl
          case zcc22 => kernel_rfl
          case zdc22 => kernel_rfl
          case zec22 => exact fun _ _ _ h => h
          case zgc22 => assumption
          try simp only [Act.put, List.setIfInBounds_toArray, List.set_cons_zero, List.set_cons_succ]
          refine wpAnyH_take (i := 23) (oi := { dst := some 168, op := Op.fieldAddr 32 (Operand.tmp 13) 0, type := 0, pos := "law.go:77", after := #[{ on := 20, ground := Ground.guard }], guard := some (20, true) }) (v := undef) rfl ?zbc23 ?zcc23 ?zdc23 ?zec23 ?zfc23 ?zgc23 ?zhc23
          case zfc23 => exact Or.inr ⟨by rfl, rfl⟩
          case zbc23 => kernel_rfl
          case zcc23 => kernel_rfl
          case zdc23 => kernel_rfl
          case zec23 => exact fun _ _ _ h => h
          case zgc23 => assumption
          try simp only [Act.put, List.setIfInBounds_toArray, List.set_cons_zero, List.set_cons_succ]
          refine wpAnyH_take (i := 24) (oi := { dst := some 169, op := Op.load 3 (Operand.tmp 168), type := 3, pos := "law.go:77", after := #[{ on := 23, ground := Ground.data }, { on := 20, ground := Ground.guard }], guard := some (20, true) }) (v := undef) rfl ?zbc24 ?zcc24 ?zdc24 ?zec24 ?zfc24 ?zgc24 ?zhc24
          case zfc24 => exact Or.inr ⟨by rfl, rfl⟩
          case zbc24 => kernel_rfl
          case zcc24 => kernel_rfl
          case zdc24 => kernel_rfl
          case zec24 => exact fun _ _ _ h => h
          case zgc24 => assumption
          try simp only [Act.put, List.setIfInBounds_toArray, List.set_cons_zero, List.set_cons_succ]
          refine wpAnyH_take (i := 25) (oi := { dst := some 170, op := Op.binOp BinOp.eql 3 (Operand.tmp 167) (Operand.tmp 169) 3, type := 4, pos := "law.go:77", after := #[{ on := 22, ground := Ground.data }, { on := 24, ground := Ground.data }, { on := 20, ground := Ground.guard }], guard := some (20, true) }) (v := undef) rfl ?zbc25 ?zcc25 ?zdc25 ?zec25 ?zfc25 ?zgc25 ?zhc25
          case zfc25 => exact Or.inr ⟨by rfl, rfl⟩
          case zbc25 => kernel_rfl
          case zcc25 => kernel_rfl
          case zdc25 => kernel_rfl
          case zec25 => exact fun _ _ _ h => h
          case zgc25 => assumption
          try simp only [Act.put, List.setIfInBounds_toArray, List.set_cons_zero, List.set_cons_succ]
          refine wpAnyH_take (i := 26) (oi := { dst := some 171, op := Op.pick (Operand.tmp 165) (Operand.tmp 170) (Operand.const (Value.bool false)), type := 4, pos := "law.go:77", after := #[{ on := 20, ground := Ground.data }, { on := 25, ground := Ground.data }, { on := 8, ground := Ground.guard }], guard := some (8, true) }) (v := ?vc26) rfl ?zbc26 ?zcc26 ?zdc26 ?zec26 ?zfc26 ?zgc26 ?zhc26
          case zfc26 => (refine Or.inl ⟨by rfl, ?_⟩; intro w hSw; (try dsimp only at hSw); go_simp; try with_reducible rfl)
          case zbc26 => kernel_rfl
          case zcc26 => kernel_rfl
          case zdc26 => kernel_rfl
          case zec26 => exact fun _ _ _ h => h
          case zgc26 => assumption
          try simp only [Act.put, List.setIfInBounds_toArray, List.set_cons_zero, List.set_cons_succ]
          refine wpAnyH_take (i := 27) (oi := { dst := some 172, op := Op.binOp BinOp.eql 4 (Operand.tmp 157) (Operand.tmp 171) 4, type := 4, pos := "law.go:77", after := #[{ on := 12, ground := Ground.data }, { on := 26, ground := Ground.data }, { on := 8, ground := Ground.guard }], guard := some (8, true) }) (v := ?vc27) rfl ?zbc27 ?zcc27 ?zdc27 ?zec27 ?zfc27 ?zgc27 ?zhc27
          case zfc27 => (refine Or.inl ⟨by rfl, ?_⟩; intro w hSw; (try dsimp only at hSw); go_simp; try with_reducible rfl)
          case zbc27 => kernel_rfl
          case zcc27 => kernel_rfl
          case zdc27 => kernel_rfl
          case zec27 => exact fun _ _ _ h => h
          case zgc27 => assumption
          try simp only [Act.put, List.setIfInBounds_toArray, List.set_cons_zero, List.set_cons_succ]
          refine wpAnyH_take (i := 28) (oi := { dst := some 173, op := Op.pick (Operand.tmp 153) (Operand.tmp 172) (Operand.const (Value.bool false)), type := 4, pos := "law.go:77", after := #[{ on := 8, ground := Ground.data }, { on := 27, ground := Ground.data }], guard := none }) (v := ?vc28) rfl ?zbc28 ?zcc28 ?zdc28 ?zec28 ?zfc28 ?zgc28 ?zhc28
          case zfc28 => (refine Or.inl ⟨by rfl, ?_⟩; intro w hSw; (try dsimp only at hSw); go_simp; try with_reducible rfl)
          case zbc28 => kernel_rfl
          case zcc28 => kernel_rfl
          case zdc28 => kernel_rfl
          case zec28 => exact fun _ _ _ h => h
          case zgc28 => assumption
          try simp only [Act.put, List.setIfInBounds_toArray, List.set_cons_zero, List.set_cons_succ]
          refine wpAnyH_take (i := 29) (oi := { dst := some 174, op := Op.move (Operand.tmp 173), type := 4, pos := "law.go:77", after := #[{ on := 28, ground := Ground.data }, { on := 20, ground := Ground.chain }], guard := none }) (v := ?vc29) rfl ?zbc29 ?zcc29 ?zdc29 ?zec29 ?zfc29 ?zgc29 ?zhc29
          case zfc29 => (refine Or.inl ⟨by rfl, ?_⟩; intro w hSw; (try dsimp only at hSw); go_simp; try with_reducible rfl)
          case zbc29 => kernel_rfl
          case zcc29 => kernel_rfl
          case zdc29 => kernel_rfl
          case zec29 => exact fun _ _ _ h => h
          case zgc29 => assumption
          try simp only [Act.put, List.setIfInBounds_toArray, List.set_cons_zero, List.set_cons_succ]
          refine wpAnyH_ready (rs := [30]) (by kernel_rfl) (by simp) ?_
          refine AllReadyH.cons (o := { dst := some 175, op := Op.call { callee := Callee.value (Operand.func 6), args := #[], argTypes := #[] }, type := 4, pos := "law.go:77", after := #[{ on := 29, ground := Ground.chain }, { on := 29, ground := Ground.guard }], guard := some (29, true) }) rfl (fun K hK => ?_) AllReadyH.nil
          go_simp
          (go_at_call 6; refine (HL.out x2).mono ?_; rintro e x3 ⟨rfl, hb3⟩; have hS3 := same_hold rp rq hS2 hb3; clear hb3)
          go_wp2_with fail
          refine hK.out _ _ ?_ (fun hHeld => ?_)
          · exact hS3
          clear hK K
          try simp only [Act.put, List.setIfInBounds_toArray, List.set_cons_zero, List.set_cons_succ]
          refine wpAnyH_take (i := 31) (oi := { dst := some 176, op := Op.pick (Operand.tmp 174) (Operand.tmp 175) (Operand.const (Value.bool false)), type := 4, pos := "law.go:77", after := #[{ on := 29, ground := Ground.data }, { on := 30, ground := Ground.data }], guard := none }) (v := ?vc31) rfl ?zbc31 ?zcc31 ?zdc31 ?zec31 ?zfc31 ?zgc31 ?zhc31
          case zfc31 => (refine Or.inl ⟨by rfl, ?_⟩; intro w hSw; (try dsimp only at hSw); go_simp; try with_reducible rfl)
          case zbc31 => kernel_rfl
          case zcc31 => kernel_rfl
          case zdc31 => kernel_rfl
          case zec31 => exact fun _ _ _ h => h
          case zgc31 => assumption
          try simp only [Act.put, List.setIfInBounds_toArray, List.set_cons_zero, List.set_cons_succ]
          refine wpAnyH_take (i := 32) (oi := { dst := some 6, op := Op.assign (Operand.tmp 176), type := 4, pos := "law.go:77", after := #[{ on := 31, ground := Ground.data }, { on := 30, ground := Ground.chain }, { on := 0, ground := Ground.phase }, { on := 1, ground := Ground.phase }, { on := 2, ground := Ground.phase }, { on := 3, ground := Ground.phase }, { on := 4, ground := Ground.phase }, { on := 5, ground := Ground.phase }, { on := 6, ground := Ground.phase }, { on := 7, ground := Ground.phase }, { on := 8, ground := Ground.phase }, { on := 9, ground := Ground.phase }, { on := 10, ground := Ground.phase }, { on := 11, ground := Ground.phase }, { on := 12, ground := Ground.phase }, { on := 13, ground := Ground.phase }, { on := 14, ground := Ground.phase }, { on := 15, ground := Ground.phase }, { on := 16, ground := Ground.phase }, { on := 17, ground := Ground.phase }, { on := 18, ground := Ground.phase }, { on := 19, ground := Ground.phase }, { on := 20, ground := Ground.phase }, { on := 21, ground := Ground.phase }, { on := 22, ground := Ground.phase }, { on := 23, ground := Ground.phase }, { on := 24, ground := Ground.phase }, { on := 25, ground := Ground.phase }, { on := 26, ground := Ground.phase }, { on := 27, ground := Ground.phase }, { on := 28, ground := Ground.phase }, { on := 29, ground := Ground.phase }, { on := 30, ground := Ground.phase }, { on := 31, ground := Ground.phase }], guard := none }) (v := ?vc32) rfl ?zbc32 ?zcc32 ?zdc32 ?zec32 ?zfc32 ?zgc32 ?zhc32
          case zfc32 => (refine Or.inl ⟨by rfl, ?_⟩; intro w hSw; (try dsimp only at hSw); go_simp; try with_reducible rfl)
          case zbc32 => kernel_rfl
          case zcc32 => kernel_rfl
          case zdc32 => kernel_rfl
          case zec32 => exact fun _ _ _ h => h
          case zgc32 => assumption
          try simp only [Act.put, List.setIfInBounds_toArray, List.set_cons_zero, List.set_cons_succ]
          refine wpAnyH_done (by kernel_rfl) ?_ _
          have BX := Lib.hid (on HB.out hS3.2.2)
          go_wp2_with fail
          go_ret
          exact ⟨rfl, BX.out⟩
end Go.Proofs.YtdnedeeocpaolaaDoor.W09
