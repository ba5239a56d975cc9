/-
  Texts joined, in build order, each with its own comment and its own conditions: W12Equal, W20LawP, W20LawsP.
-/
import Derived.Test.YtmbpgjncioegdaaGreatDoorJ33
import Derived.Test.YtmbpgjncioegdaaGreatDoorJ23
import Derived.Test.YtmbpgjncioegdaaGreatDoorJ29
import Derived.Test.YtmbpgjncioegdaaGreatDoorJ10
import Derived.Test.YtmbpgjncioegdaaGreatDoorJ24
/-
  Layer 12 (dump), walks of the program's same and Equal, over any reading of a tree. The conditions stand in the statements.
-/
namespace Go.Proofs.YtmbpgjncioegdaaGreatDoor.W12
set_option maxRecDepth 100000
open Go Go.RowKit Go.Shelf Go.Proofs.YtmbpgjncioegdaaGreatDoor.Strs Go.Proofs.YtmbpgjncioegdaaGreatDoor.Recs Go.Proofs.YtmbpgjncioegdaaGreatDoor.Range
open Go.Proofs.YtmbpgjncioegdaaGreatDoor.M12
open Go.Proofs.YtmbpgjncioegdaaGreatDoor.M07 (Tr Nd nodeAt Right listDir height)
open Go.Proofs.YtmbpgjncioegdaaGreatDoor.M08 (Named)
open Go.Proofs.YtmbpgjncioegdaaGreatDoor.W06 (Ents)
open Go.Proofs.YtmbpgjncioegdaaGreatDoor.W07 (Small Trees)
open Go.Proofs.YtmbpgjncioegdaaGreatDoor.W08 (listed_is listed_len)
open Go.Proofs.YtmbpgjncioegdaaGreatDoor.W11
open Go.Proofs.YtmbpgjncioegdaaGreatDoor.Kit (ret_str ret_bool ret_int mk_of mk_bytes ba_ext below_draws on)
attribute [local go_sem] Oper.semAt_some

section
variable {Rep : (Nat → Prop) → World → Value → Tr → Prop} {Fa Fb : Nat → Prop} {w : World} {aa ab : Addr} {t u : Tr}
/-- what the region reads -/
def Two (q : Nat) (va vb : Value) (w' : World) : Prop := w'.cell? ⟨q, 0, none⟩ = some va ∧ w'.cell? ⟨q + 1, 0, none⟩ = some vb
theorem Two.on {q m : Nat} {va vb : Value} {w1 w2 : World} (h : Two q va vb w1) (hb : Below m w1 w2) (hq : q + 1 < m) : Two q va vb w2 :=
  ⟨(hb.cell (p := ⟨q, 0, none⟩) (by show q < m; omega)).trans h.1, (hb.cell (p := ⟨q + 1, 0, none⟩) hq).trans h.2⟩
set_option maxRecDepth 100000 in
set_option maxHeartbeats 8000000 in
theorem same_step (C : Trees Rep) (Ha : Rep Fa w (.pointer (some aa)) t) (Hb : Rep Fb w (.pointer (some ab)) u) (St : Small t) (Su : Small u) (n m : Int) (f : Int → Int → Bool)
    (IH : ∀ e ∈ listDir t.L n, ∀ g ∈ listDir u.L m, ∀ w', Below w.heap.size w w' → Calls Tryz.prog 45 #[.pointer (some aa), .int .i64 e.2, .pointer (some ab), .int .i64 g.2] w' fun e' w'' => e' = .returned (.bool (f e.2 g.2)) ∧ Below w'.heap.size w' w'') :
    Calls Tryz.prog 45 #[.pointer (some aa), .int .i64 n, .pointer (some ab), .int .i64 m] w fun e w' => e = .returned (.bool (eqL f t u (listDir t.L n) (listDir u.L m))) ∧ Below w.heap.size w w' := by
  obtain ⟨w1, hw1⟩ : ∃ w1, (w.alloc (.cells #[.pointer (some aa)] 27)).alloc (.cells #[.pointer (some ab)] 27) = w1 := ⟨_, rfl⟩
  have hb1 : Below w.heap.size w w1 := by rw [← hw1]; exact (below_box _ _).alloc (by rw [World.size_alloc]; omega) _
  obtain ⟨q, hq⟩ : ∃ b, w.heap.size = b := ⟨_, rfl⟩
  have hs1 : q + 1 < w1.heap.size := by rw [← hw1, World.size_alloc, World.size_alloc]; omega
  have W1 : Two q (.pointer (some aa)) (.pointer (some ab)) w1 := by
    refine ⟨?_, ?_⟩
    all_goals (rw [← hw1, ← hq]; simp)
  have HLA := Lib.hid (fun (w' : World) (h : Below w1.heap.size w1 w') => C.list (C.below Ha (on hb1 h)) St n)
  have HLB := Lib.hid (fun (w' : World) (h : Below w1.heap.size w1 w') => C.list (C.below Hb (on hb1 h)) Su m)
  rw [listed_is (C.right Ha) n] at HLA
  rw [listed_is (C.right Hb) m] at HLB
  have HEQ := Lib.hid (fun (va vb : Value) (w' : World) (h : Below w1.heap.size w1 w') (ha : Ents w'.heap.size w' va (listDir t.L n)) (hb : Ents w'.heap.size w' vb (listDir u.L m)) =>
    equalFunc_any va vb (listDir t.L n) (listDir u.L m) w' ha hb q (q + 1) (entF t u f) (fun e he g hg s1 s2 w2 h1 h2 h3 => by
      have hB := h.trans (h3.mono h.size)
      have hT := W1.on hB hs1
      have := same1_any C (C.below Ha (on hb1 hB)) (C.below Hb (on hb1 hB)) St Su q (q + 1) (by have := hB.size; omega) (by have := hB.size; omega) hT.1 hT.2 s1 s2 e.2 g.2 (f e.2 g.2) (fun w3 h4 => IH e he g hg w3 (on hb1 (hB.trans (h4.mono hB.size))))
      rw [h1, h2] at this
      exact this))
  rw [← eqL_all] at HEQ
  have HB1 := Lib.hid hb1
  generalize listDir t.L n = La at *
  generalize listDir u.L m = Lb at *
  generalize eqL f t u La Lb = R at *
  clear IH hb1 Ha Hb St Su
  go_enter Tryz.func45, Tryz.ntmps45
  go_wp2_with fail
  clear hw1
  go_region_held3 (fun w' => w'.cell? ⟨q, 0, none⟩ = some (.pointer (some aa)) ∧ w'.cell? ⟨q + 1, 0, none⟩ = some (.pointer (some ab)))
    (first | exact S4 | exact S3 | exact S2 | exact (W1.on (below_draws w1 1) hs1) | go_keep)
    (first
      | (go_at_call 63; refine (HEQ.out _ _ x3 B3 EA3.out EB.out).mono ?_; rintro e x4 ⟨rfl, hb4⟩; have B4 := B3.trans (hb4.mono B3.size); have S4 := W1.on B4 hs1)
      | (go_at_call 40; refine (HLB.out x2 B2).mono ?_; rintro e x3 ⟨ub, rfl, hub, hb3⟩; have B3 := B2.trans (hb3.mono B2.size); have S3 := W1.on B3 hs1; have EB := Lib.hid hub; have EA3 := Lib.hid ((EA.out.below hb3).more hb3.size))
      | (go_at_call 40; refine (HLA.out (w1.drewN 1) (below_draws w1 1)).mono ?_; rintro e x2 ⟨ua, rfl, hua, hb2⟩; have B2 := (below_draws w1 1).trans (hb2.mono (below_draws w1 1).size); have S2 := W1.on B2 hs1; have EA := Lib.hid hua))
  all_goals (
    have HE := Lib.hid (on HB1.out B4)
    go_wp2_with fail
    go_ret
    exact ⟨rfl, HE.out⟩)
theorem same_any (C : Trees Rep) (St : Small t) (Su : Small u) : ∀ (k : Nat) (n m : Int) (w : World), Rep Fa w (.pointer (some aa)) t → Rep Fb w (.pointer (some ab)) u → t.L.length ≤ height t.L n + k →
    Calls Tryz.prog 45 #[.pointer (some aa), .int .i64 n, .pointer (some ab), .int .i64 m] w fun e w' => e = .returned (.bool (eqT t u k n m)) ∧ Below w.heap.size w w'
  | 0, n, m, w, Ha, Hb, hk => by
    have hnl := no_list (C.right Ha) (n := n) (by omega)
    have := same_step C Ha Hb St Su n m (fun _ _ => false) (fun e he => by rw [hnl] at he; cases he)
    exact this
  | k + 1, n, m, w, Ha, Hb, hk => by
    exact same_step C Ha Hb St Su n m (eqT t u k) (fun e he g _ w' hb => by
      obtain ⟨a, ka⟩ := kid_of (C.right Ha) he
      have hh := ka.height_ (C.right Ha)
      rw [← ka.num] at hh
      exact same_any C St Su k e.2 g.2 w' (C.below Ha hb) (C.below Hb hb) (by omega))
theorem equal_any (C : Trees Rep) (Gt : W08.Good t) (Gu : W08.Good u) (Ha : Rep Fa w (.pointer (some aa)) t) (Hb : Rep Fb w (.pointer (some ab)) u) :
    Calls Tryz.prog 23 #[.pointer (some aa), .pointer (some ab)] w fun e w' => e = .returned (.bool (decide (allOf t = allOf u))) ∧ Below w.heap.size w w' := by
  have H := Lib.hid (same_any C Gt.small Gu.small t.L.length 1 1 w Ha Hb (by omega))
  rw [same_all (C.right Ha) (C.right Hb) Gt.named Gu.named] at H
  generalize decide (allOf t = allOf u) = R at *
  go_enter Tryz.func23, Tryz.ntmps23
  go_wp2_with fail
  refine H.out.mono ?_
  rintro e w2 ⟨rfl, hb⟩
  go_wp2_with fail
  go_ret
  exact ⟨rfl, hb⟩
end
end Go.Proofs.YtmbpgjncioegdaaGreatDoor.W12
/-
  Layer 20 (act), a walk of the law ActPrefix over the contracts: it returns true, at every list of nodes, of tasks and of faults; nothing that was there is changed. The conditions stand in the statement.
-/
namespace Go.Proofs.YtmbpgjncioegdaaGreatDoor.W20
set_option maxRecDepth 100000
open Go Go.RowKit Go.Proofs.YtmbpgjncioegdaaGreatDoor.Strs Go.Proofs.YtmbpgjncioegdaaGreatDoor.Recs Go.Proofs.YtmbpgjncioegdaaGreatDoor.Range
open Go.Proofs.YtmbpgjncioegdaaGreatDoor.M07 (Tr Nd nodeAt Right)
open Go.Proofs.YtmbpgjncioegdaaGreatDoor.M09 Go.Proofs.YtmbpgjncioegdaaGreatDoor.M10 Go.Proofs.YtmbpgjncioegdaaGreatDoor.M20
open Go.Proofs.YtmbpgjncioegdaaGreatDoor.W07 (Small Trees Wrote Off heap_top Nodes TreeBox set_heap nodes_turns right_full same_tree turns_box off_same)
open Go.Proofs.YtmbpgjncioegdaaGreatDoor.W08 (Sn Snodes isFew few_is)
open Go.Proofs.YtmbpgjncioegdaaGreatDoor.W09 (Tk tkC tkC_len Tasks Within isShort9 short9_any short9_is made_within off_nodes)
open Go.Proofs.YtmbpgjncioegdaaGreatDoor.W10 (Applies Fss Faults Turned)
open Go.Proofs.YtmbpgjncioegdaaGreatDoor.Kit (ret_str ret_bool ret_int mk_of mk_bytes ba_ext below_draws on)

set_option maxHeartbeats 16000000 in
theorem actPrefix_over {Rep : Blocks → World → Value → Tr → Prop} {RepF : Blocks → World → Value → Fs → Prop} (C : Trees Rep) (X : Applies Rep) (E : Fss Rep RepF) (hfull : ∀ {F w v t}, Rep F w v t → ∃ a, v = .pointer (some a)) (w : World) (v y z : Value) (L : List Sn) (h : Snodes w.heap.size w v L) (K : List Tk) (hK : Tasks w.heap.size w y K) (Z : List Fl) (hZ : Faults w.heap.size w z Z) :
    Calls Tryz.prog 5 #[v, y, z] w fun e w' => e = .returned (.bool true) ∧ Below w.heap.size w w' := by
  have HFW := Lib.hid (W08.few_any v L w.heap.size w h)
  have HSW := Lib.hid (short9_any y K 60 w.heap.size w hK)
  have HL := Lib.hid (fun w' => lives_over C X hfull w')
  have HH := Lib.hid h
  have HK := Lib.hid hK
  have HZ := Lib.hid hZ
  obtain ⟨A, c, rfl, -, -⟩ := h.form
  obtain ⟨A2, c2, rfl, hk1, hk2⟩ := hK.form
  obtain ⟨A3, c3, rfl, hz1, hz2⟩ := hZ.recs.form
  unfold maxLen at hk2 hz2
  clear h hK hZ
  generalize hm : L.length = m at *
  cases hf : isFew L with
  | false =>
    rw [hf] at HFW
    clear hf hm
    go_enter Tryz.func5, Tryz.ntmps5
    go_wp2_with fail
    refine HFW.out.mono ?_
    rintro e w1 ⟨rfl, hw⟩
    have hw := hw.symm
    subst hw
    go_wp2_with fail
    refine (HL.out _).mono ?_
    rintro e w2 ⟨rfl, hb⟩
    go_wp2_with fail
    go_ret
    exact ⟨rfl, hb⟩
  | true =>
    rw [hf] at HFW
    obtain ⟨hd, hl⟩ := few_is hf
    cases hs : isShort9 K 60 with
    | false =>
      rw [hs] at HSW
      clear hf hm hs hd hl
      go_enter Tryz.func5, Tryz.ntmps5
      go_wp2_with fail
      refine HFW.out.mono ?_
      rintro e w1 ⟨rfl, hw⟩
      have hw := hw.symm
      subst hw
      go_wp2_with fail
      refine HSW.out.mono ?_
      rintro e w1 ⟨rfl, hw⟩
      have hw := hw.symm
      subst hw
      go_wp2_with fail
      refine (HL.out _).mono ?_
      rintro e w2 ⟨rfl, hb⟩
      go_wp2_with fail
      go_ret
      exact ⟨rfl, hb⟩
    | true =>
      rw [hs] at HSW
      obtain ⟨hsd, hsl⟩ := short9_is hs
      by_cases hzl : 60 < Z.length
      · have tz : decide ((60 : Int) < (Z.length : Int)) = true := decide_eq_true (by omega)
        clear hf hm hs hd hl hsd hsl
        go_enter Tryz.func5, Tryz.ntmps5
        go_wp2_with fail
        refine HFW.out.mono ?_
        rintro e w1 ⟨rfl, hw⟩
        have hw := hw.symm
        subst hw
        go_wp2_with fail
        refine HSW.out.mono ?_
        rintro e w1 ⟨rfl, hw⟩
        have hw := hw.symm
        subst hw
        go_wp2_with fail
        refine (HL.out _).mono ?_
        rintro e w2 ⟨rfl, hb⟩
        go_wp2_with fail
        go_ret
        exact ⟨rfl, hb⟩
      have tz : decide ((60 : Int) < (Z.length : Int)) = false := decide_eq_false (by omega)
      have HTX := Lib.hid (texts_of hsd)
      have HM := Lib.hid (fun (w' : World) (hb : Below w.heap.size w w') => W08.made_over3 C w' (.slice A m c) L ((HH.out.below hb).more hb.size) hl hd)
      have HWI := Lib.hid (made_within hl)
      generalize (W08.made L).1 = T0 at *
      clear hf hm hs hd hl hsd
      have hq61 : 61 + K.length ≤ 1048576 := by omega
      have HWR := Lib.hid (in_run (l := K) (f := ⟨T0, Z, 0, false⟩) HWI.out)
      have HRN := Lib.hid (fun (w3 : World) (F0 : Blocks) (pv : Value) (hr : RepF F0 w3 pv ⟨T0, Z, 0, false⟩) (hb : Below w.heap.size w w3) (hF : ∀ k, F0 k → w.heap.size ≤ k) => run_any E hr 61 HWI.out ((HK.out.below hb).more hb.size) (fun h0 => off_new HK.out h0 hF) hq61 HTX.out ⟨Int.le_refl _, by show (0 : Int) + _ ≤ _; omega⟩)
      have HAF := Lib.hid (fun (w3 : World) (F0 : Blocks) (pv : Value) (hr : Rep F0 w3 pv T0) (hb : Below w.heap.size w w3) (j : Int) => after_any C X hfull hr 61 HWI.out ((HK.out.below hb).more hb.size) hq61 HTX.out j)
      have HVA := Lib.hid (fun (w3 : World) (F0 : Blocks) (pv : Value) (hr : Rep F0 w3 pv T0) (hb : Below w.heap.size w w3) => valid_any C X hfull hr 61 HWI.out ((HK.out.below hb).more hb.size) hq61 HTX.out)
      have hra := (run_after ⟨T0, Z, 0, false⟩ K).2
      have hall := run_all ⟨T0, Z, 0, false⟩ K
      have hval := valid_runs ⟨T0, Z, 0, false⟩ K
      generalize run ⟨T0, Z, 0, false⟩ K = R at *
      generalize hV : valid (⟨T0, Z, 0, false⟩ : Fs).t K = V at *
      obtain ⟨x', rn, re⟩ := R
      obtain ⟨vn, gv⟩ := V
      have hra : x'.t = after T0 K (rn : Int) := hra
      have HAF := Lib.hid (fun w3 F0 pv hr hb => HAF.out w3 F0 pv hr hb (rn : Int))
      rw [← hra] at HAF
      have HALL : Hid (re = 0 → rn = K.length) := Lib.hid hall
      have HVAL : Hid (gv = 0 → Z.length = 0 → re = 0) := Lib.hid (fun h0 hz => hval h0 (List.length_eq_zero_iff.1 hz) rfl)
      have HWR : Hid (Within x'.t (61 + K.length)) := HWR.out
      have HG := Lib.hid (HWR.out.good (by omega))
      have HEQ := Lib.hid (fun (w' : World) (Fa Fb : Blocks) (a b : Addr) (ha : Rep Fa w' (.pointer (some a)) x'.t) (hb : Rep Fb w' (.pointer (some b)) x'.t) => W12.equal_any C HG.out HG.out ha hb)
      rw [show decide (M12.allOf x'.t = M12.allOf x'.t) = true from decide_eq_true rfl] at HEQ
      clear hra hall hval hV HWR
      generalize hq : K.length = q at *
      have HQ := Lib.hid hq
      generalize hzq : Z.length = zq at *
      have HQZ := Lib.hid hzq
      clear hsl hk1 hq hzq hq61 HG
      go_enter Tryz.func5, Tryz.ntmps5
      go_wp2_with fail
      refine HFW.out.mono ?_
      rintro e w1 ⟨rfl, hw⟩
      have hw := hw.symm
      subst hw
      go_wp2_with fail
      refine HSW.out.mono ?_
      rintro e w1 ⟨rfl, hw⟩
      have hw := hw.symm
      subst hw
      go_wp2_with fail
      refine (HM.out _ (Below.refl _ _)).mono ?_
      rintro e w2 ⟨pv, u, F0, rfl, hrep, hn, hF0, hb, -⟩
      obtain ⟨Au, cu, rfl, -, -⟩ := hn.form
      obtain ⟨ta, rfl⟩ := hfull hrep
      obtain ⟨w3, hw3⟩ : ∃ w3, w2.alloc (.cells #[.slice Au T0.L.length cu, .int .i64 T0.last] 30) = w3 := ⟨_, rfl⟩
      have ha : Below w2.heap.size w2 w3 := by rw [← hw3]; exact W07.below_one _ _
      have B3 := Lib.hid (on hb ha)
      have R3 := Lib.hid (C.below hrep ha)
      have HF0 := Lib.hid hF0
      have HM3 := Lib.hid (HM.out w3 B3.out)
      clear hrep hn hF0 hb ha HM HFW HSW
      go_wp2_with fail
      clear hw3
      refine HM3.out.mono ?_
      rintro e w4 ⟨pv, u, F1, rfl, hrep, hn, hF1, hb, -⟩
      obtain ⟨Ab, cb, rfl, -, -⟩ := hn.form
      obtain ⟨tb, rfl⟩ := hfull hrep
      obtain ⟨w5, hw5⟩ : ∃ w5, w4.alloc (.cells #[.slice Ab T0.L.length cb, .int .i64 T0.last] 30) = w5 := ⟨_, rfl⟩
      have ha : Below w4.heap.size w4 w5 := by rw [← hw5]; exact W07.below_one _ _
      have h35 := on hb ha
      have B5 := Lib.hid (on B3.out h35)
      have R5 := Lib.hid (C.below R3.out h35)
      have U5 := Lib.hid (C.below hrep ha)
      have LU : Hid (∀ k, F1 k → ¬ F0 k) := Lib.hid (fun k hk h0 => by have h1 := hF1 k hk; have h2 := C.low R3.out k h0; omega)
      have HNW := Lib.hid (E.new R5.out)
      clear hrep hn hF1 hb ha h35 HM3 R3 B3
      go_wp2_with fail
      clear hw5
      refine HNW.out.mono ?_
      rintro e w6 ⟨v6, F6, rfl, h6, s6, hb6⟩
      obtain ⟨ad, rfl⟩ := E.full h6
      have B6 := Lib.hid (on B5.out hb6)
      have U6 := Lib.hid (C.below U5.out hb6)
      have HF6 : Hid (∀ k, F6 k → w.heap.size ≤ k) := fun k hk => (s6 k hk).elim (HF0.out k) (fun e => Nat.le_trans B5.out.size e)
      have LU6 : Hid (∀ k, F1 k → ¬ F6 k) := Lib.hid (fun k hk h0 => (s6 k h0).elim (LU.out k hk) (fun e => by have := C.low U5.out k hk; omega))
      have HPL := Lib.hid (E.plan h6 (.slice A3 zq c3) Z ((HZ.out.below B6.out).more B6.out.size))
      clear h6 s6 hb6 HNW U5 R5 B5 LU
      go_wp2_with fail
      refine HPL.out.mono ?_
      rintro e w7 ⟨rfl, F7, h7, t7, s7⟩
      have B7 : Hid (Below w.heap.size w w7) := B6.out.trans (t7.below HF6.out B6.out.size)
      have HF7 : Hid (∀ k, F7 k → w.heap.size ≤ k) := fun k hk => (s7 k hk).elim (HF6.out k) (fun e => Nat.le_trans B6.out.size e)
      have U7 := Lib.hid (C.keep U6.out (fun k hk => t7.block k (C.low U6.out k hk) (LU6.out k hk)) t7.size)
      have LU7 : Hid (∀ k, F1 k → ¬ F7 k) := Lib.hid (fun k hk h0 => (s7 k h0).elim (LU6.out k hk) (fun e => by have := C.low U6.out k hk; omega))
      have HR7 := Lib.hid (HRN.out w7 F7 _ h7 B7.out HF7.out)
      clear h7 t7 s7 HPL HRN U6 B6 LU6 HF6
      go_wp2_with fail
      refine HR7.out.mono ?_
      rintro e w8 ⟨rfl, F8, h8, t8, s8⟩
      have B8 : Hid (Below w.heap.size w w8) := B7.out.trans (t8.below HF7.out B7.out.size)
      have U8 := Lib.hid (C.keep U7.out (fun k hk => t8.block k (C.low U7.out k hk) (LU7.out k hk)) t8.size)
      have HT8 := Lib.hid (E.tree h8)
      clear h8 t8 s8 HR7 U7 B7 LU7 HF7
      go_wp2_with fail
      refine HT8.out.mono ?_
      rintro e w9 ⟨tv, Ft, rfl, h9, -, hb9⟩
      obtain ⟨tc, rfl⟩ := hfull h9
      have B9 := Lib.hid (on B8.out hb9)
      have U9 := Lib.hid (C.below U8.out hb9)
      have H9 := Lib.hid h9
      have HA9 := Lib.hid (HAF.out w9 F1 _ U9.out B9.out)
      clear h9 hb9 HT8 U8 B8 HAF
      go_wp2_with fail
      refine HA9.out.mono ?_
      rintro e w10 ⟨va, Fa, rfl, h10, -, hb10⟩
      obtain ⟨td, rfl⟩ := hfull h10
      have B10 := Lib.hid (on B9.out hb10)
      have U10 := Lib.hid (C.below U9.out hb10)
      have HE10 := Lib.hid (HEQ.out w10 Ft Fa tc td (C.below H9.out hb10) h10)
      clear h10 hb10 HA9 U9 B9 HEQ
      go_wp2_with fail
      refine HE10.out.mono ?_
      rintro e w11 ⟨rfl, hb11⟩
      have B11 := Lib.hid (on B10.out hb11)
      have HV11 := Lib.hid (HVA.out w11 F1 _ (C.below U10.out hb11) B11.out)
      clear hb11 HE10 U10 B10 HVA
      go_wp2_with fail
      refine HV11.out.mono ?_
      rintro e w12 ⟨rfl, hb12⟩
      have B12 := Lib.hid (on B11.out hb12)
      have HL12 := Lib.hid (HL.out w12)
      clear hb12 HV11 B11 HL
      by_cases h0 : re = 0
      · have hrn := HALL.out h0
        subst h0 hrn
        clear HALL HVAL
        by_cases h1 : gv = 0
        · subst h1
          by_cases h2 : (zq : Int) = 0
          · have t2 : ((zq : Int) == 0) = true := beq_iff_eq.2 h2
            clear h2
            go_wp2_with fail
            refine HL12.out.mono ?_
            rintro e w13 ⟨rfl, hb13⟩
            have B13 := Lib.hid (on B12.out hb13)
            clear hb13
            go_wp2_with fail
            go_ret
            exact ⟨rfl, B13.out⟩
          · have t2 : ((zq : Int) == 0) = false := beq_eq_false_iff_ne.2 h2
            clear h2
            go_wp2_with fail
            refine HL12.out.mono ?_
            rintro e w13 ⟨rfl, hb13⟩
            have B13 := Lib.hid (on B12.out hb13)
            clear hb13
            go_wp2_with fail
            go_ret
            exact ⟨rfl, B13.out⟩
        · have t1 : (gv == 0) = false := by simp [h1]
          clear h1
          go_wp2_with fail
          refine HL12.out.mono ?_
          rintro e w13 ⟨rfl, hb13⟩
          have B13 := Lib.hid (on B12.out hb13)
          clear hb13
          go_wp2_with fail
          go_ret
          exact ⟨rfl, B13.out⟩
      · have t0 : (re == 0) = false := by simp [h0]
        have t0' : (re != 0) = true := by simp [h0]
        by_cases h1 : gv = 0
        · have hz0 : ¬ zq = 0 := fun e => h0 (HVAL.out h1 e)
          have t2 : ((zq : Int) == 0) = false := beq_eq_false_iff_ne.2 (by omega)
          subst h1
          clear h0 hz0 HALL HVAL
          go_wp2_with fail
          refine HL12.out.mono ?_
          rintro e w13 ⟨rfl, hb13⟩
          have B13 := Lib.hid (on B12.out hb13)
          clear hb13
          go_wp2_with fail
          go_ret
          exact ⟨rfl, B13.out⟩
        · have t1 : (gv == 0) = false := by simp [h1]
          clear h0 h1 HALL HVAL
          go_wp2_with fail
          refine HL12.out.mono ?_
          rintro e w13 ⟨rfl, hb13⟩
          have B13 := Lib.hid (on B12.out hb13)
          clear hb13
          go_wp2_with fail
          go_ret
          exact ⟨rfl, B13.out⟩
end Go.Proofs.YtmbpgjncioegdaaGreatDoor.W20
/-
  Layer 20 (act): the landed code of the layers below keeps the contracts that the law ActPrefix asks; so the law holds. Conditions: none but those that the theorem bears.
-/
namespace Go.Proofs.YtmbpgjncioegdaaGreatDoor.W20
open Go Go.RowKit Go.Proofs.YtmbpgjncioegdaaGreatDoor.Strs Go.Proofs.YtmbpgjncioegdaaGreatDoor.Recs
open Go.Proofs.YtmbpgjncioegdaaGreatDoor.M10 (Fl)
open Go.Proofs.YtmbpgjncioegdaaGreatDoor.W08 (Sn Snodes)
open Go.Proofs.YtmbpgjncioegdaaGreatDoor.W09 (Tk Tasks)
open Go.Proofs.YtmbpgjncioegdaaGreatDoor.W10 (Faults)

theorem actPrefix_law (w : World) (v : Value) (L : List Sn) (h : Snodes w.heap.size w v L) (y : Value) (K : List Tk) (hK : Tasks w.heap.size w y K) (z : Value) (Z : List Fl) (hZ : Faults w.heap.size w z Z) :
    Calls Tryz.prog 5 #[v, y, z] w fun e w' => e = .returned (.bool true) ∧ Below w.heap.size w w' := actPrefix_over W07.trees W10.applies W10.fss W10.full_tree w v y z L h K hK Z hZ
end Go.Proofs.YtmbpgjncioegdaaGreatDoor.W20
