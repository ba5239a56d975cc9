/-
  Texts joined, in build order, each with its own comment and its own conditions: W08Step, W08Concat.
-/
import Derived.Test.YtmbpgjncioegdaaGreatDoorJ15
import Derived.Test.YtmbpgjncioegdaaGreatDoorJ18
import Derived.Test.YtmbpgjncioegdaaGreatDoorJ11
import Derived.Deep.RegionHeld3
import Derived.Test.YtmbpgjncioegdaaGreatDoorJ08
import Derived.Test.YtmbpgjncioegdaaGreatDoorJ07
import Derived.Lib.AppendZeros
import Derived.Lib.Walk
/-
  Layer 8 (seek): one step: the node to which one part leads; what was found is kept in a map; nothing else that was there is changed. The conditions stand in the statement.
-/
namespace Go.Proofs.YtmbpgjncioegdaaGreatDoor.W08
set_option maxRecDepth 100000
open Go Go.RowKit Go.Proofs.YtmbpgjncioegdaaGreatDoor.Strs Go.Proofs.YtmbpgjncioegdaaGreatDoor.Recs Go.Proofs.YtmbpgjncioegdaaGreatDoor.Range
open Go.Proofs.YtmbpgjncioegdaaGreatDoor.M07 (Tr Nd nodeAt inDir Right)
open Go.Proofs.YtmbpgjncioegdaaGreatDoor.M08 Go.Proofs.YtmbpgjncioegdaaGreatDoor.M04
open Go.Proofs.YtmbpgjncioegdaaGreatDoor.M03 (check)
open Go.Proofs.YtmbpgjncioegdaaGreatDoor.W07 (Small Trees listed)
open Go.Proofs.YtmbpgjncioegdaaGreatDoor.Kit (ret_str ret_bool ret_int mk_of mk_bytes ba_ext below_draws on)

/-- where one part leads from a directory, links not being followed -/
def stepN (t : Tr) (d : Int) (p : Bytes) : Int × Int :=
  if (nodeAt t.L d).kind ≠ 1 then (0, 7) else if p = [46, 46] then ((nodeAt t.L d).up, 0) else if check p ≠ 0 then (0, check p) else if inDir t.L d p = 0 then (0, 5) else (inDir t.L d p, 0)
section
variable {t : Tr} {d : Int} {p : Bytes}
theorem step_dir (h : ¬ (nodeAt t.L d).kind = 1) : stepN t d p = (0, 7) := if_pos h
theorem step_up (h : (nodeAt t.L d).kind = 1) (hp : p = [46, 46]) : stepN t d p = ((nodeAt t.L d).up, 0) := by unfold stepN; rw [if_neg (by simpa using h), if_pos hp]
theorem step_bad (h : (nodeAt t.L d).kind = 1) (hp : ¬ p = [46, 46]) (hc : check p ≠ 0) : stepN t d p = (0, check p) := by unfold stepN; rw [if_neg (by simpa using h), if_neg hp, if_pos hc]
theorem step_none (h : (nodeAt t.L d).kind = 1) (hp : ¬ p = [46, 46]) (hc : check p = 0) (hn : inDir t.L d p = 0) : stepN t d p = (0, 5) := by unfold stepN; rw [if_neg (by simpa using h), if_neg hp, if_neg (by simpa using hc), if_pos hn]
theorem step_on (h : (nodeAt t.L d).kind = 1) (hp : ¬ p = [46, 46]) (hc : check p = 0) (hn : ¬ inDir t.L d p = 0) : stepN t d p = (inDir t.L d p, 0) := by unfold stepN; rw [if_neg (by simpa using h), if_neg hp, if_neg (by simpa using hc), if_neg hn]
/-- an error ends it -/
theorem goTo_err {r : List Bytes} {last : Bool} {hops : Nat} (he : (stepN t d p).2 ≠ 0) : goTo t d (p :: r) last hops = (0, hops, (stepN t d p).2) ∧ (stepN t d p).1 = 0 := by
  by_cases h : (nodeAt t.L d).kind = 1
  · by_cases hp : p = [46, 46]
    · rw [step_up h hp] at he; exact absurd rfl he
    · by_cases hc : check p = 0
      · by_cases hn : inDir t.L d p = 0
        · rw [step_none h hp hc hn, go_none h hp hc hn]; exact ⟨rfl, rfl⟩
        · rw [step_on h hp hc hn] at he; exact absurd rfl he
      · rw [step_bad h hp hc, go_bad h hp hc]; exact ⟨rfl, rfl⟩
  · rw [step_dir h, go_no h]; exact ⟨rfl, rfl⟩
theorem up_dir (hR : Right t) (h : (nodeAt t.L d).kind = 1) : (nodeAt t.L (nodeAt t.L d).up).kind = 1 := hR.up _ (M07.at_some (by rw [h]; decide)).1
/-- no link, or a link at the end that is not to be followed -/
theorem goTo_on {r : List Bytes} {last : Bool} {hops : Nat} (he : (stepN t d p).2 = 0) (hk : (nodeAt t.L (stepN t d p).1).kind ≠ 3 ∨ (r = [] ∧ last = false)) : goTo t d (p :: r) last hops = goTo t (stepN t d p).1 r last hops := by
  by_cases h : (nodeAt t.L d).kind = 1
  · by_cases hp : p = [46, 46]
    · rw [step_up h hp, go_up h hp]
    · by_cases hc : check p = 0
      · by_cases hn : inDir t.L d p = 0
        · rw [step_none h hp hc hn] at he; exact absurd he (by decide)
        · rw [step_on h hp hc hn] at hk ⊢; exact go_on h hp hc hn hk
      · rw [step_bad h hp hc] at he; exact absurd he hc
  · rw [step_dir h] at he; exact absurd he (by decide)
theorem goTo_link (hR : Right t) {r : List Bytes} {last : Bool} {hops : Nat} (he : (stepN t d p).2 = 0) (hk : ¬ ((nodeAt t.L (stepN t d p).1).kind ≠ 3 ∨ (r = [] ∧ last = false))) :
    goTo t d (p :: r) last hops = if 40 ≤ hops then (0, hops, 10) else goTo t (M08.base d (nodeAt t.L (stepN t d p).1).data) (parts (nodeAt t.L (stepN t d p).1).data ++ r) last (hops + 1) := by
  by_cases h : (nodeAt t.L d).kind = 1
  · by_cases hp : p = [46, 46]
    · rw [step_up h hp] at hk
      exact absurd (Or.inl (by rw [up_dir hR h]; decide)) hk
    · by_cases hc : check p = 0
      · by_cases hn : inDir t.L d p = 0
        · rw [step_none h hp hc hn] at he; exact absurd he (by decide)
        · rw [step_on h hp hc hn] at hk ⊢
          by_cases h40 : 40 ≤ hops
          · rw [if_pos h40]; exact go_loop h hp hc hn hk h40
          · rw [if_neg h40]; exact go_link h hp hc hn hk h40
      · rw [step_bad h hp hc] at he; exact absurd he hc
  · rw [step_dir h] at he; exact absurd he (by decide)
theorem check_long (hl : 64 < p.length) : check p = 11 := by
  unfold M03.check
  rw [if_neg (by omega), if_pos hl]
theorem check_zero (h : Part p) (hl : ¬ 64 < p.length) (hz : (0 : UInt8) ∈ p) : check p = 11 := by
  unfold M03.check
  rw [if_neg (fun e => h.2.1 (List.length_eq_zero_iff.1 e)), if_neg hl, if_pos (List.any_eq_true.2 ⟨0, hz, by decide⟩)]
theorem check_good (h : Part p) (hl : ¬ 64 < p.length) (hz : (0 : UInt8) ∉ p) (hp : ¬ p = [46, 46]) : check p = 0 := by
  unfold M03.check
  rw [if_neg (fun e => h.2.1 (List.length_eq_zero_iff.1 e)), if_neg hl, if_neg, if_neg (by rintro (e | e); exact h.2.2 e; exact hp e)]
  rw [Bool.not_eq_true, List.any_eq_false]
  intro c hc
  have h0 : c ≠ 0 := fun e => hz (e ▸ hc)
  have h47 : c ≠ 47 := fun e => h.1 (e ▸ hc)
  simp [M03.badByte, h0, h47]
end
theorem num_wf {t : Tr} (hR : Right t) (hs : Small t) {d : Int} (h : (nodeAt t.L d).kind = 1) : (Lit.int .i64 d).wf = true := by
  have hm := M07.at_some (L := t.L) (n := d) (by rw [h]; decide)
  have he := hR.ends _ hm.1
  have hl := hs.2
  rw [hm.2] at he
  exact WalkArith.wf_i64 (by omega)
theorem box_keep {w2 w' : World} {p : Nat} {a b : Value} (hp : p < w2.heap.size) (h : w2.cell? ⟨p, 0, none⟩ = some a ∧ w2.cell? ⟨p, 1, none⟩ = some b) (hb : Below w2.heap.size w2 w') : w'.cell? ⟨p, 0, none⟩ = some a ∧ w'.cell? ⟨p, 1, none⟩ = some b ∧ Below w2.heap.size w2 w' :=
  ⟨(hb.cell (p := ⟨p, 0, none⟩) hp).trans h.1, (hb.cell (p := ⟨p, 1, none⟩) hp).trans h.2, hb⟩
/-- what a step leaves -/
def Stepped (t : Tr) (b m : Nat) (R : Int × Int) (w : World) (e : Ending) (w' : World) : Prop := e = .returned (.tuple #[.int .i64 R.1, .int .i64 R.2]) ∧ Seen t w' b (m + 1) ∧ Beside b w w'
theorem Stepped.of {t : Tr} {b m : Nat} {R : Int × Int} {w w' : World} {x y : Int} (hR : R = (x, y)) (hS : Seen t w b m) (hB : Below w.heap.size w w') : Stepped t b m R w (.returned (.tuple #[.int .i64 x, .int .i64 y])) w' := by
  subst hR
  exact ⟨rfl, (hS.below hB).more (by omega), .of_below b hB⟩
set_option maxHeartbeats 8000000 in
theorem step_any {Rep : (Nat → Prop) → World → Value → Tr → Prop} (C : Trees Rep) {F : Nat → Prop} {w : World} {v : Value} {t : Tr} (P : Rep F w v t) (G : Good t) (d : Int) (s : ByteArray) (hs : s.size ≤ 1099511627776) (hp : Part s.data.toList) (b m : Nat) (hm : m < maxLen) (S : Seen t w b m) (hF : ∀ k, F k → k ≠ b) :
    Calls Tryz.prog 137 #[v, .agg #[.int .i64 d, .string s], .map (some b)] w (Stepped t b m (stepN t d s.data.toList) w) := by
  have HR := Lib.hid (C.right P)
  have HG := Lib.hid G
  obtain ⟨w1, hw1⟩ : ∃ w1, w.alloc (.cells #[.int .i64 d, .string s] 174) = w1 := ⟨_, rfl⟩
  have B1 : Hid (Below w.heap.size w w1) := by show Below _ _ _; rw [← hw1]; exact (Below.refl w.heap.size w).alloc (Nat.le_refl _) _
  have Z1 : w1.heap.size = w.heap.size + 1 := by rw [← hw1]; simp
  have hp1 : w.heap.size < w1.heap.size := by omega
  have c0 : w1.cell? ⟨w.heap.size, 0, none⟩ = some (.int .i64 d) := by rw [← hw1]; simp
  have c1 : w1.cell? ⟨w.heap.size, 1, none⟩ = some (.string s) := by rw [← hw1]; simp
  have HK := Lib.hid (C.kind (C.below P B1.out) G.small d)
  have HS := Lib.hid S
  have HF := Lib.hid hF
  have HP := Lib.hid P
  have HPT := Lib.hid hp
  have HSI := Lib.hid hs
  clear P G S hF hp hs
  by_cases hk : (nodeAt t.L d).kind = 1
  · have tk : ((nodeAt t.L d).kind != 1) = false := by simp [hk]
    have HWF := Lib.hid (num_wf HR.out HG.out.small hk)
    by_cases hdd : s.data.toList = [46, 46]
    · have HX := Lib.hid (step_up (t := t) hk hdd)
      have ts : (s.toList == [46, 46]) = true := by rw [Lib.toList_data, hdd]; rfl
      have HUP := Lib.hid (fun (w' : World) (hb : Below w.heap.size w w') => C.up (C.below HP.out hb) HG.out.small d)
      generalize stepN t d s.data.toList = R at *
      generalize nodeAt t.L d = x at *
      clear hk hdd HWF
      go_enter Tryz.func137, Tryz.ntmps137
      go_wp2_with fail
      refine HK.out.mono ?_
      rintro e w2 ⟨rfl, hb2⟩
      obtain ⟨d0, d1, B2⟩ := box_keep hp1 ⟨c0, c1⟩ hb2
      have B2 := Lib.hid (on B1.out hb2)
      have hp2 : w.heap.size < w2.heap.size := Nat.lt_of_lt_of_le hp1 hb2.size
      clear hb2 c0 c1
      go_wp2_with fail
      refine (HUP.out _ B2.out).mono ?_
      rintro e w3 ⟨rfl, hb3⟩
      have B3 := Lib.hid (on B2.out hb3)
      clear hb3
      go_wp2_with fail
      go_ret2
      exact Stepped.of HX.out HS.out B3.out
    · have ts : (s.toList == [46, 46]) = false := by rw [Lib.toList_data, beq_eq_false_iff_ne]; exact hdd
      have HIB := Lib.hid (fun w' => Tryz.strings_IndexByte s 0 w')
      by_cases hl : 64 < s.data.toList.length
      · have HX := Lib.hid (step_bad (t := t) hk hdd (by rw [check_long hl]; decide))
        rw [check_long hl] at HX
        have tl : (64 : Int) < s.size := by rw [Lib.size_eq]; omega
        generalize stepN t d s.data.toList = R at *
        generalize nodeAt t.L d = x at *
        clear hk hdd HWF hl
        go_enter Tryz.func137, Tryz.ntmps137
        go_wp2_with fail
        refine HK.out.mono ?_
        rintro e w2 ⟨rfl, hb2⟩
        obtain ⟨d0, d1, B2⟩ := box_keep hp1 ⟨c0, c1⟩ hb2
        have B2 := Lib.hid (on B1.out hb2)
        have hp2 : w.heap.size < w2.heap.size := Nat.lt_of_lt_of_le hp1 hb2.size
        clear hb2 c0 c1
        go_wp2_with fail
        go_ret2
        exact Stepped.of HX.out HS.out B2.out
      · have tl : ¬ (64 : Int) < s.size := by rw [Lib.size_eq]; omega
        have hz8 : ((0 : Int).toNat.toUInt8 : UInt8) = 0 := rfl
        rw [hz8] at HIB
        by_cases hz : 0 ≤ Lib.indexByte s.data.toList 0
        · have hin : (0 : UInt8) ∈ s.data.toList := by obtain ⟨k, -, -, e, -⟩ := index_some _ _ hz; rw [e]; simp
          have HX := Lib.hid (step_bad (t := t) hk hdd (by rw [check_zero HPT.out hl hin]; decide))
          rw [check_zero HPT.out hl hin] at HX
          generalize stepN t d s.data.toList = R at *
          generalize Lib.indexByte s.data.toList 0 = z at *
          generalize nodeAt t.L d = x at *
          clear hk hdd HWF hl hin
          go_enter Tryz.func137, Tryz.ntmps137
          go_wp2_with fail
          refine HK.out.mono ?_
          rintro e w2 ⟨rfl, hb2⟩
          obtain ⟨d0, d1, B2⟩ := box_keep hp1 ⟨c0, c1⟩ hb2
          have B2 := Lib.hid (on B1.out hb2)
          have hp2 : w.heap.size < w2.heap.size := Nat.lt_of_lt_of_le hp1 hb2.size
          clear hb2 c0 c1
          go_wp2_with fail
          refine (HIB.out _).mono ?_
          rintro e w3 ⟨rfl, rfl⟩
          go_wp2_with fail
          go_ret2
          exact Stepped.of HX.out HS.out B2.out
        · have hin : (0 : UInt8) ∉ s.data.toList := index_none _ _ (by omega)
          have hck := check_good HPT.out hl hin hdd
          have HSL : Hid (s.size ≤ maxLen) := by have := HSI.out; show _ ≤ _; unfold maxLen; omega
          have HASK := Lib.hid (fun (w' : World) (hb : Below w.heap.size w w') => Seen.ask (HS.out.below hb) d s HWF.out HSL.out)
          have HLS := Lib.hid (fun (w' : World) (hb : Below w.heap.size w w') => C.list (C.below HP.out hb) HG.out.small d)
          have HNR := Lib.hid (fun (w' : World) (u : Value) (hu : W06.Ents w'.heap.size w' u (listed t d)) => near_any HR.out HG.out.small d s hu)
          by_cases hn : inDir t.L d s.data.toList = 0
          · have HX := Lib.hid (step_none (t := t) hk hdd hck hn)
            have HASK : Hid (∀ (w' : World), Below w.heap.size w w' → (Instr.lookup 171 (.map (some b)) (.agg #[.int .i64 d, .string s]) true).run Tryz.prog w' = .ok (.tuple #[.int .i64 0, .bool false]) w') := fun w' hb => by
              rcases HASK.out w' hb with h1 | ⟨h1, -⟩
              · exact h1
              · exact absurd hn h1
            rw [hn, show decide ((0 : Int) ≠ 0) = false from rfl] at HNR
            generalize stepN t d s.data.toList = R at *
            generalize Lib.indexByte s.data.toList 0 = z at *
            generalize nodeAt t.L d = x at *
            clear hk hdd HWF hl hin hck hn
            go_enter Tryz.func137, Tryz.ntmps137
            go_wp2_with fail
            refine HK.out.mono ?_
            rintro e w2 ⟨rfl, hb2⟩
            obtain ⟨d0, d1, B2⟩ := box_keep hp1 ⟨c0, c1⟩ hb2
            have B2 := Lib.hid (on B1.out hb2)
            have hp2 : w.heap.size < w2.heap.size := Nat.lt_of_lt_of_le hp1 hb2.size
            clear hb2 c0 c1
            go_wp2_with fail
            refine (HIB.out _).mono ?_
            rintro e w3 ⟨rfl, hw3⟩
            replace hw3 := hw3.symm
            subst hw3
            have hask := HASK.out _ B2.out
            go_wp2_with fail
            go_region_held3 (fun w' => w'.cell? ⟨w.heap.size, 0, none⟩ = some (.int .i64 d) ∧ w'.cell? ⟨w.heap.size, 1, none⟩ = some (.string s) ∧ Below w2.heap.size w2 w')
              (first | exact box_keep hp2 ⟨d0, d1⟩ (B3.out.trans (hb4.mono B3.out.size)) | exact box_keep hp2 ⟨d0, d1⟩ B3.out | exact ⟨d0, d1, below_draws w2 1⟩ | go_keep)
              (first
                | (go_at_call 40; refine (HLS.out _ (on B2.out (below_draws w2 1))).mono ?_; rintro e w3 ⟨u3, rfl, hu3, hb3⟩; have U3 := Lib.hid hu3; have B3 := Lib.hid ((below_draws w2 1).trans hb3); clear hu3 hb3)
                | (go_at_call 67; refine (HNR.out w3 u3 U3.out).mono ?_; rintro e w4 ⟨rfl, hb4⟩))
            obtain ⟨e0, e1, b4⟩ : w4.cell? ⟨w.heap.size, 0, none⟩ = some (.int .i64 d) ∧ w4.cell? ⟨w.heap.size, 1, none⟩ = some (.string s) ∧ Below w2.heap.size w2 w4 := by assumption
            have B4 := Lib.hid (on B2.out b4)
            clear b4 hb4 d0 d1 B3
            go_wp2_with fail
            go_ret2
            exact Stepped.of HX.out HS.out B4.out
          · have HX := Lib.hid (step_on (t := t) hk hdd hck hn)
            have HPUT := Lib.hid (fun (w' : World) (hb : Below w.heap.size w w') => Seen.put (HS.out.below hb) d s HWF.out HSL.out hm hn)
            rw [decide_eq_true hn] at HNR
            generalize stepN t d s.data.toList = R at *
            generalize Lib.indexByte s.data.toList 0 = z at *
            generalize nodeAt t.L d = x at *
            generalize inDir t.L d s.data.toList = y at *
            clear hk hdd HWF hl hin hck hn
            go_enter Tryz.func137, Tryz.ntmps137
            go_wp2_with fail
            refine HK.out.mono ?_
            rintro e w2 ⟨rfl, hb2⟩
            obtain ⟨d0, d1, B2⟩ := box_keep hp1 ⟨c0, c1⟩ hb2
            have B2 := Lib.hid (on B1.out hb2)
            have hp2 : w.heap.size < w2.heap.size := Nat.lt_of_lt_of_le hp1 hb2.size
            clear hb2 c0 c1
            go_wp2_with fail
            refine (HIB.out _).mono ?_
            rintro e w3 ⟨rfl, hw3⟩
            replace hw3 := hw3.symm
            subst hw3
            rcases HASK.out _ B2.out with hask | ⟨-, hask⟩
            · clear HASK
              go_wp2_with fail
              go_region_held3 (fun w' => w'.cell? ⟨w.heap.size, 0, none⟩ = some (.int .i64 d) ∧ w'.cell? ⟨w.heap.size, 1, none⟩ = some (.string s) ∧ Below w2.heap.size w2 w')
                (first | exact box_keep hp2 ⟨d0, d1⟩ (B3.out.trans (hb4.mono B3.out.size)) | exact box_keep hp2 ⟨d0, d1⟩ B3.out | exact ⟨d0, d1, below_draws w2 1⟩ | go_keep)
                (first
                  | (go_at_call 40; refine (HLS.out _ (on B2.out (below_draws w2 1))).mono ?_; rintro e w3 ⟨u3, rfl, hu3, hb3⟩; have U3 := Lib.hid hu3; have B3 := Lib.hid ((below_draws w2 1).trans hb3); clear hu3 hb3)
                  | (go_at_call 67; refine (HNR.out w3 u3 U3.out).mono ?_; rintro e w4 ⟨rfl, hb4⟩))
              obtain ⟨e0, e1, b4⟩ : w4.cell? ⟨w.heap.size, 0, none⟩ = some (.int .i64 d) ∧ w4.cell? ⟨w.heap.size, 1, none⟩ = some (.string s) ∧ Below w2.heap.size w2 w4 := by assumption
              have B4 := Lib.hid (on B2.out b4)
              clear b4 hb4 d0 d1 B3
              obtain ⟨w5, hput, S5, T5⟩ := HPUT.out w4 B4.out
              have S5 := Lib.hid S5
              have T5 := Lib.hid (Beside.of_turned T5)
              go_wp2_with fail
              go_ret2
              rw [HX.out]
              exact ⟨rfl, S5.out, (Beside.of_below b B4.out).trans T5.out⟩
            · clear HASK
              go_wp2_with fail
              go_ret2
              exact Stepped.of HX.out HS.out B2.out
  · have tk : ((nodeAt t.L d).kind != 1) = true := by simpa using hk
    have HX := Lib.hid (step_dir (p := s.data.toList) hk)
    generalize stepN t d s.data.toList = R at *
    generalize nodeAt t.L d = x at *
    clear hk
    go_enter Tryz.func137, Tryz.ntmps137
    go_wp2_with fail
    refine HK.out.mono ?_
    rintro e w2 ⟨rfl, hb2⟩
    obtain ⟨d0, d1, B2⟩ := box_keep hp1 ⟨c0, c1⟩ hb2
    have B2 := Lib.hid (on B1.out hb2)
    have hp2 : w.heap.size < w2.heap.size := Nat.lt_of_lt_of_le hp1 hb2.size
    clear hb2 c0 c1
    go_wp2_with fail
    go_ret2
    exact Stepped.of HX.out HS.out B2.out
    -- @end
    end Go.Proofs.YtmbpgjncioegdaaGreatDoor.W08
/-
  Walks of Go's library on slices of texts: slices.Grow of nil, slices.Concat: all the texts, one slice behind the other, in new memory; nothing that was there is changed. The conditions stand in the statements.
-/
namespace Go.Proofs.YtmbpgjncioegdaaGreatDoor.W08
set_option maxRecDepth 100000
open Go Go.RowKit Go.Proofs.YtmbpgjncioegdaaGreatDoor.Strs Go.Proofs.YtmbpgjncioegdaaGreatDoor.Recs
open Go.Proofs.YtmbpgjncioegdaaGreatDoor.W04 (Makes)
open Go.Proofs.YtmbpgjncioegdaaGreatDoor.M07 (Bytes)
open Go.Proofs.YtmbpgjncioegdaaGreatDoor.Kit (ret_str ret_bool ret_int mk_of mk_bytes ba_ext below_draws on)

theorem growT_none (n : Nat) (w : World) (hn : n ≤ 4398046511104) :
    Calls Tryz.prog 146 #[.slice none 0 0, .int .i64 n] w (Makes w []) := by
  obtain ⟨i0, hi, hz0, hz1, hz2⟩ := info_parts text_info
  have h1 : ¬ ((n : Int) < 0) := by omega
  rcases Nat.eq_zero_or_pos n with h0 | h0
  · subst h0
    go_enter Tryz.func146, Tryz.ntmps146
    go_wp2_with fail
    go_ret
    exact ⟨_, rfl, World.ownsRow_nil _ _ _ _, Below.refl _ _⟩
  · have HR := Lib.hid (fun ty => Lib.run_append_nil_zeros (P := Tryz.prog) w 135 3 ty 9 i0 (.string ⟨#[]⟩) .i64 .i64 Tryz.underlying135 Tryz.underlying3 hi hz0 n h0 (by rw [hz1]; omega) (by omega) (by rw [hz2]; omega))
    have hG1 := grownCap_ge w n 0 9
    have hG2 := grownCap_le_maxLen w n 0 9 (by unfold maxLen; omega)
    generalize grownCap w n 0 9 = G at *
    have HZ : Hid ((Builtin.zeroCells (Value.string ⟨#[]⟩).cells n ++ Builtin.zeroCells (Value.string ⟨#[]⟩).cells (G - n)).size = G * 1) := by
      show _ = _
      simp [Builtin.zeroCells]
      rw [show (Value.string ⟨#[]⟩).cells.size = 1 from rfl]
      omega
    unfold maxLen at hG2
    generalize Builtin.zeroCells (Value.string ⟨#[]⟩).cells n ++ Builtin.zeroCells (Value.string ⟨#[]⟩).cells (G - n) = Z at *
    go_enter Tryz.func146, Tryz.ntmps146
    go_wp2_with (at_builtin; refine Lib.wpList_append_run _ rfl _ _ _ _ rfl _ _ rfl rfl _ _ (HR.out _) ?_)
    go_ret
    refine ⟨_, rfl, ⟨rfl, Or.inr ⟨w.heap.size, G, Z, rfl, Nat.le_refl _, ?_, Nat.zero_le _, ?_, HZ.out, by simp⟩⟩, ?_⟩
    · show (w.heap.push _)[w.heap.size]? = _
      simp
    · unfold maxLen; omega
    · exact ((Below.refl w.heap.size w).alloc (Nat.le_refl _) _).drew
/-- a row of slices of texts -/
def TextLists (B : Nat) (w : World) (b o : Nat) (Ls : List (List Bytes)) : Prop := ∀ j (h : j < Ls.length), ∃ A c, w.cell? ⟨b, o + j, none⟩ = some (.slice A (Ls[j]).length c) ∧ Texts B w (.slice A (Ls[j]).length c) Ls[j]
theorem TextLists.below {B : Nat} {w w' : World} {b o : Nat} {Ls : List (List Bytes)} (h : TextLists B w b o Ls) (hb : b < B) (hw : Below B w w') : TextLists B w' b o Ls := fun j hj => by
  obtain ⟨A, c, h1, h2⟩ := h j hj
  exact ⟨A, c, by rw [hw.cell hb]; exact h1, h2.below hw⟩
theorem flatT_next {Ls : List (List Bytes)} {k : Nat} (hk : k < Ls.length) : (Ls.take (k + 1)).flatten = (Ls.take k).flatten ++ Ls[k] := by
  rw [List.take_succ_eq_append_getElem hk, List.flatten_append]; simp
theorem flatT_all {Ls : List (List Bytes)} {k : Nat} (hk : ¬ k < Ls.length) : (Ls.take k).flatten = Ls.flatten := by rw [List.take_of_length_le (by omega)]
theorem flatT_upto (Ls : List (List Bytes)) (k : Nat) : (Ls.take k).flatten.length ≤ Ls.flatten.length := by
  have : Ls.flatten = (Ls.take k).flatten ++ (Ls.drop k).flatten := by rw [← List.flatten_append, List.take_append_drop]
  rw [this, List.length_append]; omega
/-- an own row of texts -/
def OwnTexts (w : World) (base : Nat) (v : Value) (L : List Bytes) : Prop := w.ownsRow base 9 1 v L.length (L.map strV)
theorem own_texts_all {w : World} {base : Nat} {v : Value} {out L : List Bytes} (h : w.ownsRow base 9 1 v (out.length + L.length) (out.map strV ++ L.flatMap oneT)) : OwnTexts w base v (out ++ L) := by
  unfold OwnTexts
  rw [List.length_append, List.map_append]
  rw [flat_one] at h
  exact h
set_option maxHeartbeats 1000000 in
theorem concatT_any (b o m cap B : Nat) (Ls : List (List Bytes)) (w : World) (hm : Ls.length = m) (hL : TextLists B w b o Ls) (hb : b < B) (hB : B ≤ w.heap.size) (hm2 : m ≤ 1099511627776) (ht : Ls.flatten.length ≤ 4398046511104) :
    Calls Tryz.prog 139 #[.slice (some ⟨b, o, none⟩) m cap] w (Makes w Ls.flatten) := by
  obtain ⟨i0, hi, hz0, hz1, hz2⟩ := info_parts text_info
  have H := Lib.hid hL
  have HM := Lib.hid hm
  clear hL hm
  have HI := Lib.hid hi
  go_enter Tryz.func139, Tryz.ntmps139
  go_wp2_with fail
  go_loopw [3, 11] (fun u i wr => ∃ k z : Nat, k ≤ m ∧ i = .int .i64 k ∧ u = .int .i64 z ∧ Hid (z = (Ls.take k).flatten.length) ∧ wr = w) (fun _ i _ => m - (intOf i).toNat)
  case atStart => exact ⟨0, 0, Nat.zero_le _, rfl, rfl, rfl, rfl⟩
  case round =>
    obtain ⟨k, z, hk, rfl, rfl, hz, hwr⟩ := hrel
    have hwr := hwr.symm
    subst hwr
    by_cases hlt : k < m
    · have hk2 : k < Ls.length := by rw [HM.out]; exact hlt
      obtain ⟨A, c, hc, hE⟩ := H.out k hk2
      have hup := flatT_upto Ls (k + 1)
      rw [flatT_next hk2, List.length_append, ← hz.out] at hup
      have HZ : Hid (z + (Ls[k]).length = (Ls.take (k + 1)).flatten.length) := by show _ = _; rw [flatT_next hk2, List.length_append, ← hz.out]
      clear hE
      generalize (Ls[k]).length = n at *
      have h0 : ¬ ((z : Int) + (n : Int) < 0) := by omega
      go_wp2_with fail
      go_roundw
      case rel => exact ⟨k + 1, z + n, by omega, by go_num, by go_num, HZ, by trivial⟩
      case measure => simp [intOf]; omega
    · have HZ : Hid (z = Ls.flatten.length) := hz.out.trans (by rw [flatT_all (by rw [HM.out]; exact hlt)])
      have hzz : z ≤ 4398046511104 := by rw [HZ.out]; exact ht
      go_wp2_with fail
      refine (growT_none z w hzz).mono ?_
      rintro e w1 ⟨u, rfl, hu, hb1⟩
      have U := Lib.hid hu
      have B1 := Lib.hid hb1
      clear hu hb1
      clear hzz HZ hz
      go_wp2_with fail
      go_loopw [6, 27] (fun u i wr => ∃ k : Nat, k ≤ m ∧ i = .int .i64 k ∧ Hid (OwnTexts wr w.heap.size u (Ls.take k).flatten) ∧ Below w.heap.size w wr) (fun _ i _ => m - (intOf i).toNat)
      case atStart => exact ⟨0, Nat.zero_le _, rfl, U.out, B1.out⟩
      case round =>
        clear U B1
        obtain ⟨k, hk, rfl, hown, hb1⟩ := hrel
        have hbs := hb1.size
        by_cases hlt : k < m
        · have hk2 : k < Ls.length := by rw [HM.out]; exact hlt
          obtain ⟨A, c, hc, hE⟩ := (H.out.below hb (hb1.mono hB)) k hk2
          have hup := flatT_upto Ls (k + 1)
          have HN := Lib.hid (flatT_next hk2)
          rw [HN.out, List.length_append] at hup
          have HE := Lib.hid hE
          have HT := Lib.hid ht
          clear hE ht
          generalize (Ls.take k).flatten = out at *
          generalize Ls[k] = L at *
          have a1 : out.length + L.length ≤ maxLen := by have := HT.out; unfold maxLen; omega
          have a2 : (out.length + L.length) * 16 ≤ 140737488355328 := by have := HT.out; omega
          go_wp2_with (at_builtin; refine wpList_append_recs rfl (.tmp 31) (.tmp 32) 135 rfl w.heap.size 9 i0 (.string ⟨#[]⟩) 1 16 Tryz.underlying135 HI.out hz0 hz1 hz2 rfl (by decide) _ _ _ rfl hown.out _ L B rfl (texts_recs HE.out) one_len one_one a1 a2 hbs ?_; intro v1 w2 hown1 hg2 _)
          have O2 := Lib.hid (own_texts_all hown1)
          have B2 := Lib.hid (hb1.grown hg2 hbs (fun k hk => (hown.out.lt k hk).1))
          clear hown1 hg2 a1 a2
          rw [← HN.out] at O2
          go_wp2
          go_roundw
          case rel => exact ⟨k + 1, by omega, by go_num, O2, B2.out⟩
          case measure => simp [intOf]; omega
        · have HX := Lib.hid (flatT_all (Ls := Ls) (k := k) (by rw [HM.out]; exact hlt))
          rw [HX.out] at hown
          go_wp2_with fail
          go_ret
          exact ⟨_, rfl, hown.out, hb1⟩
/-- two slices, one behind the other -/
theorem concat_two (w : World) (A1 A2 : Option Addr) (n1 n2 c1 c2 : Nat) (L1 L2 : List Bytes) (t : TypeId) (h1 : Texts w.heap.size w (.slice A1 n1 c1) L1) (h2 : Texts w.heap.size w (.slice A2 n2 c2) L2) (ht : L1.length + L2.length ≤ 4398046511104) (cap : Nat) :
    Calls Tryz.prog 139 #[.slice (some ⟨w.heap.size, 0, none⟩) 2 cap] (w.alloc (.cells #[.slice A1 n1 c1, .slice A2 n2 c2] t)) (Makes (w.alloc (.cells #[.slice A1 n1 c1, .slice A2 n2 c2] t)) (L1 ++ L2)) := by
  obtain ⟨rfl, -, -⟩ := h1.count
  obtain ⟨rfl, -, -⟩ := h2.count
  have := concatT_any w.heap.size 0 2 cap (w.heap.size + 1) [L1, L2] (w.alloc (.cells #[.slice A1 L1.length c1, .slice A2 L2.length c2] t)) rfl (by
    intro j hj
    have hj2 : j < 2 := hj
    match j, hj2 with
    | 0, _ => exact ⟨A1, c1, by simp, (h1.alloc (Nat.le_refl _) _).more (by omega)⟩
    | 1, _ => exact ⟨A2, c2, by simp, (h2.alloc (Nat.le_refl _) _).more (by omega)⟩) (by omega) (by simp) (by omega) (by simp; omega)
  simpa using this
end Go.Proofs.YtmbpgjncioegdaaGreatDoor.W08
