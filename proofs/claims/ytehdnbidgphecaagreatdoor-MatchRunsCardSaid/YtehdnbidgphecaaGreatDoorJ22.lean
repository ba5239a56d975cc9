/-
  Texts joined, in build order, each with its own comment and its own conditions: W15All, W15New, W14Sizes, W14Size, W14Right.
-/
import Derived.Test.YtehdnbidgphecaaGreatDoorJ21
import Derived.Deep.Onto
import Derived.Test.YtehdnbidgphecaaGreatDoorJ13
import Derived.Test.YtehdnbidgphecaaGreatDoorJ09
import Derived.Deep.RegionHeld3
import Derived.BigQuiet
import Derived.Test.YtehdnbidgphecaaGreatDoorJ08
import Derived.Test.YtehdnbidgphecaaGreatDoorJ11
/-
  Layer 15 (prog), walk of the layer's lay: the steps of any piece are laid. The conditions stand in the statements.
-/
namespace Go.Proofs.YtehdnbidgphecaaGreatDoor.W15
open Go Go.RowKit Go.Proofs.YtehdnbidgphecaaGreatDoor.Strs Go.Proofs.YtehdnbidgphecaaGreatDoor.Recs Go.Proofs.YtehdnbidgphecaaGreatDoor.M15
open Go.Proofs.YtehdnbidgphecaaGreatDoor.M14 (Piece size sizes)
open Go.Proofs.YtehdnbidgphecaaGreatDoor.W14 (Raw Raws rawA rawC PAt PAll PBox)

theorem lay_leaf {k : Int} {t : ByteArray} (hk : 1 ≤ k ∧ k ≤ 6) : LayOk (M14.leaf k t) := by
  intro w b v L r h hp hl
  have hL : L.length ≤ 900000 := by omega
  have hp2 := hp
  unfold M14.leaf at hp2
  obtain ⟨A, c, raws, rfl, k1⟩ := parts_under hp2
  rw [steps_leaf hk]
  have : k = 1 ∨ k = 2 ∨ k = 3 ∨ k = 4 ∨ k = 5 ∨ k = 6 := by omega
  rcases this with rfl | rfl | rfl | rfl | rfl | rfl
  · rw [if_pos rfl, List.append_nil]
    exact lay_empty h hp fun w h1 _ => empty_any h1 _
  · exact lay_char h hp fun w h1 _ => char_any h1 hL _
  · exact lay_any h hp fun w h1 _ => any_any h1 hL _
  · exact lay_set h hp fun w h1 _ => set_any h1 hL _
  · exact lay_begin h hp fun w h1 _ => begin_any h1 hL _
  · exact lay_end h hp fun w h1 _ => end_any h1 hL _
/-- the steps of any piece are laid -/
theorem layOk {p : Piece} (h : M15.Good p) : LayOk p := by
  induction h with
  | leaf k t h => exact lay_leaf h
  | many k hk ks h2 hw ih =>
    intro w b v L r h hp hl
    obtain ⟨A, c, raws, rfl, k1⟩ := parts_under hp
    have IH : ∀ i (hi : i < ks.length), LayOk ks[i] := fun i hi => ih ks[i] (List.getElem_mem hi)
    rcases hk with rfl | rfl
    · rw [M15.size_7] at hl
      have hs : ∀ q, q ∈ ks → ∀ a, (steps q a).length = size q := fun q hq => steps_len (hw q hq) (by have := M15.size_mem hq; omega)
      rw [steps_7]
      exact lay_seq h hp fun w h1 h2 => by
        obtain ⟨A', c', raws', e, k2⟩ := parts_under h2
        cases e
        exact seq_any IH hs h1 k2 (by omega)
    · rw [steps_8]
      have hsz := M15.size_8 no ks 0 0
      obtain ⟨S, hS⟩ : ∃ S, size (.mk 8 no ks 0 0) = S := ⟨_, rfl⟩
      rw [hS] at hl hsz ⊢
      have hs : ∀ q, q ∈ ks → ∀ a, (steps q a).length = size q := fun q hq => steps_len (hw q hq) (by have := M15.size_mem hq; omega)
      obtain ⟨n, hn⟩ : ∃ n, ks.length = n + 1 := ⟨ks.length - 1, by omega⟩
      exact lay_alt h hp fun w h1 h2 => by
        obtain ⟨A', c', raws', e, k2⟩ := parts_under h2
        cases e
        have hE : L.length + (sizes ks + 2 * n) = L.length + S := by
          rw [hn] at hsz
          omega
        exact alt_any IH hs h1 k2 hn hE (by omega)
  | rep p m t hm ht hw ih =>
    intro w b v L r h hp hl
    obtain ⟨A, c, raws, rfl, k1⟩ := parts_under hp
    rw [steps_9]
    have hsz := M15.size_9 no p m t
    obtain ⟨S, hS⟩ : ∃ S, size (.mk 9 no [p] m t) = S := ⟨_, rfl⟩
    have hkid := fun hu => M15.rep_kid (p := p) (t := no) (m := m) (tp := t) (by rw [hS]; omega) hu hm.1
    rw [hS] at hl hsz ⊢
    obtain ⟨M, rfl⟩ : ∃ M : Nat, m = (M : Int) := ⟨m.toNat, by omega⟩
    unfold reps
    rw [Int.toNat_natCast] at hsz ⊢
    by_cases q : t = -1
    · subst q
      rw [if_pos rfl] at hsz ⊢
      exact lay_repeat h hp fun w h1 h2 => by
        obtain ⟨A', c', raws', e, k2⟩ := parts_under h2
        cases e
        exact rep_ever ih hw h1 k2 (by omega) (E := L.length + S) (by omega) (by omega)
    · rw [if_neg q] at hsz ⊢
      obtain ⟨T, rfl⟩ : ∃ T : Nat, t = (T : Int) := ⟨t.toNat, by omega⟩
      obtain ⟨D, hD⟩ : ∃ D, M + D = T := ⟨T - M, by omega⟩
      have hTM : ((T : Int) - (M : Int)).toNat = D := by omega
      rw [hTM] at hsz ⊢
      exact lay_repeat h hp fun w h1 h2 => by
        obtain ⟨A', c', raws', e, k2⟩ := parts_under h2
        cases e
        exact rep_upto ih hw h1 k2 (by omega) ⟨hD, by omega⟩ (E := L.length + S) (by omega) (by omega) (fun hu => hkid (by omega))
end Go.Proofs.YtehdnbidgphecaaGreatDoor.W15
/-
  Layer 15 (prog), walks of newLayer and Compile: the methods by their kinds; a piece's program. The conditions stand in the statements.
-/
namespace Go.Proofs.YtehdnbidgphecaaGreatDoor.W15
set_option maxRecDepth 100000
open Go Go.RowKit Go.Proofs.YtehdnbidgphecaaGreatDoor.Strs Go.Proofs.YtehdnbidgphecaaGreatDoor.Recs Go.Proofs.YtehdnbidgphecaaGreatDoor.M15
open Go.Proofs.YtehdnbidgphecaaGreatDoor.M14 (Piece size sizes)
open Go.Proofs.YtehdnbidgphecaaGreatDoor.W14 (Raw Raws rawA rawC PAt PAll PBox PLow below_new box_arg load_piece own_same)
open Go.Proofs.YtehdnbidgphecaaGreatDoor.Kit (below_draws on)

theorem store_nil_func {P : Program} {w : World} {a : Addr} {m : Mode} : (store a .nilFunc m).run P w = stored P w a .nilFunc m := run_store P w a _ m rfl
theorem store_func {P : Program} {w : World} {a : Addr} {m : Mode} {f : Fn} {x y : Array Value} : (store a (.func f x y) m).run P w = stored P w a (.func f x y) m := run_store P w a _ m rfl
attribute [local go_sem] store_nil_func store_func
set_option maxHeartbeats 4000000 in
theorem new_any (w : World) : Calls Tryz.prog 46 #[] w fun e w' => e = .returned (.pointer (some ⟨w.heap.size, 0, none⟩)) ∧ Lay w' w.heap.size (.slice none 0 0) [] ∧ Below w.heap.size w w' := by
  go_enter Tryz.func46, Tryz.ntmps46
  go_wp2_with fail
  go_ret
  exact ⟨rfl, ⟨heap_alloc_new w _, World.ownsRow_nil _ _ _ _⟩, below_new w _⟩
theorem Grow.below_at {w w' : World} {b B : Nat} {v v' : Value} {L : List Inst} (h : Grow b v v' w w') (hl : Lay w b v L) (hB : B ≤ b) : Below B w w' :=
  ⟨h.os, h.tape, h.output, h.size, fun k hk => h.keeps hl (by omega)⟩
/-- a program comes out, in a row of the call's own -/
def Gives (w : World) (P : List Inst) (e : Ending) (w' : World) : Prop := ∃ v, e = .returned (.tuple #[v, .int .i64 0]) ∧ w'.ownsRow w.heap.size 62 4 v P.length (P.flatMap insC) ∧ Below w.heap.size w w'
/-- no program comes out -/
def Fails (w : World) (er : Int) (e : Ending) (w' : World) : Prop := e = .returned (.tuple #[.slice none 0 0, .int .i64 er]) ∧ Below w.heap.size w w'
set_option maxHeartbeats 4000000 in
theorem compile_ok {r : Raw} {p : Piece} {w : World} (hR : ∀ w1, Below w.heap.size w w1 → Calls Tryz.prog 45 #[.agg (rawA r)] w1 fun e w' => e = .returned (.bool true) ∧ Below w1.heap.size w1 w') (hg : M15.Good p) (hs : size p ≤ 4000) (hp : PLow w r p) : Calls Tryz.prog 31 #[.agg (rawA r)] w (Gives w (prog p)) := by
  have HR := Lib.hid hR
  have HP := Lib.hid hp
  have HC := Lib.hid (layOk hg)
  have HS := Lib.hid hs
  have HLN := Lib.hid (steps_len hg hs 0)
  clear hR hg hs hp
  go_enter Tryz.func31, Tryz.ntmps31
  go_wp2_with (first
    | (refine box_arg (r := r) rfl (.tmp 0) rfl rfl ?_; intro w1 b1 e1 p1 l1 z1; have P1 := Lib.hid p1; have L1 := Lib.hid l1; clear e1 p1 l1 z1)
    | (refine load_piece (r := r) rfl (.tmp 1) rfl rfl P1.out ?_))
  refine (HR.out _ L1.out).mono ?_
  rintro e w2 ⟨rfl, l2⟩
  have L2 := Lib.hid (on L1.out l2)
  have P2 := Lib.hid (P1.out.below l2)
  clear l2
  go_wp2_with fail
  refine (new_any w2).mono ?_
  rintro e w3 ⟨rfl, h3, l3⟩
  have L3 := Lib.hid (on L2.out l3)
  have P3 := Lib.hid (P2.out.below l3)
  have H3 := Lib.hid h3
  have Q3 : Hid (PAt (fun k => k < w2.heap.size) w3 r p) := HP.out.keep (fun k q => Nat.lt_of_lt_of_le q L2.out.size) fun a q => W14.cell_block (L3.out.block _ q)
  have HB := Lib.hid L2.out.size
  clear h3 l3
  obtain ⟨b, hb⟩ : ∃ b, w2.heap.size = b := ⟨_, rfl⟩
  rw [hb] at H3 Q3 HB ⊢
  clear hb
  go_wp2_with (first
    | (refine load_piece (r := r) rfl (.tmp 1) rfl rfl P3.out ?_))
  refine (HC.out w3 b _ [] r H3.out Q3.out (by simp only [List.length_nil]; have := HS.out; omega)).mono ?_
  rintro e w4 ⟨rfl, v4, h4, g4⟩
  rw [List.nil_append] at h4
  have H4 := Lib.hid h4
  have L4 := Lib.hid (L3.out.trans (g4.below_at H3.out HB.out))
  have c0 := h4.box.c0
  clear h4 g4
  go_wp2_with (first
    | (refine slice_ins (r := ⟨7, ⟨#[]⟩, 0, 0⟩) rfl (.tmp 16) rfl rfl ?_; intro w5 b5 e5 p5 l5 z5 o5; have P5 := Lib.hid p5; have L5 := Lib.hid l5; clear e5 p5 l5 z5 o5)
    | (refine append_ins rfl (.tmp 15) (.tmp 17) rfl rfl rfl (H4.out.below L5.out).own P5.out (by simp only [List.length_cons, List.length_nil]; rw [HLN.out]; have := HS.out; omega) (Nat.le_trans H4.out.box.lt L5.out.size) ?_; intro v' w6 o6 p6; have O6 := Lib.hid o6; have P6 := Lib.hid p6; clear o6 p6))
  go_ret2
  have hg := P6.out.grown
  refine ⟨v', rfl, O6.out.mono (Nat.le_succ_of_le HB.out), (on L4.out L5.out).trans ⟨hg.os, hg.tape, hg.output, hg.size, fun k hk => hg.block k (Nat.lt_of_lt_of_le hk (on L4.out L5.out).size) fun q => ?_⟩⟩
  have := (H4.out.own_gt k q.symm).1
  have := HB.out
  omega
end Go.Proofs.YtehdnbidgphecaaGreatDoor.W15
/-
  Layer 14 (pattern), walks of the program's sizes, isRepeat and repeated. The conditions stand in the statements.
-/
namespace Go.Proofs.YtehdnbidgphecaaGreatDoor.W14
set_option maxRecDepth 100000
open Go Go.RowKit Go.Proofs.YtehdnbidgphecaaGreatDoor.Strs Go.Proofs.YtehdnbidgphecaaGreatDoor.Recs Go.Proofs.YtehdnbidgphecaaGreatDoor.M14
open Go.Proofs.YtehdnbidgphecaaGreatDoor.Kit (below_draws on)

/-- the program's Size of a piece -/
def PSize (p : Piece) : Prop := ∀ (w : World) (r : Raw), PLow w r p → Calls Tryz.prog 30 #[.agg (rawA r)] w (SizeTo w p)
theorem wrap_nat2 {a : Int} {n : Nat} (h : a = (n : Int)) (hn : n ≤ 9000000) : wrap64 a = (n : Int) := by subst h; unfold wrap64; omega
theorem mayB_often {m t : Int} (h : Often m t) : mayB m t = true := by
  obtain ⟨⟨h1, h2⟩, h3⟩ := h
  unfold mayB
  rcases h3 with h3 | ⟨h3, h4⟩ <;> simp [*]
def SumTo (w : World) (N0 : Nat) (e : Ending) (w' : World) : Prop := ∃ N : Nat, e = .returned (.int .i64 N) ∧ Hid (min 4001 N = min 4001 N0) ∧ Hid (N ≤ 4000000) ∧ Below w.heap.size w w'
set_option maxHeartbeats 4000000 in
theorem psizes_any {ks : List Piece} (IH : ∀ i (hi : i < ks.length), PSize ks[i]) {w : World} {A : Option Addr} {c : Nat} {raws : List Raw} (k1 : Kids w A c raws ks) : Calls Tryz.prog 43 #[.slice A ks.length c] w (SumTo w (sizes ks)) := by
  have HI := Lib.hid IH
  have hr1 := k1.room.1
  have hr2 := k1.room.2
  have K1 := Lib.hid k1
  have HR := Lib.hid (show ks.length ≤ c ∧ c ≤ 9223372036854775807 from ⟨hr1, hr2⟩)
  clear IH k1
  go_enter Tryz.func43, Tryz.ntmps43
  go_wp2_with fail
  clear hr1 hr2
  go_loopg [3, 8] ks.length (fun gk s3 s8 wr => ∃ i n : Nat, s3 = .int .i64 n ∧ s8 = .int .i64 i ∧ Hid (n = sizes (ks.take i)) ∧ Hid (n ≤ 4000) ∧ Hid (i + gk = ks.length) ∧ Hid (Kids wr A c raws ks) ∧ Hid (Below w.heap.size w wr))
  case atStart => exact ⟨0, 0, rfl, rfl, rfl, Nat.zero_le _, by unfold Hid; omega, K1, Below.refl _ _⟩
  case round =>
    obtain ⟨i, n, rfl, rfl, hn, hnl, hig, K1, HB⟩ := hrel
    have hn1 := HR.out.1
    have hn2 := HR.out.2
    by_cases hi : i < ks.length
    · have ti : (i : Int) < (ks.length : Int) := by omega
      obtain ⟨g1, o1, rfl, C1⟩ := K1.out.at_ (Nat.lt_of_le_of_lt (Nat.zero_le _) hi)
      obtain ⟨hr1, q1⟩ := K1.out.kid hi
      have E1 := Lib.hid (C1 i hr1)
      have Q1 := Lib.hid q1
      have HS := Lib.hid (size_le (ks[i]'hi))
      have HT := Lib.hid (sizes_take hi)
      have HI2 := Lib.hid hi
      obtain ⟨rk, hrk⟩ : ∃ rk, raws[i]'hr1 = rk := ⟨_, rfl⟩
      rw [hrk] at E1 Q1
      have HC := Lib.hid (fun (w : World) (h : PLow w rk (ks[i]'hi)) => HI.out i hi w rk h)
      obtain ⟨m, hm⟩ : ∃ m, size (ks[i]'hi) = m := ⟨_, rfl⟩
      have HM := Lib.hid hm
      rw [hm] at HS HT
      clear C1 q1 hm hrk
      go_wp2_with (first
        | (refine load_at rfl (.tmp 10) rfl rfl (r := rk) E1.out ?_)
        | (refine alloc_piece rfl rfl ?_; intro w3 b3 e3 p3 l3 z3)
        | (refine store_piece (r := rk) rfl (.tmp 5) (.tmp 11) rfl rfl rfl p3 ?_; intro w4 p4 l4 z4; have L4 := Lib.hid (two_new l3 l4 e3); have P4 := Lib.hid p4; clear e3 p3 l3 z3 p4 l4 z4)
        | (refine load_piece (r := rk) rfl (.tmp 5) rfl rfl P4.out ?_))
      refine (HC.out _ (Q1.out.below L4.out)).mono ?_
      rintro e w5 ⟨rfl, l5⟩
      rw [HM.out]
      have K5 := Lib.hid ((K1.out.below L4.out).below l5)
      have B5 := Lib.hid (HB.out.trans ((L4.out.trans (l5.mono L4.out.size)).mono HB.out.size))
      obtain ⟨s, hs⟩ : ∃ s, n + m = s := ⟨_, rfl⟩
      have hw : Hid (wrap64 ((n : Int) + (m : Int)) = (s : Int)) := wrap_nat (by rw [← hs, Int.natCast_add]) (by have := HS.out; have := hnl.out; omega)
      have HSS : Hid (s = sizes (ks.take (i + 1)) ∧ s ≤ 8001) := ⟨by rw [HT.out, ← hn.out]; exact hs.symm, by have := HS.out; have := hnl.out; omega⟩
      have hwi : Hid (wrap64 ((i : Int) + 1) = ((i + 1 : Nat) : Int)) := by unfold Hid wrap64; omega
      have HW := hw
      clear l5 hs hn hnl HS HT HM
      by_cases hbig : 4001 ≤ s
      · have tb : (4001 : Int) ≤ (s : Int) := by omega
        have HEQ : Hid (min 4001 s = min 4001 (sizes ks)) := by
          have h1 := sizes_take_le ks (i + 1)
          rw [← HSS.out.1] at h1
          unfold Hid; omega
        have HSB : Hid (s ≤ 4000000) := Nat.le_trans HSS.out.2 (by decide)
        replace hw := hw.out
        clear hbig
        go_wp2_with fail
        go_ret
        exact ⟨s, by first | rfl | exact congrArg (fun x => Ending.returned (Value.int .i64 x)) HW.out, HEQ, HSB, B5.out⟩
      · have tb : ¬ (4001 : Int) ≤ (s : Int) := by omega
        have HSB : Hid (s ≤ 4000) := by unfold Hid; omega
        cases gk with
        | zero => exact absurd hig.out (by have := HI2.out; omega)
        | succ g =>
          replace hw := hw.out
          replace hwi := hwi.out
          have HWI := Lib.hid hwi
          clear hbig
          go_wp2_with fail
          go_roundg g
          case measure => omega
          case rel => exact ⟨i + 1, s, by first | rfl | exact congrArg (Value.int .i64) HW.out, by first | rfl | exact congrArg (Value.int .i64) HWI.out, HSS.out.1, HSB, by have := hig.out; unfold Hid; omega, K5, B5⟩
    · have ti : ¬ (i : Int) < (ks.length : Int) := by omega
      have hie : i = ks.length := by have := hig.out; omega
      have HE : Hid (n = sizes ks) := by have := hn.out; rw [hie, List.take_length] at this; exact this
      have HSB : Hid (n ≤ 4000000) := Nat.le_trans hnl.out (by decide)
      clear hie
      go_wp2_with fail
      go_ret
      exact ⟨n, rfl, by rw [HE.out]; rfl, HSB, HB.out⟩
set_option maxHeartbeats 1000000 in
theorem isRepeat_any {m t : Int} (h : Often m t) {A : Option Addr} {c : Nat} (hc : 1 ≤ c ∧ c ≤ 9223372036854775807) (w : World) : Calls Tryz.prog 59 #[.agg (rawA ⟨9, ⟨#[]⟩, A, 1, c, m, t⟩)] w fun e w' => e = .returned (.bool true) ∧ Below w.heap.size w w' := by
  have hc1 := hc.1
  have hc2 := hc.2
  have HM : Hid (∀ w, Calls Tryz.prog 78 #[.int .i64 m, .int .i64 t] w fun e w' => e = .returned (.bool true) ∧ w' = w) := fun w => by
    have := mayBe_any m t w
    rw [mayB_often h] at this
    exact this
  clear hc h
  go_enter Tryz.func59, Tryz.ntmps59
  go_wp2_with (first
    | (refine box_arg (r := ⟨9, ⟨#[]⟩, A, 1, c, m, t⟩) rfl (.tmp 0) rfl rfl ?_; intro w1 b1 e1 p1 l1 z1; have a1 := p1.c1; have a2 := p1.c2; have a3 := p1.c3; have a4 := p1.c4; have L1 := Lib.hid l1; clear e1 p1 l1 z1; simp only at a1 a2 a3 a4))
  refine (HM.out _).mono ?_
  rintro e w2 ⟨rfl, rfl⟩
  go_wp2_with fail
  go_ret
  exact ⟨rfl, L1.out⟩
set_option maxHeartbeats 4000000 in
theorem repeated_ever {p : Piece} {M : Nat} (hM : M ≤ 100) (IH : PSize p) {w : World} {r : Raw} (h : PLow w r (.mk 9 ⟨#[]⟩ [p] M (-1))) : Calls Tryz.prog 44 #[.agg (rawA r)] w (SumTo w (size (.mk 9 ⟨#[]⟩ [p] M (-1)))) := by
  rw [size_rep]
  obtain ⟨A, c, raws, rfl, k1⟩ := h.parts
  have hr : 1 ≤ c ∧ c ≤ 9223372036854775807 := k1.room
  obtain ⟨g1, o1, rfl, C1⟩ := k1.at_ (Nat.lt_succ_self 0)
  obtain ⟨hr1, q1⟩ := k1.kid (i := 0) (Nat.lt_succ_self 0)
  have HG := Lib.hid (k1.2.1 _ rfl (Nat.lt_of_le_of_lt (Nat.zero_le _) hr1))
  have E1 := C1 0 hr1
  obtain ⟨rk, hrk⟩ : ∃ rk, raws[0] = rk := ⟨_, rfl⟩
  rw [hrk] at E1 q1
  have Q1 : Hid (PLow w rk p) := q1
  rw [show o1 + 0 * 5 = o1 by omega] at E1
  have E1 := Lib.hid E1
  have HI := Lib.hid (fun (w : World) (h : PLow w rk p) => IH w rk h)
  have HO := Lib.hid (fun w => isRepeat_any (m := (M : Int)) (t := (-1)) ⟨by omega, by omega⟩ (A := some ⟨g1, o1, none⟩) hr w)
  have hS := size_le p
  obtain ⟨K, hK⟩ : ∃ K, size p = K := ⟨_, rfl⟩
  have HK := Lib.hid hK
  rw [hK] at hS ⊢
  have hMS := mul_small (a := M) (b := K) (by omega) (by omega)
  obtain ⟨P, hP⟩ : ∃ P, M * K = P := ⟨_, rfl⟩
  rw [hP] at hMS
  have hw1 : Hid (wrap64 ((M : Int) * (K : Int)) = (P : Int)) := wrap_nat (by rw [← Int.natCast_mul, hP]) (Nat.le_trans hMS (by decide))
  replace hP := Lib.hid hP
  obtain ⟨P2, hP2⟩ : ∃ P2, P + K = P2 := ⟨_, rfl⟩
  have hw2 : Hid (wrap64 ((P : Int) + (K : Int)) = (P2 : Int)) := wrap_nat (by rw [← hP2, Int.natCast_add]) (by omega)
  obtain ⟨N, hN⟩ : ∃ N, P2 + 2 = N := ⟨_, rfl⟩
  have hw3 : Hid (wrap64 ((P2 : Int) + 2) = (N : Int)) := wrap_nat (by rw [← hN, Int.natCast_add]; rfl) (by omega)
  have HNB : Hid (N ≤ 4000000) := by unfold Hid; omega
  have HE : Hid (min 4001 (if (-1 : Int) = -1 then M * K + K + 2 else M * K + (-1 - (M : Int)).toNat * (K + 1)) = min 4001 N) := by
    unfold Hid
    rw [if_pos rfl, hP.out, hP2, hN]
  rw [HE.out]
  have HWL := hw3
  have HFIN : Hid (min 4001 N = min 4001 (min 4001 N)) := by unfold Hid; omega
  have hc1 := hr.1
  have hc2 := hr.2
  clear h k1 C1 q1 hrk hr1 IH hK hS hMS hr HE hM hN hP2
  go_enter Tryz.func44, Tryz.ntmps44
  go_wp2_with (first
    | (refine box_arg (r := ⟨9, ⟨#[]⟩, some ⟨g1, o1, none⟩, 1, c, (M : Int), (-1)⟩) rfl (.tmp 0) rfl rfl ?_; intro w1 b1 e1 p1 l1 z1; have P1 := Lib.hid p1; have L1 := Lib.hid l1; clear e1 p1 l1 z1)
    | (refine load_piece (r := ⟨9, ⟨#[]⟩, some ⟨g1, o1, none⟩, 1, c, (M : Int), (-1)⟩) rfl (.tmp 1) rfl rfl P1.out ?_))
  refine (HO.out _).mono ?_
  rintro e w2 ⟨rfl, l2⟩
  have PB2 := Lib.hid (P1.out.below l2)
  have L2 := Lib.hid (L1.out.trans (l2.mono L1.out.size))
  have E2 : Hid (∀ j, j < 5 → w2.cell? ⟨g1, o1 + j, none⟩ = (rawC rk)[j]?) := fun j hj => (cell_block (L2.out.block g1 HG.out)).trans (E1.out j hj)
  have Q2 := Lib.hid (Q1.out.below L2.out)
  have a2 := PB2.out.c2
  simp only at a2
  clear l2
  go_wp2_with (first | (refine load_at rfl (.tmp 10) rfl rfl (r := rk) E2.out ?_))
  refine (HI.out _ Q2.out).mono ?_
  rintro e w3 ⟨rfl, l3⟩
  rw [HK.out]
  have PB3 := Lib.hid (PB2.out.below l3)
  have L3 := Lib.hid (L2.out.trans (l3.mono L2.out.size))
  have a3 := PB3.out.c3
  have a4 := PB3.out.c4
  simp only at a3 a4
  replace hw1 := hw1.out
  replace hw2 := hw2.out
  replace hw3 := hw3.out
  clear l3
  go_wp2_with fail
  go_ret
  exact ⟨N, by first | rfl | exact congrArg (fun x => Ending.returned (Value.int .i64 x)) HWL.out, HFIN.out, HNB.out, L3.out⟩
set_option maxHeartbeats 4000000 in
theorem repeated_upto {p : Piece} {M T : Nat} (hM : M ≤ 100) (hT : M ≤ T ∧ T ≤ 100) (IH : PSize p) {w : World} {r : Raw} (h : PLow w r (.mk 9 ⟨#[]⟩ [p] M (T : Int))) : Calls Tryz.prog 44 #[.agg (rawA r)] w (SumTo w (size (.mk 9 ⟨#[]⟩ [p] M (T : Int)))) := by
  rw [size_rep]
  obtain ⟨A, c, raws, rfl, k1⟩ := h.parts
  have hr : 1 ≤ c ∧ c ≤ 9223372036854775807 := k1.room
  obtain ⟨g1, o1, rfl, C1⟩ := k1.at_ (Nat.lt_succ_self 0)
  obtain ⟨hr1, q1⟩ := k1.kid (i := 0) (Nat.lt_succ_self 0)
  have HG := Lib.hid (k1.2.1 _ rfl (Nat.lt_of_le_of_lt (Nat.zero_le _) hr1))
  have E1 := C1 0 hr1
  obtain ⟨rk, hrk⟩ : ∃ rk, raws[0] = rk := ⟨_, rfl⟩
  rw [hrk] at E1 q1
  have Q1 : Hid (PLow w rk p) := q1
  rw [show o1 + 0 * 5 = o1 by omega] at E1
  have E1 := Lib.hid E1
  have HI := Lib.hid (fun (w : World) (h : PLow w rk p) => IH w rk h)
  have HO := Lib.hid (fun w => isRepeat_any (m := (M : Int)) (t := (T : Int)) ⟨by omega, by omega⟩ (A := some ⟨g1, o1, none⟩) hr w)
  have hS := size_le p
  obtain ⟨K, hK⟩ : ∃ K, size p = K := ⟨_, rfl⟩
  have HK := Lib.hid hK
  rw [hK] at hS ⊢
  have hMS := mul_small (a := M) (b := K) (by omega) (by omega)
  obtain ⟨P, hP⟩ : ∃ P, M * K = P := ⟨_, rfl⟩
  rw [hP] at hMS
  have hw1 : Hid (wrap64 ((M : Int) * (K : Int)) = (P : Int)) := wrap_nat (by rw [← Int.natCast_mul, hP]) (Nat.le_trans hMS (by decide))
  replace hP := Lib.hid hP
  obtain ⟨D, hD⟩ : ∃ D, T - M = D := ⟨_, rfl⟩
  have hw2 : Hid (wrap64 ((T : Int) - (M : Int)) = (D : Int)) := wrap_nat (by omega) (by omega)
  obtain ⟨K2, hK2⟩ : ∃ K2, K + 1 = K2 := ⟨_, rfl⟩
  have hw3 : Hid (wrap64 ((K : Int) + 1) = (K2 : Int)) := wrap_nat (by omega) (by omega)
  have hDS := mul_small (a := D) (b := K2) (by omega) (by omega)
  obtain ⟨G, hG⟩ : ∃ G, D * K2 = G := ⟨_, rfl⟩
  rw [hG] at hDS
  have hw4 : Hid (wrap64 ((D : Int) * (K2 : Int)) = (G : Int)) := wrap_nat (by rw [← Int.natCast_mul, hG]) (Nat.le_trans hDS (by decide))
  replace hG := Lib.hid hG
  obtain ⟨N, hN⟩ : ∃ N, P + G = N := ⟨_, rfl⟩
  have hw5 : Hid (wrap64 ((P : Int) + (G : Int)) = (N : Int)) := wrap_nat (by rw [← hN, Int.natCast_add]) (by omega)
  have HNB : Hid (N ≤ 4000000) := by unfold Hid; omega
  have HE : Hid (min 4001 (if (T : Int) = -1 then M * K + K + 2 else M * K + ((T : Int) - (M : Int)).toNat * (K + 1)) = min 4001 N) := by
    unfold Hid
    rw [if_neg (by omega), show ((T : Int) - (M : Int)).toNat = D by omega, hP.out, hK2, hG.out, hN]
  have x0 : Hid (((T : Int) == -1) = false) := by unfold Hid; simp
  rw [HE.out]
  have HWL := hw5
  have HFIN : Hid (min 4001 N = min 4001 (min 4001 N)) := by unfold Hid; omega
  have hc1 := hr.1
  have hc2 := hr.2
  clear h k1 C1 q1 hrk hr1 IH hK hS hMS hr HE hM hN hT hD hK2 hDS
  go_enter Tryz.func44, Tryz.ntmps44
  go_wp2_with (first
    | (refine box_arg (r := ⟨9, ⟨#[]⟩, some ⟨g1, o1, none⟩, 1, c, (M : Int), (T : Int)⟩) rfl (.tmp 0) rfl rfl ?_; intro w1 b1 e1 p1 l1 z1; have P1 := Lib.hid p1; have L1 := Lib.hid l1; clear e1 p1 l1 z1)
    | (refine load_piece (r := ⟨9, ⟨#[]⟩, some ⟨g1, o1, none⟩, 1, c, (M : Int), (T : Int)⟩) rfl (.tmp 1) rfl rfl P1.out ?_))
  refine (HO.out _).mono ?_
  rintro e w2 ⟨rfl, l2⟩
  have PB2 := Lib.hid (P1.out.below l2)
  have L2 := Lib.hid (L1.out.trans (l2.mono L1.out.size))
  have E2 : Hid (∀ j, j < 5 → w2.cell? ⟨g1, o1 + j, none⟩ = (rawC rk)[j]?) := fun j hj => (cell_block (L2.out.block g1 HG.out)).trans (E1.out j hj)
  have Q2 := Lib.hid (Q1.out.below L2.out)
  have a2 := PB2.out.c2
  simp only at a2
  clear l2
  go_wp2_with (first | (refine load_at rfl (.tmp 10) rfl rfl (r := rk) E2.out ?_))
  refine (HI.out _ Q2.out).mono ?_
  rintro e w3 ⟨rfl, l3⟩
  rw [HK.out]
  have PB3 := Lib.hid (PB2.out.below l3)
  have L3 := Lib.hid (L2.out.trans (l3.mono L2.out.size))
  have a3 := PB3.out.c3
  have a4 := PB3.out.c4
  simp only at a3 a4
  replace hw1 := hw1.out
  replace hw2 := hw2.out
  replace hw3 := hw3.out
  replace hw4 := hw4.out
  replace hw5 := hw5.out
  replace x0 := x0.out
  clear l3
  go_wp2_with fail
  go_ret
  exact ⟨N, by first | rfl | exact congrArg (fun x => Ending.returned (Value.int .i64 x)) HWL.out, HFIN.out, HNB.out, L3.out⟩
end Go.Proofs.YtehdnbidgphecaaGreatDoor.W14
/-
  Layer 14 (pattern), walk of the program's Size: of a piece that may be it is the mathematics' size. The conditions stand in the statements.
-/
namespace Go.Proofs.YtehdnbidgphecaaGreatDoor.W14
set_option maxRecDepth 100000
open Go Go.RowKit Go.Proofs.YtehdnbidgphecaaGreatDoor.Strs Go.Proofs.YtehdnbidgphecaaGreatDoor.Recs Go.Proofs.YtehdnbidgphecaaGreatDoor.M14
open Go.Proofs.YtehdnbidgphecaaGreatDoor.Kit (below_draws on)

set_option maxHeartbeats 4000000 in
theorem psize_leaf {k : Int} (hk : k = 1 ∨ k = 2 ∨ k = 3 ∨ k = 4 ∨ k = 5 ∨ k = 6) (t : ByteArray) : PSize (M14.leaf k t) := by
  intro w r h
  unfold SizeTo
  rw [size_leaf hk]
  unfold M14.leaf at h
  obtain ⟨A, c, raws, rfl, k1⟩ := h.parts
  have r1 := k1.room.2
  simp only [List.length_nil]
  clear h k1
  rcases hk with rfl | rfl | rfl | rfl | rfl | rfl
  all_goals
    go_enter Tryz.func30, Tryz.ntmps30
    go_wp2_with (first
      | (refine box_arg rfl (.tmp 0) rfl rfl ?_; intro w1 b1 e1 p1 l1 z1; have a0 := p1.c0; have L1 := Lib.hid l1; clear e1 p1 l1 z1; simp only at a0))
    go_ret
    exact ⟨by first | rfl | simp, L1.out⟩
theorem min_sum {N M0 : Nat} (h : min 4001 N = min 4001 M0) : min (N : Int) 4001 = ((min 4001 M0 : Nat) : Int) := by omega
set_option maxHeartbeats 4000000 in
theorem psize_seq {ks : List Piece} (IH : ∀ i (hi : i < ks.length), PSize ks[i]) : PSize (.mk 7 ⟨#[]⟩ ks 0 0) := by
  intro w r h
  unfold SizeTo
  have hs : size (.mk 7 ⟨#[]⟩ ks 0 0) = min 4001 (sizes ks) := by
    unfold size
    rw [if_neg (by decide), if_neg (by decide), if_pos rfl]
  rw [hs]
  obtain ⟨A, c, raws, rfl, k1⟩ := h.parts
  have HI := Lib.hid IH
  have K1 := Lib.hid k1
  have hr1 := k1.room.1
  have hr2 := k1.room.2
  clear h k1 IH hs
  go_enter Tryz.func30, Tryz.ntmps30
  go_wp2_with (first
    | (refine box_arg (r := ⟨7, ⟨#[]⟩, A, ks.length, c, 0, 0⟩) rfl (.tmp 0) rfl rfl ?_; intro w1 b1 e1 p1 l1 z1; have a0 := p1.c0; have a2 := p1.c2; have L1 := Lib.hid l1; clear e1 p1 l1 z1; simp only at a0 a2))
  refine (psizes_any HI.out (K1.out.below L1.out)).mono ?_
  rintro e w2 ⟨N, rfl, hN1, hN2, l2⟩
  have L2 := Lib.hid (L1.out.trans (l2.mono L1.out.size))
  have hmin := min_sum hN1.out
  have HMIN := Lib.hid hmin
  clear l2 hN1 hN2
  go_wp2_with fail
  go_ret
  exact ⟨by first | rfl | exact congrArg (fun x => Ending.returned (Value.int .i64 x)) HMIN.out, L2.out⟩
set_option maxHeartbeats 4000000 in
theorem psize_alt {ks : List Piece} (h3 : ks.length ≤ 1000 ∧ 2 ≤ ks.length) (IH : ∀ i (hi : i < ks.length), PSize ks[i]) : PSize (.mk 8 ⟨#[]⟩ ks 0 0) := by
  intro w r h
  unfold SizeTo
  have hs : size (.mk 8 ⟨#[]⟩ ks 0 0) = min 4001 (sizes ks + 2 * (ks.length - 1)) := by
    unfold size
    rw [if_neg (by decide), if_neg (by decide), if_neg (by decide), if_pos rfl]
  rw [hs]
  obtain ⟨A, c, raws, rfl, k1⟩ := h.parts
  have HI := Lib.hid IH
  have K1 := Lib.hid k1
  have hr1 := k1.room.1
  have hr2 := k1.room.2
  obtain ⟨n, hn⟩ : ∃ n, ks.length = n + 1 := ⟨ks.length - 1, by omega⟩
  have hwn : wrap64 ((ks.length : Int) - 1) = (n : Int) := wrap_nat (by omega) (by omega)
  have hmx : max (n : Int) 0 = (n : Int) := by omega
  have hw2 : Hid (wrap64 (2 * (n : Int)) = ((2 * n : Nat) : Int)) := wrap_nat (by rw [Int.natCast_mul]; rfl) (by omega)
  obtain ⟨m, hm⟩ : ∃ m, 2 * n = m := ⟨_, rfl⟩
  rw [hm] at hw2
  have HX : Hid (wrap64 (2 * max ((ks.length : Int) - 1) 0) = (m : Int)) := by
    unfold Hid
    rw [show max ((ks.length : Int) - 1) 0 = (n : Int) by omega]; exact hw2.out
  have HWN : Hid (∀ N : Nat, min 4001 N = min 4001 (sizes ks) → N ≤ 4000000 → ∃ s : Nat, Hid (wrap64 ((N : Int) + (m : Int)) = (s : Int)) ∧ Hid (min (s : Int) 4001 = ((min 4001 (sizes ks + 2 * (ks.length - 1)) : Nat) : Int))) := by
    intro N h1 h2
    refine ⟨N + m, wrap_nat2 (by rw [Int.natCast_add]) (by omega), ?_⟩
    unfold Hid
    omega
  clear h k1 IH hs h3 hn hm
  replace hwn := Lib.hid hwn
  go_enter Tryz.func30, Tryz.ntmps30
  go_wp2_with (first
    | (refine box_arg (r := ⟨8, ⟨#[]⟩, A, ks.length, c, 0, 0⟩) rfl (.tmp 0) rfl rfl ?_; intro w1 b1 e1 p1 l1 z1; have P1 := Lib.hid p1; have a0 := p1.c0; have a2 := p1.c2; have L1 := Lib.hid l1; clear e1 p1 l1 z1; simp only at a0 a2))
  have S0 : Hid ((w1.drewN 1).cell? ⟨b1, 2, none⟩ = some (.slice A ks.length c) ∧ Below w1.heap.size w1 (w1.drewN 1)) := ⟨a2, below_draws w1 1⟩
  have KEEP : Hid (∀ x, Below w1.heap.size w1 x → x.cell? ⟨b1, 2, none⟩ = some (.slice A ks.length c) ∧ Below w1.heap.size w1 x) := fun x hx => ⟨(P1.out.below hx).c2, hx⟩
  have K1 := Lib.hid (K1.out.below L1.out)
  refine wp_region_held_drew (S := fun w' => w'.cell? ⟨b1, 2, none⟩ = some (.slice A ks.length c) ∧ Below w1.heap.size w1 w') (by kernel_rfl) S0.out (fun hHeld => ?_)
  refine wpAnyH_take (i := 0) (oi := { dst := some 21, op := Op.fieldAddr 25 (Operand.tmp 1) 2, type := 0, pos := "pattern.go:256", after := #[], guard := none }) (v := ?vz0) rfl (by kernel_rfl) (by kernel_rfl) (by kernel_rfl) (fun _ _ _ h => h) (Or.inl ⟨by rfl, ?hz0⟩) (by assumption) ?rz0
  case hz0 => (intro w hSw; (try dsimp only at hSw); go_simp; try with_reducible rfl)
  try simp only [Act.put, List.setIfInBounds_toArray, List.set_cons_zero, List.set_cons_succ]
  refine wpAnyH_take (i := 1) (oi := { dst := some 22, op := Op.load 23 (Operand.tmp 21), type := 23, pos := "pattern.go:256", after := #[{ on := 0, ground := Ground.data }], guard := none }) (v := ?vz1) rfl (by kernel_rfl) (by kernel_rfl) (by kernel_rfl) (fun _ _ _ h => h) (Or.inl ⟨by rfl, ?hz1⟩) (by assumption) ?rz1
  case hz1 => (intro w hSw; (try dsimp only at hSw); go_simp; try with_reducible rfl)
  try simp only [Act.put, List.setIfInBounds_toArray, List.set_cons_zero, List.set_cons_succ]
  refine wpAnyH_take (i := 3) (oi := { dst := some 24, op := Op.fieldAddr 25 (Operand.tmp 1) 2, type := 0, pos := "pattern.go:256", after := #[], guard := none }) (v := ?vz3) rfl (by kernel_rfl) (by kernel_rfl) (by kernel_rfl) (fun _ _ _ h => h) (Or.inl ⟨by rfl, ?hz3⟩) (by assumption) ?rz3
  case hz3 => (intro w hSw; (try dsimp only at hSw); go_simp; try with_reducible rfl)
  try simp only [Act.put, List.setIfInBounds_toArray, List.set_cons_zero, List.set_cons_succ]
  refine wpAnyH_take (i := 4) (oi := { dst := some 25, op := Op.load 23 (Operand.tmp 24), type := 23, pos := "pattern.go:256", after := #[{ on := 3, ground := Ground.data }], guard := none }) (v := ?vz4) rfl (by kernel_rfl) (by kernel_rfl) (by kernel_rfl) (fun _ _ _ h => h) (Or.inl ⟨by rfl, ?hz4⟩) (by assumption) ?rz4
  case hz4 => (intro w hSw; (try dsimp only at hSw); go_simp; try with_reducible rfl)
  try simp only [Act.put, List.setIfInBounds_toArray, List.set_cons_zero, List.set_cons_succ]
  refine wpAnyH_take (i := 5) (oi := { dst := some 26, op := Op.call { callee := Callee.builtin Builtin.len, args := #[Operand.tmp 25], argTypes := #[23] }, type := 3, pos := "pattern.go:256", after := #[{ on := 4, ground := Ground.data }], guard := none }) (v := ?vz5) rfl (by kernel_rfl) (by kernel_rfl) (by kernel_rfl) (fun _ _ _ h => h) (Or.inl ⟨by rfl, ?hz5⟩) (by assumption) ?rz5
  case hz5 => (intro w hSw; (try dsimp only at hSw); go_simp; try with_reducible rfl)
  try simp only [Act.put, List.setIfInBounds_toArray, List.set_cons_zero, List.set_cons_succ]
  refine wpAnyH_take (i := 6) (oi := { dst := some 27, op := Op.binOp BinOp.sub 3 (Operand.tmp 26) (Operand.const (Value.int IntKind.i64 1)) 3, type := 3, pos := "pattern.go:256", after := #[{ on := 5, ground := Ground.data }], guard := none }) (v := ?vz6) rfl (by kernel_rfl) (by kernel_rfl) (by kernel_rfl) (fun _ _ _ h => h) (Or.inl ⟨by rfl, ?hz6⟩) (by assumption) ?rz6
  case hz6 => (intro w hSw; (try dsimp only at hSw); go_simp; try with_reducible rfl)
  try simp only [Act.put, List.setIfInBounds_toArray, List.set_cons_zero, List.set_cons_succ]
  refine wpAnyH_take (i := 7) (oi := { dst := some 28, op := Op.call { callee := Callee.builtin Builtin.max, args := #[Operand.tmp 27, Operand.const (Value.int IntKind.i64 0)], argTypes := #[3, 3] }, type := 3, pos := "pattern.go:256", after := #[{ on := 6, ground := Ground.data }], guard := none }) (v := ?vz7) rfl (by kernel_rfl) (by kernel_rfl) (by kernel_rfl) (fun _ _ _ h => h) (Or.inl ⟨by rfl, ?hz7⟩) (by assumption) ?rz7
  case hz7 => (intro w hSw; (try dsimp only at hSw); go_simp; try with_reducible rfl)
  try simp only [Act.put, List.setIfInBounds_toArray, List.set_cons_zero, List.set_cons_succ]
  refine wpAnyH_take (i := 8) (oi := { dst := some 29, op := Op.binOp BinOp.mul 3 (Operand.const (Value.int IntKind.i64 2)) (Operand.tmp 28) 3, type := 3, pos := "pattern.go:256", after := #[{ on := 7, ground := Ground.data }], guard := none }) (v := ?vz8) rfl (by kernel_rfl) (by kernel_rfl) (by kernel_rfl) (fun _ _ _ h => h) (Or.inl ⟨by rfl, ?hz8⟩) (by assumption) ?rz8
  case hz8 => (intro w hSw; (try dsimp only at hSw); go_simp; try with_reducible rfl)
  try simp only [Act.put, List.setIfInBounds_toArray, List.set_cons_zero, List.set_cons_succ]
  refine wpAnyH_ready (rs := [2]) (by kernel_rfl) (by simp) ?_
  refine AllReadyH.cons (o := { dst := some 23, op := Op.call { callee := Callee.value (Operand.func 43), args := #[Operand.tmp 22], argTypes := #[23] }, type := 3, pos := "pattern.go:256", after := #[{ on := 1, ground := Ground.data }], guard := none }) rfl (fun K hK => ?_) AllReadyH.nil
  go_simp
  (go_at_call 43; refine (psizes_any HI.out (K1.out.below S0.out.2)).mono ?_; rintro e x1 ⟨N, rfl, hN1, hN2, l5⟩; have hS1 := KEEP.out _ (S0.out.2.trans (l5.mono S0.out.2.size)); have hwN := HWN.out N hN1.out hN2.out; clear l5)
  go_wp2_with fail
  refine hK.out _ _ ?_ (fun hHeld => ?_)
  · exact hS1
  clear hK K
  try simp only [Act.put, List.setIfInBounds_toArray, List.set_cons_zero, List.set_cons_succ]
  refine wpAnyH_take (i := 9) (oi := { dst := some 30, op := Op.binOp BinOp.add 3 (Operand.tmp 23) (Operand.tmp 29) 3, type := 3, pos := "pattern.go:256", after := #[{ on := 2, ground := Ground.data }, { on := 8, ground := Ground.data }], guard := none }) (v := ?vz9) rfl (by kernel_rfl) (by kernel_rfl) (by kernel_rfl) (fun _ _ _ h => h) (Or.inl ⟨by rfl, ?hz9⟩) (by assumption) ?rz9
  case hz9 => (intro w hSw; (try dsimp only at hSw); go_simp; try with_reducible rfl)
  try simp only [Act.put, List.setIfInBounds_toArray, List.set_cons_zero, List.set_cons_succ]
  refine wpAnyH_take (i := 10) (oi := { dst := some 3, op := Op.assign (Operand.tmp 30), type := 3, pos := "pattern.go:256", after := #[{ on := 9, ground := Ground.data }, { on := 2, ground := Ground.chain }, { on := 0, ground := Ground.phase }, { on := 1, ground := Ground.phase }, { on := 2, ground := Ground.phase }, { on := 3, ground := Ground.phase }, { on := 4, ground := Ground.phase }, { on := 5, ground := Ground.phase }, { on := 6, ground := Ground.phase }, { on := 7, ground := Ground.phase }, { on := 8, ground := Ground.phase }, { on := 9, ground := Ground.phase }], guard := none }) (v := ?vz10) rfl (by kernel_rfl) (by kernel_rfl) (by kernel_rfl) (fun _ _ _ h => h) (Or.inl ⟨by rfl, ?hz10⟩) (by assumption) ?rz10
  case hz10 => (intro w hSw; (try dsimp only at hSw); go_simp; try with_reducible rfl)
  try simp only [Act.put, List.setIfInBounds_toArray, List.set_cons_zero, List.set_cons_succ]
  refine wpAnyH_done (by kernel_rfl) ?_ _
  obtain ⟨s, hs1, hs2⟩ := hwN
  have HV : Hid (min (wrap64 ((N : Int) + wrap64 (2 * max ((ks.length : Int) - 1) 0))) 4001 = ((min 4001 (sizes ks + 2 * (ks.length - 1)) : Nat) : Int)) := by
    unfold Hid
    rw [HX.out, hs1.out]; exact hs2.out
  have L9 := Lib.hid (L1.out.trans (hS1.2.mono L1.out.size))
  clear hS1 hmx hN1 hN2 hs1 hs2
  go_wp2_with fail
  go_ret
  exact ⟨by first | rfl | exact congrArg (fun x => Ending.returned (Value.int .i64 x)) HV.out, L9.out⟩
set_option maxHeartbeats 1000000 in
theorem psize_rep {p : Piece} {m t : Int} (hR : ∀ (w : World) (r : Raw), PLow w r (.mk 9 ⟨#[]⟩ [p] m t) → Calls Tryz.prog 44 #[.agg (rawA r)] w (SumTo w (size (.mk 9 ⟨#[]⟩ [p] m t)))) : PSize (.mk 9 ⟨#[]⟩ [p] m t) := by
  intro w r h
  unfold SizeTo
  have hle := size_le (.mk 9 ⟨#[]⟩ [p] m t)
  have HR := Lib.hid (fun w => hR w r)
  have HL := Lib.hid h
  obtain ⟨s, hs⟩ : ∃ s, size (.mk 9 ⟨#[]⟩ [p] m t) = s := ⟨_, rfl⟩
  rw [hs] at HR hle ⊢
  obtain ⟨A, c, raws, rfl, k1⟩ := h.parts
  clear h k1 hs
  go_enter Tryz.func30, Tryz.ntmps30
  go_wp2_with (first
    | (refine box_arg (r := ⟨9, ⟨#[]⟩, A, [p].length, c, m, t⟩) rfl (.tmp 0) rfl rfl ?_; intro w1 b1 e1 p1 l1 z1; have P1 := Lib.hid p1; have a0 := p1.c0; have L1 := Lib.hid l1; clear e1 p1 l1 z1; simp only at a0)
    | (refine load_piece (r := ⟨9, ⟨#[]⟩, A, [p].length, c, m, t⟩) rfl (.tmp 1) rfl rfl P1.out ?_))
  refine (HR.out _ (HL.out.below L1.out)).mono ?_
  rintro e w2 ⟨N, rfl, hN1, hN2, l2⟩
  have L2 := Lib.hid (L1.out.trans (l2.mono L1.out.size))
  have HV : Hid (min (N : Int) 4001 = (s : Int)) := by have := hN1.out; unfold Hid; omega
  clear l2 hN1 hN2 hle
  go_wp2_with fail
  go_ret
  exact ⟨by first | rfl | exact congrArg (fun x => Ending.returned (Value.int .i64 x)) HV.out, L2.out⟩
theorem psize_any {p : Piece} (h : Whole p) : PSize p := by
  induction h with
  | none k hk => exact psize_leaf (by omega) _
  | char c => exact psize_leaf (by omega) _
  | set f => exact psize_leaf (by omega) _
  | many k hk l h2 h3 hw ih =>
    have IH : ∀ i (hi : i < l.length), PSize l[i] := fun i hi => ih l[i] (List.getElem_mem hi)
    rcases hk with rfl | rfl
    · exact psize_seq IH
    · exact psize_alt ⟨h3, h2⟩ IH
  | rep p m t hm ht hw ih =>
    obtain ⟨M, rfl⟩ : ∃ M : Nat, m = (M : Int) := ⟨m.toNat, by omega⟩
    by_cases q : t = -1
    · subst q; exact psize_rep fun w r q => repeated_ever (by omega) ih q
    · obtain ⟨T, rfl⟩ : ∃ T : Nat, t = (T : Int) := ⟨t.toNat, by omega⟩
      exact psize_rep fun w r q => repeated_upto (by omega) (by omega) ih q
end Go.Proofs.YtehdnbidgphecaaGreatDoor.W14
/-
  Layer 14 (pattern), walks of the program's isSet, isAlike, isParsed and Right. The conditions stand in the statements.
-/
namespace Go.Proofs.YtehdnbidgphecaaGreatDoor.W14
set_option maxRecDepth 100000
open Go Go.RowKit Go.Proofs.YtehdnbidgphecaaGreatDoor.Strs Go.Proofs.YtehdnbidgphecaaGreatDoor.Recs Go.Proofs.YtehdnbidgphecaaGreatDoor.M14
open Go.Proofs.YtehdnbidgphecaaGreatDoor.Kit (below_draws on)

theorem pnot_tx (f : Nat → Bool) (w : World) : Calls Tryz.prog 115 #[.string (W13.tx f)] w fun e w' => e = .returned (.string (W13.tx fun i => !f i)) ∧ Below w.heap.size w w' :=
  (W13.not_any _ _).mono fun _ _ h => ⟨h.1.trans (congrArg (fun x => Ending.returned (.string x)) (W13.tx_congr fun i hi => by rw [W13.has_tx f hi])), h.2⟩
set_option maxHeartbeats 1000000 in
theorem isSet_any (f : Nat → Bool) (w : World) : Calls Tryz.prog 98 #[.string (txt f)] w fun e w' => e = .returned (.bool true) ∧ Below w.heap.size w w' := by
  have h1 := pnot_tx f
  have h2 := pnot_tx (fun i => !f i)
  rw [show (W13.tx fun i => !(!f i)) = W13.tx f from W13.tx_congr fun _ _ => Bool.not_not _] at h2
  obtain ⟨d, hd⟩ : ∃ d, W13.tx f = d := ⟨_, rfl⟩
  obtain ⟨g, hg⟩ : ∃ g, (W13.tx fun i => !f i) = g := ⟨_, rfl⟩
  rw [show txt f = W13.tx f from rfl]
  rw [hd, hg] at h1
  rw [hg, hd] at h2
  rw [hd]
  have H1 := Lib.hid h1
  have H2 := Lib.hid h2
  clear h1 h2 hd hg
  have te : (d.toList == d.toList) = true := beq_self_eq_true _
  go_enter Tryz.func98, Tryz.ntmps98
  go_wp2_with fail
  refine (H1.out _).mono ?_
  rintro e w2 ⟨rfl, l2⟩
  have L2 := Lib.hid l2
  clear l2
  go_wp2_with fail
  refine (H2.out _).mono ?_
  rintro e w3 ⟨rfl, l3⟩
  have L3 := Lib.hid (on L2.out l3)
  clear l3
  go_wp2_with fail
  go_ret
  exact ⟨rfl, L3.out⟩
/-- what a predicate of pieces answers -/
def YesTo (w : World) (e : Ending) (w' : World) : Prop := e = .returned (.bool true) ∧ Below w.heap.size w w'
def Alike (p : Piece) : Prop := ∀ (w : World) (r : Raw), PLow w r p → Calls Tryz.prog 79 #[.agg (rawA r)] w (YesTo w)
set_option maxHeartbeats 2000000 in
theorem alike_none {k : Int} (hk : k = 1 ∨ k = 3 ∨ k = 5 ∨ k = 6) : Alike (M14.leaf k ⟨#[]⟩) := by
  intro w r h
  unfold YesTo
  unfold M14.leaf at h
  obtain ⟨A, c, raws, rfl, k1⟩ := h.parts
  have r1 := k1.room.2
  clear h k1
  simp only [List.length_nil]
  rcases hk with rfl | rfl | rfl | rfl
  all_goals
    go_enter Tryz.func79, Tryz.ntmps79
    go_wp2_with (first
      | (refine box_arg rfl (.tmp 0) rfl rfl ?_; intro w1 b1 e1 p1 l1 z1; have a0 := p1.c0; have a1 := p1.c1; have a2 := p1.c2; have a3 := p1.c3; have a4 := p1.c4; have L1 := Lib.hid l1; clear e1 p1 l1 z1; simp only at a0 a1 a2 a3 a4))
    go_ret
    exact ⟨rfl, L1.out⟩
set_option maxHeartbeats 2000000 in
theorem alike_char (u : UInt8) : Alike (M14.leaf 2 (chr u)) := by
  intro w r h
  unfold YesTo
  unfold M14.leaf at h
  obtain ⟨A, c, raws, rfl, k1⟩ := h.parts
  have r1 := k1.room.2
  clear h k1
  simp only [List.length_nil]
  obtain ⟨d, hd⟩ : ∃ d, chr u = d := ⟨_, rfl⟩
  have hz : d.size = 1 := by rw [← hd]; rfl
  rw [hd]
  clear hd
  go_enter Tryz.func79, Tryz.ntmps79
  go_wp2_with (first
    | (refine box_arg rfl (.tmp 0) rfl rfl ?_; intro w1 b1 e1 p1 l1 z1; have a0 := p1.c0; have a1 := p1.c1; have a2 := p1.c2; have a3 := p1.c3; have a4 := p1.c4; have L1 := Lib.hid l1; clear e1 p1 l1 z1; simp only at a0 a1 a2 a3 a4))
  go_ret
  exact ⟨rfl, L1.out⟩
set_option maxHeartbeats 2000000 in
theorem alike_set (f : Nat → Bool) : Alike (M14.leaf 4 (txt f)) := by
  intro w r h
  unfold YesTo
  unfold M14.leaf at h
  obtain ⟨A, c, raws, rfl, k1⟩ := h.parts
  have r1 := k1.room.2
  have HS := Lib.hid (isSet_any f)
  clear h k1
  simp only [List.length_nil]
  obtain ⟨d, hd⟩ : ∃ d, txt f = d := ⟨_, rfl⟩
  rw [hd] at HS ⊢
  clear hd
  go_enter Tryz.func79, Tryz.ntmps79
  go_wp2_with (first
    | (refine box_arg (r := ⟨4, d, A, 0, c, 0, 0⟩) rfl (.tmp 0) rfl rfl ?_; intro w1 b1 e1 p1 l1 z1; have P1 := Lib.hid p1; have a0 := p1.c0; have a1 := p1.c1; have a2 := p1.c2; have a3 := p1.c3; have a4 := p1.c4; have L1 := Lib.hid l1; clear e1 p1 l1 z1; simp only at a0 a1 a2 a3 a4))
  refine (HS.out _).mono ?_
  rintro e w2 ⟨rfl, l2⟩
  have PB2 := Lib.hid (P1.out.below l2)
  have L2 := Lib.hid (L1.out.trans (l2.mono L1.out.size))
  have d2 := PB2.out.c2
  simp only at d2
  clear l2
  go_wp2_with fail
  go_ret
  exact ⟨rfl, L2.out⟩
set_option maxHeartbeats 2000000 in
theorem alike_many {k : Int} (hk : k = 7 ∨ k = 8) {ks : List Piece} (h2 : 2 ≤ ks.length) : Alike (.mk k ⟨#[]⟩ ks 0 0) := by
  intro w r h
  unfold YesTo
  obtain ⟨A, c, raws, rfl, k1⟩ := h.parts
  have hr1 := k1.room.1
  have hr2 := k1.room.2
  have t2 : (2 : Int) ≤ (ks.length : Int) := by omega
  clear h k1 h2
  rcases hk with rfl | rfl
  all_goals
    go_enter Tryz.func79, Tryz.ntmps79
    go_wp2_with (first
      | (refine box_arg rfl (.tmp 0) rfl rfl ?_; intro w1 b1 e1 p1 l1 z1; have a0 := p1.c0; have a1 := p1.c1; have a2 := p1.c2; have a3 := p1.c3; have a4 := p1.c4; have L1 := Lib.hid l1; clear e1 p1 l1 z1; simp only at a0 a1 a2 a3 a4))
    go_ret
    exact ⟨rfl, L1.out⟩
set_option maxHeartbeats 2000000 in
theorem alike_rep {p : Piece} {m t : Int} (ho : Often m t) : Alike (.mk 9 ⟨#[]⟩ [p] m t) := by
  intro w r h
  unfold YesTo
  obtain ⟨A, c, raws, rfl, k1⟩ := h.parts
  have hr : 1 ≤ c ∧ c ≤ 9223372036854775807 := k1.room
  have HO : Hid (∀ w, Calls Tryz.prog 59 #[.agg (rawA ⟨9, ⟨#[]⟩, A, [p].length, c, m, t⟩)] w fun e w' => e = .returned (.bool true) ∧ Below w.heap.size w w') := fun w => isRepeat_any ho hr w
  clear h k1 hr ho
  go_enter Tryz.func79, Tryz.ntmps79
  go_wp2_with (first
    | (refine box_arg (r := ⟨9, ⟨#[]⟩, A, [p].length, c, m, t⟩) rfl (.tmp 0) rfl rfl ?_; intro w1 b1 e1 p1 l1 z1; have P1 := Lib.hid p1; have a0 := p1.c0; have L1 := Lib.hid l1; clear e1 p1 l1 z1; simp only at a0)
    | (refine load_piece (r := ⟨9, ⟨#[]⟩, A, [p].length, c, m, t⟩) rfl (.tmp 1) rfl rfl P1.out ?_))
  refine (HO.out _).mono ?_
  rintro e w2 ⟨rfl, l2⟩
  have L2 := Lib.hid (L1.out.trans (l2.mono L1.out.size))
  clear l2
  go_wp2_with fail
  go_ret
  exact ⟨rfl, L2.out⟩
def Parsd (p : Piece) : Prop := ∀ (w : World) (r : Raw), PLow w r p → Calls Tryz.prog 60 #[.agg (rawA r)] w (YesTo w)
set_option maxHeartbeats 4000000 in
theorem parsed_mk {k : Int} {t : ByteArray} {ks : List Piece} {l tp : Int} (hA : Alike (.mk k t ks l tp)) (IH : ∀ i (hi : i < ks.length), Parsd ks[i]) : Parsd (.mk k t ks l tp) := by
  intro w r h
  unfold YesTo
  have HI := Lib.hid IH
  have HA := Lib.hid (fun w => hA w r)
  have HL := Lib.hid h
  obtain ⟨A, c, raws, rfl, k1⟩ := h.parts
  have K1 := Lib.hid k1
  have HR := Lib.hid k1.room
  clear h k1 IH hA
  go_enter Tryz.func60, Tryz.ntmps60
  go_wp2_with (first
    | (refine box_arg (r := ⟨k, t, A, ks.length, c, l, tp⟩) rfl (.tmp 0) rfl rfl ?_; intro w1 b1 e1 p1 l1 z1; have P1 := Lib.hid p1; have L1 := Lib.hid l1; clear e1 p1 l1 z1)
    | (refine load_piece (r := ⟨k, t, A, ks.length, c, l, tp⟩) rfl (.tmp 1) rfl rfl P1.out ?_))
  refine (HA.out _ (HL.out.below L1.out)).mono ?_
  rintro e w2 ⟨rfl, l2⟩
  have PB2 := Lib.hid (P1.out.below l2)
  have L2 := Lib.hid (L1.out.trans (l2.mono L1.out.size))
  have K2 := Lib.hid (K1.out.below L2.out)
  have a2 := PB2.out.c2
  simp only at a2
  have hr1 := HR.out.1
  have hr2 := HR.out.2
  clear l2
  go_wp2_with fail
  clear a2 hr1 hr2
  go_loopg [11] ks.length (fun gk s11 wr => ∃ i : Nat, s11 = .int .i64 i ∧ Hid (i + gk = ks.length) ∧ Hid (Kids wr A c raws ks) ∧ Hid (Below w.heap.size w wr))
  case atStart => exact ⟨0, rfl, by unfold Hid; omega, K2, L2⟩
  case round =>
    obtain ⟨i, rfl, hig, K1, HB⟩ := hrel
    have hn1 := HR.out.1
    have hn2 := HR.out.2
    by_cases hi : i < ks.length
    · have ti : (i : Int) < (ks.length : Int) := by omega
      obtain ⟨g1, o1, rfl, C1⟩ := K1.out.at_ (Nat.lt_of_le_of_lt (Nat.zero_le _) hi)
      obtain ⟨hr1, q1⟩ := K1.out.kid hi
      have E1 := Lib.hid (C1 i hr1)
      have Q1 := Lib.hid q1
      have HI2 := Lib.hid hi
      obtain ⟨rk, hrk⟩ : ∃ rk, raws[i]'hr1 = rk := ⟨_, rfl⟩
      rw [hrk] at E1 Q1
      have HC := Lib.hid (fun (w : World) (h : PLow w rk (ks[i]'hi)) => HI.out i hi w rk h)
      have hwi : Hid (wrap64 ((i : Int) + 1) = ((i + 1 : Nat) : Int)) := by unfold Hid wrap64; omega
      clear C1 q1 hrk
      go_wp2_with (first
        | (refine load_at rfl (.tmp 13) rfl rfl (r := rk) E1.out ?_)
        | (refine alloc_piece rfl rfl ?_; intro w3 b3 e3 p3 l3 z3)
        | (refine store_piece (r := rk) rfl (.tmp 4) (.tmp 14) rfl rfl rfl p3 ?_; intro w4 p4 l4 z4; have L4 := Lib.hid (two_new l3 l4 e3); have P4 := Lib.hid p4; clear e3 p3 l3 z3 p4 l4 z4)
        | (refine load_piece (r := rk) rfl (.tmp 4) rfl rfl P4.out ?_))
      refine (HC.out _ (Q1.out.below L4.out)).mono ?_
      rintro e w5 ⟨rfl, l5⟩
      have K5 := Lib.hid ((K1.out.below L4.out).below l5)
      have B5 := Lib.hid (HB.out.trans ((L4.out.trans (l5.mono L4.out.size)).mono HB.out.size))
      clear l5
      cases gk with
      | zero => exact absurd hig.out (by have := HI2.out; omega)
      | succ g =>
        go_wp2_with fail
        go_roundg g
        case measure => omega
        case rel => exact ⟨i + 1, by first | rfl | exact congrArg (Value.int .i64) hwi.out, by have := hig.out; unfold Hid; omega, K5, B5⟩
    · have ti : ¬ (i : Int) < (ks.length : Int) := by omega
      go_wp2_with fail
      go_ret
      exact ⟨rfl, HB.out⟩
theorem parsed_any {p : Piece} (h : Whole p) : Parsd p := by
  induction h with
  | none k hk => exact parsed_mk (alike_none hk) fun i hi => absurd hi (by simp)
  | char c => exact parsed_mk (alike_char c) fun i hi => absurd hi (by simp)
  | set f => exact parsed_mk (alike_set f) fun i hi => absurd hi (by simp)
  | many k hk l h2 h3 hw ih => exact parsed_mk (alike_many hk h2) fun i hi => ih l[i] (List.getElem_mem hi)
  | rep p m t hm ht hw ih =>
    refine parsed_mk (alike_rep ⟨hm, ht⟩) fun i hi => ?_
    obtain rfl : i = 0 := by simpa using hi
    exact ih
set_option maxHeartbeats 1000000 in
/-- Right of a piece that may be: its size alone decides -/
theorem right_any {p : Piece} (h : Whole p) {w : World} {r : Raw} (hl : PLow w r p) : Calls Tryz.prog 45 #[.agg (rawA r)] w fun e w' => e = .returned (.bool (decide ((size p : Int) ≤ 4000))) ∧ Below w.heap.size w w' := by
  have HS := Lib.hid (psize_any h)
  have HP := Lib.hid (parsed_any h)
  have HL := Lib.hid hl
  obtain ⟨n, hn⟩ : ∃ n, size p = n := ⟨_, rfl⟩
  have HN := Lib.hid hn
  rw [hn]
  clear h hl hn
  by_cases hb : (n : Int) ≤ 4000
  · have td : decide ((n : Int) ≤ 4000) = true := decide_eq_true hb
    rw [td]
    go_enter Tryz.func45, Tryz.ntmps45
    go_wp2_with (first
      | (refine box_arg (r := r) rfl (.tmp 0) rfl rfl ?_; intro w1 b1 e1 p1 l1 z1; have P1 := Lib.hid p1; have L1 := Lib.hid l1; have a0 := p1.c0; have a1 := p1.c1; have a2 := p1.c2; have a3 := p1.c3; have a4 := p1.c4; clear e1 p1 l1 z1)
      | (refine load_piece (r := r) rfl (.tmp 1) rfl rfl P1.out ?_))
    refine (HS.out _ _ (HL.out.below L1.out)).mono ?_
    rintro e w2 ⟨rfl, l2⟩
    rw [HN.out]
    have PB2 := Lib.hid (P1.out.below l2)
    have L2 := Lib.hid (L1.out.trans (l2.mono L1.out.size))
    have a0 := PB2.out.c0
    have a1 := PB2.out.c1
    have a2 := PB2.out.c2
    have a3 := PB2.out.c3
    have a4 := PB2.out.c4
    clear l2
    go_wp2_with fail
    refine (HP.out _ _ (HL.out.below L2.out)).mono ?_
    rintro e w3 ⟨rfl, l3⟩
    have L3 := Lib.hid (L2.out.trans (l3.mono L2.out.size))
    clear l3
    go_wp2_with fail
    go_ret
    exact ⟨rfl, L3.out⟩
  · have td : decide ((n : Int) ≤ 4000) = false := decide_eq_false hb
    rw [td]
    go_enter Tryz.func45, Tryz.ntmps45
    go_wp2_with (first
      | (refine box_arg (r := r) rfl (.tmp 0) rfl rfl ?_; intro w1 b1 e1 p1 l1 z1; have P1 := Lib.hid p1; have L1 := Lib.hid l1; clear e1 p1 l1 z1)
      | (refine load_piece (r := r) rfl (.tmp 1) rfl rfl P1.out ?_))
    refine (HS.out _ _ (HL.out.below L1.out)).mono ?_
    rintro e w2 ⟨rfl, l2⟩
    rw [HN.out]
    have L2 := Lib.hid (L1.out.trans (l2.mono L1.out.size))
    clear l2
    go_wp2_with fail
    go_ret
    exact ⟨rfl, L2.out⟩
end Go.Proofs.YtehdnbidgphecaaGreatDoor.W14
