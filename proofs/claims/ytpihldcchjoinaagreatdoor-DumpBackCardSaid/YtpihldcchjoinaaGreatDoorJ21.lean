/-
  Texts joined, in build order, each with its own comment and its own conditions: W12Equal, W12Lives, W07Hang, W07Check, W07New2.
-/
import Derived.Test.YtpihldcchjoinaaGreatDoorJ20
import Derived.Test.YtpihldcchjoinaaGreatDoorJ19
import Derived.BigRegion
import Derived.Test.YtpihldcchjoinaaGreatDoorJ18
import Derived.BigQuiet
/-
  Layer 12 (dump), walks of the program's same and Equal, over any reading of a tree. The conditions stand in the statements.
-/
namespace Go.Proofs.YtpihldcchjoinaaGreatDoor.W12
set_option maxRecDepth 100000
open Go Go.RowKit Go.Shelf Go.Proofs.YtpihldcchjoinaaGreatDoor.Strs Go.Proofs.YtpihldcchjoinaaGreatDoor.Recs Go.Proofs.YtpihldcchjoinaaGreatDoor.Range
open Go.Proofs.YtpihldcchjoinaaGreatDoor.M12
open Go.Proofs.YtpihldcchjoinaaGreatDoor.M07 (Tr Nd nodeAt Right listDir height)
open Go.Proofs.YtpihldcchjoinaaGreatDoor.M08 (Named)
open Go.Proofs.YtpihldcchjoinaaGreatDoor.W06 (Ents)
open Go.Proofs.YtpihldcchjoinaaGreatDoor.W07 (Small Trees)
open Go.Proofs.YtpihldcchjoinaaGreatDoor.W08 (listed_is listed_len)
open Go.Proofs.YtpihldcchjoinaaGreatDoor.W11
open Go.Proofs.YtpihldcchjoinaaGreatDoor.Kit (ret_str ret_bool ret_int mk_of mk_bytes ba_ext below_draws on)
attribute [local go_sem] Oper.semAt_some

section
variable {Rep : (Nat → Prop) → World → Value → Tr → Prop} {Fa Fb : Nat → Prop} {w : World} {aa ab : Addr} {t u : Tr}
/-- what the region reads -/
def Two (q : Nat) (va vb : Value) (w' : World) : Prop := w'.cell? ⟨q, 0, none⟩ = some va ∧ w'.cell? ⟨q + 1, 0, none⟩ = some vb
theorem Two.on {q m : Nat} {va vb : Value} {w1 w2 : World} (h : Two q va vb w1) (hb : Below m w1 w2) (hq : q + 1 < m) : Two q va vb w2 :=
  ⟨(hb.cell (p := ⟨q, 0, none⟩) (by show q < m; omega)).trans h.1, (hb.cell (p := ⟨q + 1, 0, none⟩) hq).trans h.2⟩
set_option maxRecDepth 100000 in
set_option maxHeartbeats 8000000 in
theorem same_step (C : Trees Rep) (Ha : Rep Fa w (.pointer (some aa)) t) (Hb : Rep Fb w (.pointer (some ab)) u) (St : Small t) (Su : Small u) (n m : Int) (f : Int → Int → Bool)
    (IH : ∀ e ∈ listDir t.L n, ∀ g ∈ listDir u.L m, ∀ w', Below w.heap.size w w' → Calls Tryz.prog 48 #[.pointer (some aa), .int .i64 e.2, .pointer (some ab), .int .i64 g.2] w' fun e' w'' => e' = .returned (.bool (f e.2 g.2)) ∧ Below w'.heap.size w' w'') :
    Calls Tryz.prog 48 #[.pointer (some aa), .int .i64 n, .pointer (some ab), .int .i64 m] w fun e w' => e = .returned (.bool (eqL f t u (listDir t.L n) (listDir u.L m))) ∧ Below w.heap.size w w' := by
  obtain ⟨w1, hw1⟩ : ∃ w1, (w.alloc (.cells #[.pointer (some aa)] 25)).alloc (.cells #[.pointer (some ab)] 25) = w1 := ⟨_, rfl⟩
  have hb1 : Below w.heap.size w w1 := by rw [← hw1]; exact (below_box _ _).alloc (by rw [World.size_alloc]; omega) _
  obtain ⟨q, hq⟩ : ∃ b, w.heap.size = b := ⟨_, rfl⟩
  have hs1 : q + 1 < w1.heap.size := by rw [← hw1, World.size_alloc, World.size_alloc]; omega
  have W1 : Two q (.pointer (some aa)) (.pointer (some ab)) w1 := by
    refine ⟨?_, ?_⟩
    all_goals (rw [← hw1, ← hq]; simp)
  have HLA := Lib.hid (fun (w' : World) (h : Below w1.heap.size w1 w') => C.list (C.below Ha (on hb1 h)) St n)
  have HLB := Lib.hid (fun (w' : World) (h : Below w1.heap.size w1 w') => C.list (C.below Hb (on hb1 h)) Su m)
  rw [listed_is (C.right Ha) n] at HLA
  rw [listed_is (C.right Hb) m] at HLB
  have HEQ := Lib.hid (fun (va vb : Value) (w' : World) (h : Below w1.heap.size w1 w') (ha : Ents w'.heap.size w' va (listDir t.L n)) (hb : Ents w'.heap.size w' vb (listDir u.L m)) =>
    equalFunc_any va vb (listDir t.L n) (listDir u.L m) w' ha hb q (q + 1) (entF t u f) (fun e he g hg s1 s2 w2 h1 h2 h3 => by
      have hB := h.trans (h3.mono h.size)
      have hT := W1.on hB hs1
      have := same1_any C (C.below Ha (on hb1 hB)) (C.below Hb (on hb1 hB)) St Su q (q + 1) (by have := hB.size; omega) (by have := hB.size; omega) hT.1 hT.2 s1 s2 e.2 g.2 (f e.2 g.2) (fun w3 h4 => IH e he g hg w3 (on hb1 (hB.trans (h4.mono hB.size))))
      rw [h1, h2] at this
      exact this))
  rw [← eqL_all] at HEQ
  have HB1 := Lib.hid hb1
  generalize listDir t.L n = La at *
  generalize listDir u.L m = Lb at *
  generalize eqL f t u La Lb = R at *
  clear IH hb1 Ha Hb St Su
  go_enter Tryz.func48, Tryz.ntmps48
  go_wp2_with fail
  clear hw1
  go_region_held3 (fun w' => w'.cell? ⟨q, 0, none⟩ = some (.pointer (some aa)) ∧ w'.cell? ⟨q + 1, 0, none⟩ = some (.pointer (some ab)))
    (first | exact S4 | exact S3 | exact S2 | exact (W1.on (below_draws w1 1) hs1) | go_keep)
    (first
      | (go_at_call 80; refine (HEQ.out _ _ x3 B3 EA3.out EB.out).mono ?_; rintro e x4 ⟨rfl, hb4⟩; have B4 := B3.trans (hb4.mono B3.size); have S4 := W1.on B4 hs1)
      | (go_at_call 47; refine (HLB.out x2 B2).mono ?_; rintro e x3 ⟨ub, rfl, hub, hb3⟩; have B3 := B2.trans (hb3.mono B2.size); have S3 := W1.on B3 hs1; have EB := Lib.hid hub; have EA3 := Lib.hid ((EA.out.below hb3).more hb3.size))
      | (go_at_call 47; refine (HLA.out (w1.drewN 1) (below_draws w1 1)).mono ?_; rintro e x2 ⟨ua, rfl, hua, hb2⟩; have B2 := (below_draws w1 1).trans (hb2.mono (below_draws w1 1).size); have S2 := W1.on B2 hs1; have EA := Lib.hid hua))
  all_goals (
    have HE := Lib.hid (on HB1.out B4)
    go_wp2_with fail
    go_ret
    exact ⟨rfl, HE.out⟩)
theorem same_any (C : Trees Rep) (St : Small t) (Su : Small u) : ∀ (k : Nat) (n m : Int) (w : World), Rep Fa w (.pointer (some aa)) t → Rep Fb w (.pointer (some ab)) u → t.L.length ≤ height t.L n + k →
    Calls Tryz.prog 48 #[.pointer (some aa), .int .i64 n, .pointer (some ab), .int .i64 m] w fun e w' => e = .returned (.bool (eqT t u k n m)) ∧ Below w.heap.size w w'
  | 0, n, m, w, Ha, Hb, hk => by
    have hnl := no_list (C.right Ha) (n := n) (by omega)
    have := same_step C Ha Hb St Su n m (fun _ _ => false) (fun e he => by rw [hnl] at he; cases he)
    exact this
  | k + 1, n, m, w, Ha, Hb, hk => by
    exact same_step C Ha Hb St Su n m (eqT t u k) (fun e he g _ w' hb => by
      obtain ⟨a, ka⟩ := kid_of (C.right Ha) he
      have hh := ka.height_ (C.right Ha)
      rw [← ka.num] at hh
      exact same_any C St Su k e.2 g.2 w' (C.below Ha hb) (C.below Hb hb) (by omega))
theorem equal_any (C : Trees Rep) (Gt : W08.Good t) (Gu : W08.Good u) (Ha : Rep Fa w (.pointer (some aa)) t) (Hb : Rep Fb w (.pointer (some ab)) u) :
    Calls Tryz.prog 22 #[.pointer (some aa), .pointer (some ab)] w fun e w' => e = .returned (.bool (decide (allOf t = allOf u))) ∧ Below w.heap.size w w' := by
  have H := Lib.hid (same_any C Gt.small Gu.small t.L.length 1 1 w Ha Hb (by omega))
  rw [same_all (C.right Ha) (C.right Hb) Gt.named Gu.named] at H
  generalize decide (allOf t = allOf u) = R at *
  go_enter Tryz.func22, Tryz.ntmps22
  go_wp2_with fail
  refine H.out.mono ?_
  rintro e w2 ⟨rfl, hb⟩
  go_wp2_with fail
  go_ret
  exact ⟨rfl, hb⟩
theorem equal_none (a : Addr) (w : World) : Calls Tryz.prog 22 #[.pointer (some a), .pointer none] w fun e w' => e = .returned (.bool false) ∧ w' = w := by
  go_enter Tryz.func22, Tryz.ntmps22
  go_wp2_with fail
  go_ret
  exact ⟨rfl, rfl⟩
theorem equal_both (w : World) : Calls Tryz.prog 22 #[.pointer none, .pointer none] w fun e w' => e = .returned (.bool true) ∧ w' = w := by
  go_enter Tryz.func22, Tryz.ntmps22
  go_wp2_with fail
  go_ret
  exact ⟨rfl, rfl⟩
end
end Go.Proofs.YtpihldcchjoinaaGreatDoor.W12
/-
  Layer 12 (dump), walks over the contracts: the law's lives returns true, and DumpNone; nothing that was there is changed. The conditions stand in the statements.
-/
namespace Go.Proofs.YtpihldcchjoinaaGreatDoor.W12
set_option maxRecDepth 100000
open Go Go.RowKit Go.Shelf Go.Proofs.YtpihldcchjoinaaGreatDoor.Strs Go.Proofs.YtpihldcchjoinaaGreatDoor.Recs Go.Proofs.YtpihldcchjoinaaGreatDoor.Range
open Go.Proofs.YtpihldcchjoinaaGreatDoor.M12
open Go.Proofs.YtpihldcchjoinaaGreatDoor.M07 (Tr Nd nodeAt Right listDir height)
open Go.Proofs.YtpihldcchjoinaaGreatDoor.M08
open Go.Proofs.YtpihldcchjoinaaGreatDoor.M09 (putAt write kept_putAt kept_write)
open Go.Proofs.YtpihldcchjoinaaGreatDoor.W07 (Small Trees)
open Go.Proofs.YtpihldcchjoinaaGreatDoor.W09 (Posix Within HandsT)
open Go.Proofs.YtpihldcchjoinaaGreatDoor.W11
open Go.Proofs.YtpihldcchjoinaaGreatDoor.Kit (ret_str ret_bool ret_int mk_of mk_bytes ba_ext below_draws on)

def oneR : Tr := ⟨[⟨1, 1, [], 1, []⟩, ⟨2, 1, [97], 1, []⟩], 2⟩
def twoR : Tr := ⟨[⟨1, 1, [], 1, []⟩, ⟨2, 1, [97], 1, []⟩, ⟨3, 2, [98], 2, [120]⟩], 3⟩
def twoL : List Rw := [⟨[47, 97], 1, []⟩, ⟨[47, 97, 47, 98], 2, [120]⟩]
theorem one_find : M08.find M07.new [47, 97] false = (0, 5) := by
  unfold M08.find
  rw [if_neg (by decide), if_neg (by decide)]
  show ((goTo M07.new 1 [[97]] false 0).1, (goTo M07.new 1 [[97]] false 0).2.2) = _
  rw [go_none (by rfl) (by decide) (by rfl) (by decide)]
theorem one_spot : M08.spot M07.new [47, 97] = (1, [97], 0) := by
  unfold M08.spot
  rw [if_neg (by decide), if_neg (by decide), if_neg (by decide)]
  have hp : M04.parts [47, 97] = [[97]] := rfl
  simp only [hp, show ([[97]] : List (List UInt8)).dropLast = [] from rfl, go_nil]
  rfl
theorem one_put : putAt M07.new [47, 97] 1 [] = (oneR, 0) := by
  unfold putAt
  rw [one_spot, if_neg (fun e : (0 : Int) ≠ 0 => e rfl)]
  rfl
theorem one_make : makeOn M07.new ⟨[47, 97], 1, []⟩ = (oneR, 0) := by
  unfold makeOn
  rw [if_neg (by decide), one_find, if_neg (by decide), if_neg (by decide)]
  exact one_put
theorem two_find (last : Bool) : M08.find oneR [47, 97, 47, 98] last = (0, 5) := by
  unfold M08.find
  rw [if_neg (by decide), if_neg (by decide)]
  show ((goTo oneR 1 [[97], [98]] last 0).1, (goTo oneR 1 [[97], [98]] last 0).2.2) = _
  rw [go_on (by rfl) (by decide) (by rfl) (by decide) (Or.inl (by decide))]
  show ((goTo oneR 2 [[98]] last 0).1, (goTo oneR 2 [[98]] last 0).2.2) = _
  rw [go_none (by rfl) (by decide) (by rfl) (by decide)]
theorem two_spot : M08.spot oneR [47, 97, 47, 98] = (2, [98], 0) := by
  have e : goTo oneR 1 [[97]] true 0 = (2, 0, 0) := by
    rw [go_on (by rfl) (by decide) (by rfl) (by decide) (Or.inl (by decide))]
    show goTo oneR 2 [] true 0 = _
    rw [go_nil]
  unfold M08.spot
  rw [if_neg (by decide), if_neg (by decide), if_neg (by decide)]
  have hp : M04.parts [47, 97, 47, 98] = [[97], [98]] := rfl
  simp only [hp, show ([[97], [98]] : List (List UInt8)).dropLast = [[97]] from rfl, e]
  rfl
theorem two_write : write oneR [47, 97, 47, 98] [120] = (twoR, 0) := by
  unfold write
  rw [two_find, if_neg (by decide), if_neg (by decide), two_spot, if_neg (by decide), if_neg (by decide)]
  unfold putAt
  rw [two_spot, if_neg (by decide)]
  rfl
theorem two_make : makeOn oneR ⟨[47, 97, 47, 98], 2, [120]⟩ = (twoR, 0) := by
  unfold makeOn
  rw [if_neg (by decide), two_find, if_neg (by decide), if_pos rfl]
  exact two_write
theorem two_lay : lay M07.new 0 twoL = (twoR, 2, 0) := by
  unfold twoL
  rw [lay, one_make, if_neg (by decide), lay, two_make, if_neg (by decide)]
  rfl
theorem two_within : Within twoR 3 := by
  have h1 := new_within.next (kept_putAt M07.new [47, 97] 1 [])
  rw [one_put] at h1
  have h2 := h1.next (kept_write oneR [47, 97, 47, 98] [120])
  rw [two_write] at h2
  exact h2
theorem two_all : allOf twoR = twoL := by
  rw [← all_down two_within.right two_within.named]
  rfl
theorem two_rows (w : World) (t : TypeId) : RowList (w.heap.size + 1) (w.alloc (.cells #[.string ⟨#[47, 97]⟩, .int .i64 1, .string ⟨#[]⟩, .string ⟨#[47, 97, 47, 98]⟩, .int .i64 2, .string ⟨#[120]⟩] t)) (.slice (some ⟨w.heap.size, 0, none⟩) 2 2) twoL := by
  refine ⟨_, 2, rfl, Nat.le_refl _, by decide, fun _ => ⟨_, rfl, Nat.lt_succ_self _, fun i hi j hj => ?_⟩⟩
  have hf := flat_at rowC_len twoL i hi j hj
  have hlt : j < (rowC (twoL[i])).length := by rw [rowC_len]; exact hj
  rw [List.getElem?_eq_getElem hlt] at hf ⊢
  exact cells_new w (twoL.flatMap rowC) t (i * 3 + j) _ hf
section
variable {Rep : (Nat → Prop) → World → Value → Tr → Prop}
set_option maxHeartbeats 4000000 in
theorem lives12_over (C : Trees Rep) (hf : ∀ {F w v t}, Rep F w v t → ∃ a, v = .pointer (some a)) (S : W08.Seeks Rep) (P : Posix Rep) (w : World) : Calls Tryz.prog 8 #[] w fun e w' => e = .returned (.bool true) ∧ Below w.heap.size w w' := by
  have LA := two_rows w 41
  have BA := below_box w (.cells #[.string ⟨#[47, 97]⟩, .int .i64 1, .string ⟨#[]⟩, .string ⟨#[47, 97, 47, 98]⟩, .int .i64 2, .string ⟨#[120]⟩] 41)
  obtain ⟨wA, hwA⟩ : ∃ wA, w.alloc (.cells #[.string ⟨#[47, 97]⟩, .int .i64 1, .string ⟨#[]⟩, .string ⟨#[47, 97, 47, 98]⟩, .int .i64 2, .string ⟨#[120]⟩] 41) = wA := ⟨_, rfl⟩
  have hsA : wA.heap.size = w.heap.size + 1 := by rw [← hwA]; exact World.size_alloc _ _
  rw [hwA] at LA BA
  rw [← hsA] at LA
  have HMK := make_any C hf P LA (by decide) (by intro x hx; simp [twoL] at hx; rcases hx with rfl | rfl <;> decide)
  rw [two_lay] at HMK
  have HMK := Lib.hid HMK
  have HLA := Lib.hid LA
  have HBA := Lib.hid BA
  have HSM := Lib.hid (fun (u v : Value) (w' : World) (hu : RowList w'.heap.size w' u twoL) (hv : RowList w'.heap.size w' v twoL) => refSame_any u v twoL twoL w'.heap.size w' hu hv)
  clear LA BA
  go_enter Tryz.func8, Tryz.ntmps8
  go_wp2_with fail
  clear hwA
  refine HMK.out.mono ?_
  rintro e w1 ⟨v, rfl, hb1, -, h1⟩
  obtain ⟨a, F', rfl, hrep, -⟩ := h1 rfl
  have hall := all_any (rows_any C S (two_within.good (by decide)) ⟨#[47]⟩ (by decide) w1 hrep)
  have HAL := Lib.hid hall
  have L1 := Lib.hid ((HLA.out.below hb1).more hb1.size)
  have B1 := Lib.hid (on HBA.out hb1)
  clear hrep h1 hb1 hall
  go_wp2_with fail
  refine HAL.out.mono ?_
  rintro e w2 ⟨u, rfl, hu, hb2⟩
  have hu2 : RowList w2.heap.size w2 u twoL := by
    have e : (rowsAt twoR (⟨#[47]⟩ : ByteArray).data.toList).1 = twoL := two_all
    rw [e] at hu; exact hu
  have HS := Lib.hid (HSM.out u _ w2 hu2 ((L1.out.below hb2).more hb2.size))
  have B2 := Lib.hid (on B1.out hb2)
  clear hu hu2 hb2
  go_wp2_with fail
  refine HS.out.mono ?_
  rintro e w3 ⟨rfl, n, rfl⟩
  have B3 := Lib.hid (on B2.out (below_draws w2 n))
  go_wp2_with fail
  go_ret
  exact ⟨by simp, B3.out⟩
set_option maxHeartbeats 4000000 in
theorem dumpNone_over (C : Trees Rep) (hf : ∀ {F w v t}, Rep F w v t → ∃ a, v = .pointer (some a)) (S : W08.Seeks Rep) (P : Posix Rep) (N : W08.NoSeek) (w : World) (p : ByteArray) (u : Value) : Calls Tryz.prog 6 #[.string p, u] w fun e w' => e = .returned (.bool true) ∧ Below w.heap.size w w' := by
  have HRW := Lib.hid (rows_nil N p w)
  have HPT := Lib.hid (fun w' => paths_any (rows_nil N p w') (by decide))
  have HLY := Lib.hid (fun w' => lay_nil u w')
  have HAL := Lib.hid (fun w' => all_any (rows_nil N ⟨#[47]⟩ w'))
  have HL := Lib.hid (fun w' => lives12_over C hf S P w')
  go_enter Tryz.func6, Tryz.ntmps6
  go_wp2_with fail
  refine HRW.out.mono ?_
  rintro e w1 ⟨v1, rfl, hv1, hb1⟩
  obtain ⟨A1, c1, rfl, -, -⟩ := hv1.form
  go_wp2_with fail
  refine (HPT.out w1).mono ?_
  rintro e w2 ⟨v2, rfl, hv2, hb2⟩
  obtain ⟨A2, c2, rfl, -, -⟩ := hv2.form
  have B2 := Lib.hid (on hb1 hb2)
  go_wp2_with fail
  refine (HLY.out w2).mono ?_
  rintro e w2' ⟨rfl, hw⟩
  have hw := hw.symm
  subst hw
  go_wp2_with fail
  refine (HAL.out w2).mono ?_
  rintro e w3 ⟨v3, rfl, hv3, hb3⟩
  obtain ⟨A3, c3, rfl, -, -⟩ := hv3.form
  have B3 := Lib.hid (on B2.out hb3)
  go_wp2_with fail
  refine (HL.out w3).mono ?_
  rintro e w4 ⟨rfl, hb4⟩
  have B4 := Lib.hid (on B3.out hb4)
  go_wp2_with fail
  go_ret
  exact ⟨rfl, B4.out⟩
end
end Go.Proofs.YtpihldcchjoinaaGreatDoor.W12
/-
  Layer 7 (tree), walks: the landed code's hang and unhang: a node's name in a directory's list. The bounds stand in the statements.
-/
namespace Go.Proofs.YtpihldcchjoinaaGreatDoor.W07
set_option maxRecDepth 100000
open Go Go.RowKit Go.Proofs.YtpihldcchjoinaaGreatDoor.Strs Go.Proofs.YtpihldcchjoinaaGreatDoor.Recs Go.Proofs.YtpihldcchjoinaaGreatDoor.M07 Go.Proofs.YtpihldcchjoinaaGreatDoor.Maps Go.Proofs.YtpihldcchjoinaaGreatDoor.Range
open Go.Proofs.YtpihldcchjoinaaGreatDoor.M06 (Ent)
open Go.Proofs.YtpihldcchjoinaaGreatDoor.W06 (Ents HandsE)
open Go.Proofs.YtpihldcchjoinaaGreatDoor.Kit (ret_str ret_bool ret_int mk_of mk_bytes ba_ext below_draws on)

/-- behind a call that has written the tree's memory -/
def Left (F : Nat → Prop) (w w' : World) (sb mb : Nat) (g : Int → Nod) (last : Int) (m : Nat) : Prop :=
  ∃ F' lv', Mem F' w' sb mb g lv' last m ∧ Turns F w w' ∧ ∀ k, F' k → F k ∨ w.heap.size ≤ k
section
variable {F : Nat → Prop} {w w1 w2 : World} {sb mb : Nat} {g : Int → Nod} {lv : Int → Value} {last : Int} {m : Nat} {p : Nat} {x : Nod} {u : Value}
/-- a local copy of a node with another list in it, the tree as it was -/
theorem open_list (h : Mem F w sb mb g lv last m) (hb : Below w.heap.size w w1) (hp : w.heap.size ≤ p) (L : List Ent) (hbox : NodBox w1 p x u) (u' : Value) (hb2 : Below w1.heap.size w1 w2) (hu : Ents w2.heap.size w2 u' L) (hN : ∀ b o n c, u' = .slice (some ⟨b, o, none⟩) n c → w1.heap.size ≤ b) :
    Mem (More F w.heap.size (w2.setCell ⟨p, 3, none⟩ u')) (w2.setCell ⟨p, 3, none⟩ u') sb mb g lv last m ∧ NodBox (w2.setCell ⟨p, 3, none⟩ u') p { x with list := L } u' ∧ Ents (w2.setCell ⟨p, 3, none⟩ u').heap.size (w2.setCell ⟨p, 3, none⟩ u') u' L ∧ (∀ b o c d, 0 < L.length → u' = .slice (some ⟨b, o, none⟩) c d → More F w.heap.size (w2.setCell ⟨p, 3, none⟩ u') b) ∧ Below w.heap.size w (w2.setCell ⟨p, 3, none⟩ u') := by
  have h2 := h.below (on hb hb2)
  have hbx := hbox.below hb2
  have hB : Below w.heap.size w (w2.setCell ⟨p, 3, none⟩ u') := (on hb hb2).setCell hp u'
  have hu2 : Ents w2.heap.size (w2.setCell ⟨p, 3, none⟩ u') u' L := ents_keep hu fun b o c d _ _ e => Below.heap_setCell _ _ _ _ (by
    have h1 := hN b o c d e
    have h2 := hbox.lt
    show b ≠ p
    omega)
  have hu3 : Ents w2.heap.size (w2.setCell ⟨p, 3, none⟩ u') u' L := hu2
  refine ⟨(h.below hB).more _, hbx.set3 L u', by rw [set_size]; exact hu2, fun b o c d e0 e => ?_, hB⟩
  subst e
  obtain ⟨b', o', hl, e, hb', -⟩ := Recs.flat_ hu3 W06.entC_len (by omega) (k := 0) (by
    obtain ⟨A, c', e, -⟩ := hu3.form
    injection e with e1 e2
    omega)
  cases e
  exact Or.inr ⟨Nat.le_trans hb.size (hN b o c d rfl), by rw [set_size]; exact hb'⟩
/-- a local copy of a node with another directory in it, the tree as it was -/
theorem open_up (h : Mem F w sb mb g lv last m) (x : Nod) (u : Value) (d : Int) :
    Mem F ((w.alloc (.cells #[.int .i64 x.kind, .int .i64 x.up, .string ⟨x.data.toArray⟩, u] 96)).setCell ⟨w.heap.size, 1, none⟩ (.int .i64 d)) sb mb g lv last m ∧ NodBox ((w.alloc (.cells #[.int .i64 x.kind, .int .i64 x.up, .string ⟨x.data.toArray⟩, u] 96)).setCell ⟨w.heap.size, 1, none⟩ (.int .i64 d)) w.heap.size { x with up := d } u ∧ Below w.heap.size w ((w.alloc (.cells #[.int .i64 x.kind, .int .i64 x.up, .string ⟨x.data.toArray⟩, u] 96)).setCell ⟨w.heap.size, 1, none⟩ (.int .i64 d)) := by
  have hB : Below w.heap.size w ((w.alloc (.cells #[.int .i64 x.kind, .int .i64 x.up, .string ⟨x.data.toArray⟩, u] 96)).setCell ⟨w.heap.size, 1, none⟩ (.int .i64 d)) := ((Below.refl _ _).alloc (Nat.le_refl _) _).setCell (Nat.le_refl _) _
  exact ⟨h.below hB, (NodBox.new w x u).set1 d, hB⟩
set_option maxHeartbeats 4000000 in
set_option maxRecDepth 100000 in
theorem hang_any (h : Mem F w sb mb g lv last m) (hs : Short g) (hm : m ≤ 1073741824) (d : Int) (s : ByteArray) (n : Int) (hd : (g d).kind ≠ 0) (hn : (g n).kind ≠ 0) :
    Calls Tryz.prog 53 #[.pointer (some ⟨sb, 0, none⟩), .int .i64 d, .string s, .int .i64 n] w fun e w' => e = .returned (.tuple #[]) ∧ Left F w w' sb mb (hangN g d s.data.toList n) last m := by
  obtain ⟨A, c, e⟩ := h.form d
  have hE := h.list d
  have HL := Lib.hid (h.look d)
  rw [e] at hE HL
  have c0 := h.box.c0
  have HM := Lib.hid h.map
  have hsd := hs d
  have hwf := Lib.hid (h.wf hd)
  have hwn := Lib.hid (h.wf hn)
  obtain ⟨w1, hw1⟩ : ∃ w1, w.alloc (.cells #[.int .i64 (g d).kind, .int .i64 (g d).up, .string ⟨(g d).data.toArray⟩, .slice A (g d).list.length c] 96) = w1 := ⟨_, rfl⟩
  have X1 : Hid (NodBox w1 w.heap.size (g d) (.slice A (g d).list.length c)) := by rw [← hw1]; exact NodBox.new _ _ _
  have B1 : Hid (Below w.heap.size w w1) := by rw [← hw1]; exact (Below.refl _ _).alloc (Nat.le_refl _) _
  have x3 := X1.out.c3
  have HC := Lib.hid (W06.put_new (.slice A (g d).list.length c) (g d).list w1 s n ((hE.below B1.out).more B1.out.size) (by omega))
  have H := Lib.hid h
  have HD := Lib.hid hd
  have HN := Lib.hid hn
  clear h hs e hE hsd hd hn
  generalize (g d).list.length = n0 at *
  go_enter Tryz.func53, Tryz.ntmps53
  go_wp2_with (at_lookup; refine wpList_look _ rfl _ _ 97 rfl 3 96 key_under map_under (zero_node _) mb m (held g lv) rfl HM.out d rfl (.agg #[.int .i64 (g d).kind, .int .i64 (g d).up, .string ⟨(g d).data.toArray⟩, .slice A n0 c]) HL.out ?_)
  clear hw1
  refine HC.out.mono ?_
  rintro e w2 ⟨u, rfl, hu, hnew, hb⟩
  obtain ⟨A2, c2, rfl, -, -⟩ := hu.form
  obtain ⟨q1, q2, q3, q4, q5⟩ := open_list H.out B1.out (Nat.le_refl _) _ X1.out _ hb hu hnew
  have frz := (X1.out.below hb).fr 3
  have old := (X1.out.below hb).c3
  clear hu hnew hb HM c0 x3 HC X1 HL
  generalize hL : (M06.put (g d).list (s.data.toList, n)).length = n2 at *
  have HLL := Lib.hid hL
  clear hL
  obtain ⟨w3, hw3⟩ : ∃ w3, w2.setCell ⟨w.heap.size, 3, none⟩ (.slice A2 n2 c2) = w3 := ⟨_, rfl⟩
  rw [hw3] at q1 q2 q3 q4 q5
  have M3 := Lib.hid q1
  have U3 := Lib.hid q3
  have N3 := Lib.hid q4
  have B3 := Lib.hid q5
  have y0 := q2.c0
  have y1 := q2.c1
  have y2 := q2.c2
  have y3 := q2.c3
  have c0 := q1.box.c0
  clear q1 q2 q3 q4 q5
  have hmp : MapIs w3.drew Tryz.prog 3 mb (held g lv) m := M3.out.map.keep rfl
  have hst := hmp.store (t := 97) (e := 96) key_under map_under (by unfold maxLen; omega) (n := d) hwf.out (.agg #[.int .i64 (g d).kind, .int .i64 (g d).up, .string ⟨(g d).data.toArray⟩, .slice A2 n2 c2])
  obtain ⟨w4, hrun, map4, turn4⟩ := hst
  have e4 : (held g lv d).isSome = true := by rw [H.out.some_ HD.out]; rfl
  rw [if_pos e4] at map4
  have M4 := Lib.hid (Mem.stored (M3.out.keep (w' := w3.drew) (fun _ _ => rfl) (Nat.le_refl _)) (x := { g d with list := M06.put (g d).list (s.data.toList, n) }) (u := .slice A2 n2 c2) HD.out U3.out (by rw [HLL.out]; exact N3.out) map4 turn4)
  have T4 := Lib.hid (((Turns.new (T := fun k => F k ∨ w.heap.size ≤ k) B3.out).trans (drew_turns _ _)).trans (turned_turns turn4 (Or.inl H.out.fm)))
  clear map4 turn4 hmp e4
  go_wp2_with fail
  clear hw3
  go_region
  clear hrun y0 y1 y2 y3 c0 frz old
  -- the node itself
  obtain ⟨g1, hg1⟩ : ∃ g1, upd g d { g d with list := M06.put (g d).list (s.data.toList, n) } = g1 := ⟨_, rfl⟩
  have HG : Hid (hangN g d s.data.toList n = upd g1 n { g1 n with up := d }) := by rw [← hg1]; rfl
  have hk1 : Hid ((g1 n).kind ≠ 0) := by
    rw [← hg1]
    show (upd g d _ n).kind ≠ 0
    unfold upd
    split
    · exact HD.out
    · exact HN.out
  rw [hg1] at M4
  generalize upd lv d (.slice A2 n2 c2) = lv1 at *
  have HF : Hid (∀ k, More F w.heap.size w3 k → F k ∨ w.heap.size ≤ k) := fun k hk => hk.imp id And.left
  clear hg1 M3 U3 N3 B3
  generalize More F w.heap.size w3 = F1 at *
  obtain ⟨A4, c4, e⟩ := M4.out.form n
  have HL := Lib.hid (M4.out.look n)
  have U4 := Lib.hid (M4.out.list n)
  have N4 := Lib.hid (fun b o c d h0 => M4.out.at_ n b o c d h0)
  rw [e] at HL U4 N4
  have HM := Lib.hid M4.out.map
  have c0 := M4.out.box.c0
  generalize hL : (g1 n).list.length = n4 at *
  have HLL := Lib.hid hL
  clear hL e
  obtain ⟨q1, q2, q5⟩ := open_up M4.out (g1 n) (.slice A4 n4 c4) d
  obtain ⟨w6, hw6⟩ : ∃ w6, (w4.alloc (.cells #[.int .i64 (g1 n).kind, .int .i64 (g1 n).up, .string ⟨(g1 n).data.toArray⟩, .slice A4 n4 c4] 96)).setCell ⟨w4.heap.size, 1, none⟩ (.int .i64 d) = w6 := ⟨_, rfl⟩
  rw [hw6] at q1 q2 q5
  have M6 := Lib.hid q1
  have B6 := Lib.hid q5
  have y0 := q2.c0
  have y1 := q2.c1
  have y2 := q2.c2
  have y3 := q2.c3
  have d0 := q1.box.c0
  clear q1 q2 q5
  have hmp : MapIs w6.drew Tryz.prog 3 mb (held g1 lv1) m := M6.out.map.keep rfl
  have hst := hmp.store (t := 97) (e := 96) key_under map_under (by unfold maxLen; omega) (n := n) hwn.out (.agg #[.int .i64 (g1 n).kind, .int .i64 d, .string ⟨(g1 n).data.toArray⟩, .slice A4 n4 c4])
  obtain ⟨w7, hrun, map7, turn7⟩ := hst
  go_wp2_with (at_lookup; refine wpList_look _ rfl _ _ 97 rfl 3 96 key_under map_under (zero_node _) mb m (held g1 lv1) rfl HM.out n rfl (.agg #[.int .i64 (g1 n).kind, .int .i64 (g1 n).up, .string ⟨(g1 n).data.toArray⟩, .slice A4 n4 c4]) HL.out ?_)
  clear hw6
  go_region
  go_end0
  have e4 : (held g1 lv1 n).isSome = true := by rw [M4.out.some_ hk1.out]; rfl
  rw [if_pos e4] at map7
  rw [HG.out]
  exact ⟨rfl, _, _, Mem.stored (M6.out.keep (w' := w6.drew) (fun _ _ => rfl) (Nat.le_refl _)) (x := { g1 n with up := d }) (u := .slice A4 n4 c4) hk1.out ((U4.out.below B6.out).more B6.out.size) (by rw [HLL.out]; exact N4.out) map7 turn7,
    narrow (((T4.out.trans (Turns.new B6.out)).trans (drew_turns _ _)).trans (turned_turns turn7 (Or.inl H.out.fm))), HF.out⟩
end
end Go.Proofs.YtpihldcchjoinaaGreatDoor.W07
/-
  Layer 7 (tree), walks: the landed code's checks: checkDir, checkData, checkPlace, within, checkMove, checkReplace. The bounds stand in the statements.
-/
namespace Go.Proofs.YtpihldcchjoinaaGreatDoor.W07
set_option maxRecDepth 100000
open Go Go.RowKit Go.Proofs.YtpihldcchjoinaaGreatDoor.Strs Go.Proofs.YtpihldcchjoinaaGreatDoor.Recs Go.Proofs.YtpihldcchjoinaaGreatDoor.M07 Go.Proofs.YtpihldcchjoinaaGreatDoor.Maps Go.Proofs.YtpihldcchjoinaaGreatDoor.Range
open Go.Proofs.YtpihldcchjoinaaGreatDoor.M06 (Ent)
open Go.Proofs.YtpihldcchjoinaaGreatDoor.M03 (check)
open Go.Proofs.YtpihldcchjoinaaGreatDoor.W06 (Ents HandsE)
open Go.Proofs.YtpihldcchjoinaaGreatDoor.Kit (ret_str ret_bool ret_int mk_of mk_bytes ba_ext below_draws on list_full list_ne list_none list_nil bytes_nil)

section
variable {F : Nat → Prop} {w w1 w2 : World} {sb mb : Nat} {g : Int → Nod} {lv : Int → Value} {last : Int} {m : Nat}
/-- why nothing can stand in a node -/
def dirN (x : Nod) : Int := if x.kind = 0 then 5 else if x.kind = 1 then 0 else 7
set_option maxHeartbeats 1000000 in
theorem checkDir_any (h : Mem F w sb mb g lv last m) (n : Int) : Calls Tryz.prog 83 #[.pointer (some ⟨sb, 0, none⟩), .int .i64 n] w fun e w' => e = .returned (.int .i64 (dirN (g n))) ∧ Below w.heap.size w w' := by
  obtain ⟨A, c, -, hc⟩ := h.node_ n
  have HC := Lib.hid hc
  have hf := nod_kind (g n).kind (g n).up ⟨(g n).data.toArray⟩ A (g n).list.length c
  have HD : Hid (dirN (g n) = if (g n).kind = 0 then 5 else if (g n).kind = 1 then 0 else 7) := rfl
  clear hc h
  generalize dirN (g n) = r at *
  generalize (g n).kind = k at *
  generalize (g n).up = up at *
  generalize (g n).data = data at *
  generalize (g n).list.length = ln at *
  by_cases h0 : k = 0
  · have HX : Hid (r = 5) := HD.out.trans (if_pos h0)
    subst h0
    go_enter Tryz.func83, Tryz.ntmps83
    go_wp2_with fail
    refine HC.out.mono ?_
    rintro e w1 ⟨rfl, hb⟩
    go_wp2_with fail
    go_ret
    exact ⟨ret_int HX.out.symm, hb⟩
  · by_cases h1 : k = 1
    · have HX : Hid (r = 0) := HD.out.trans ((if_neg h0).trans (if_pos h1))
      subst h1
      go_enter Tryz.func83, Tryz.ntmps83
      go_wp2_with fail
      refine HC.out.mono ?_
      rintro e w1 ⟨rfl, hb⟩
      go_wp2_with fail
      go_ret
      exact ⟨ret_int HX.out.symm, hb⟩
    · have HX : Hid (r = 7) := HD.out.trans ((if_neg h0).trans (if_neg h1))
      have t0 : (k == 0) = false := by simpa using h0
      have t1 : (k == 1) = false := by simpa using h1
      clear h0 h1
      go_enter Tryz.func83, Tryz.ntmps83
      go_wp2_with fail
      refine HC.out.mono ?_
      rintro e w1 ⟨rfl, hb⟩
      go_wp2_with fail
      go_ret
      exact ⟨ret_int HX.out.symm, hb⟩
set_option maxHeartbeats 1000000 in
theorem checkData_any (kind : Int) (s : ByteArray) (w : World) :
    Calls Tryz.prog 52 #[.int .i64 kind, .string s] w fun e w' => e = .returned (.int .i64 (mayErr kind s.data.toList)) ∧ w' = w := by
  have HL := Lib.hid (Lib.size_eq s)
  by_cases hk : kind = 1 ∨ kind = 2 ∨ kind = 3
  · have HM : Hid (mayErr kind s.data.toList = if (kind = 1 ∧ s.data.toList ≠ []) ∨ (kind = 3 ∧ s.data.toList = []) then 3 else if 65536 < s.data.toList.length then 4 else 0) := if_neg (by omega)
    by_cases h0 : 0 < s.size
    · have hf := list_full h0
      have hn := list_ne h0
      have hne : s.data.toList ≠ [] := Kit.bytes_ne h0
      have HX : Hid (kind ≠ 1 → mayErr kind s.data.toList = if 65536 < s.data.toList.length then 4 else 0) := fun h1 => HM.out.trans (if_neg (by rintro (e | e); exact h1 e.1; exact hne e.2))
      have HY : Hid (kind = 1 → mayErr kind s.data.toList = 3) := fun h1 => HM.out.trans (if_pos (Or.inl ⟨h1, hne⟩))
      rw [← HL.out] at HX
      clear hne HM
      generalize mayErr kind s.data.toList = r at *
      rcases hk with rfl | rfl | rfl
      · go_enter Tryz.func52, Tryz.ntmps52
        go_wp2_with fail
        go_ret
        exact ⟨ret_int (HY.out (by trivial)).symm, rfl⟩
      all_goals
        by_cases hbig : (65536 : Int) < s.size
        · have HZ : Hid (r = 4) := (HX.out (by decide)).trans (if_pos (by omega))
          go_enter Tryz.func52, Tryz.ntmps52
          go_wp2_with fail
          go_ret
          exact ⟨ret_int HZ.out.symm, rfl⟩
        · have HZ : Hid (r = 0) := (HX.out (by decide)).trans (if_neg (by omega))
          go_enter Tryz.func52, Tryz.ntmps52
          go_wp2_with fail
          go_ret
          exact ⟨ret_int HZ.out.symm, rfl⟩
    · have hf := list_none h0
      have hn := list_nil h0
      have hne : s.data.toList = [] := bytes_nil h0
      have hz : ¬ (65536 : Int) < s.size := by omega
      have HX : Hid (kind ≠ 3 → mayErr kind s.data.toList = 0) := fun h1 => HM.out.trans ((if_neg (by rintro (e | e); exact e.2 hne; exact h1 e.1)).trans (if_neg (by rw [hne]; simp)))
      have HY : Hid (kind = 3 → mayErr kind s.data.toList = 3) := fun h1 => HM.out.trans (if_pos (Or.inr ⟨h1, hne⟩))
      clear hne HM HL
      generalize mayErr kind s.data.toList = r at *
      rcases hk with rfl | rfl | rfl
      all_goals
        go_enter Tryz.func52, Tryz.ntmps52
        go_wp2_with fail
        go_ret
        exact ⟨ret_int (by first | exact (HX.out (by decide)).symm | exact (HY.out (by trivial)).symm), rfl⟩
  · have HX : Hid (mayErr kind s.data.toList = 2) := if_pos (by omega)
    have t1 : (kind == 1) = false := by simp; omega
    have t2 : (kind == 2) = false := by simp; omega
    have t3 : (kind == 3) = false := by simp; omega
    have k1 : (kind != 1) = true := by simp; omega
    have k2 : (kind != 2) = true := by simp; omega
    have k3 : (kind != 3) = true := by simp; omega
    clear hk
    generalize mayErr kind s.data.toList = r at *
    go_enter Tryz.func52, Tryz.ntmps52
    go_wp2_with fail
    go_ret
    exact ⟨ret_int HX.out.symm, rfl⟩
/-- a node's list, as Find is asked for a name in it -/
theorem Mem.find_ (h : Mem F w sb mb g lv last m) (hs : Short g) (n : Int) (s : ByteArray) : ∃ A c, lv n = .slice A (g n).list.length c ∧
    (Calls Tryz.prog 77 #[.pointer (some ⟨sb, 0, none⟩), .int .i64 n] w fun e w' => e = .returned (.agg #[.int .i64 (g n).kind, .int .i64 (g n).up, .string ⟨(g n).data.toArray⟩, .slice A (g n).list.length c]) ∧ Below w.heap.size w w') ∧
    (∀ w', Below w.heap.size w w' → Calls Tryz.prog 85 #[.slice A (g n).list.length c, .string s] w' fun e w2 => e = .returned (.tuple #[.int .i64 (M06.find (M06.all (g n).list) s.data.toList).1, .bool (M06.find (M06.all (g n).list) s.data.toList).2]) ∧ Below w'.heap.size w' w2) ∧
    (∀ w, (Instr.field 96 (.agg #[.int .i64 (g n).kind, .int .i64 (g n).up, .string ⟨(g n).data.toArray⟩, .slice A (g n).list.length c]) 3).run Tryz.prog w = .ok (.slice A (g n).list.length c) w) := by
  obtain ⟨A, c, e, hc⟩ := h.node_ n
  have hE := h.list n
  rw [e] at hE
  have hl := hs n
  exact ⟨A, c, e, hc, fun w' hb => W06.find_any _ _ w' s ((hE.below hb).more hb.size) (by omega), nod_list _ _ _ _ _ _⟩
/-- why no new node can stand in a directory by a name -/
def placeN (x : Nod) (s : Bytes) : Int := if dirN x ≠ 0 then dirN x else if check s ≠ 0 then check s else if (M06.find (M06.all x.list) s).2 = true then 6 else 0
set_option maxHeartbeats 2000000 in
theorem checkPlace_any (h : Mem F w sb mb g lv last m) (hs : Short g) (n : Int) (s : ByteArray) : Calls Tryz.prog 51 #[.pointer (some ⟨sb, 0, none⟩), .int .i64 n, .string s] w fun e w' => e = .returned (.int .i64 (placeN (g n) s.data.toList)) ∧ Below w.heap.size w w' := by
  have HD := Lib.hid (checkDir_any h n)
  have HK := Lib.hid (fun w' : World => W03.check_free s w')
  have HF := Lib.hid (fun (w' : World) (hb : Below w.heap.size w w') => (h.below hb).find_ hs n s)
  have HP : Hid (placeN (g n) s.data.toList = if dirN (g n) ≠ 0 then dirN (g n) else if check s.data.toList ≠ 0 then check s.data.toList else if (M06.find (M06.all (g n).list) s.data.toList).2 = true then 6 else 0) := rfl
  clear h hs
  generalize placeN (g n) s.data.toList = r at *
  generalize (M06.find (M06.all (g n).list) s.data.toList).2 = fd at *
  generalize (M06.find (M06.all (g n).list) s.data.toList).1 = fn at *
  generalize dirN (g n) = rd at *
  generalize check s.data.toList = rc at *
  by_cases hd : rd = 0
  · have HP : Hid (r = if rc ≠ 0 then rc else if fd = true then 6 else 0) := HP.out.trans (if_neg (show ¬ rd ≠ 0 from fun e => e hd))
    subst hd
    by_cases hc : rc = 0
    · have HP : Hid (r = if fd = true then 6 else 0) := HP.out.trans (if_neg (show ¬ rc ≠ 0 from fun e => e hc))
      subst hc
      go_enter Tryz.func51, Tryz.ntmps51
      go_wp2_with fail
      refine HD.out.mono ?_
      rintro e w1 ⟨rfl, hb⟩
      have B1 := Lib.hid hb
      clear hb
      go_wp2_with fail
      refine (HK.out w1).mono ?_
      rintro e w2 ⟨rfl, hb⟩
      have B2 := Lib.hid (on B1.out hb)
      clear hb
      obtain ⟨A, c, -, hn, hfd, hfl⟩ := HF.out w2 B2.out
      have HN := Lib.hid hn
      have HFD := Lib.hid hfd
      clear hn hfd
      go_wp2_with fail
      refine HN.out.mono ?_
      rintro e w3 ⟨rfl, hb⟩
      have HFD := Lib.hid (HFD.out w3 hb)
      have B3 := Lib.hid (on B2.out hb)
      clear hb
      go_wp2_with fail
      refine HFD.out.mono ?_
      rintro e w4 ⟨rfl, hb⟩
      have B4 := Lib.hid (on B3.out hb)
      clear hb HN HFD hfl HF
      cases fd with
      | true =>
        have HX : Hid (r = 6) := HP.out
        go_wp2_with fail
        go_ret
        exact ⟨ret_int HX.out.symm, B4.out⟩
      | false =>
        have HX : Hid (r = 0) := HP.out
        go_wp2_with fail
        go_ret
        exact ⟨ret_int HX.out.symm, B4.out⟩
    · have HX : Hid (r = rc) := HP.out.trans (if_pos hc)
      have t1 : (rc == 0) = false := by simpa using hc
      go_enter Tryz.func51, Tryz.ntmps51
      go_wp2_with fail
      refine HD.out.mono ?_
      rintro e w1 ⟨rfl, hb⟩
      have B1 := Lib.hid hb
      clear hb
      go_wp2_with fail
      refine (HK.out w1).mono ?_
      rintro e w2 ⟨rfl, hb⟩
      have B2 := Lib.hid (on B1.out hb)
      clear hb
      go_wp2_with fail
      go_ret
      exact ⟨ret_int HX.out.symm, B2.out⟩
  · have HX : Hid (r = rd) := HP.out.trans (if_pos hd)
    have t1 : (rd == 0) = false := by simpa using hd
    go_enter Tryz.func51, Tryz.ntmps51
    go_wp2_with fail
    refine HD.out.mono ?_
    rintro e w1 ⟨rfl, hb⟩
    have B1 := Lib.hid hb
    clear hb
    go_wp2_with fail
    go_ret
    exact ⟨ret_int HX.out.symm, B1.out⟩
end
end Go.Proofs.YtpihldcchjoinaaGreatDoor.W07
/-
  Layer 7 (tree), walks: the landed code's New and Set; what it is that a pointer leads to a tree. The bounds stand in the statements.
-/
namespace Go.Proofs.YtpihldcchjoinaaGreatDoor.W07
set_option maxRecDepth 100000
open Go Go.RowKit Go.Proofs.YtpihldcchjoinaaGreatDoor.Strs Go.Proofs.YtpihldcchjoinaaGreatDoor.Recs Go.Proofs.YtpihldcchjoinaaGreatDoor.M07 Go.Proofs.YtpihldcchjoinaaGreatDoor.Maps Go.Proofs.YtpihldcchjoinaaGreatDoor.Range
open Go.Proofs.YtpihldcchjoinaaGreatDoor.M06 (Ent)
open Go.Proofs.YtpihldcchjoinaaGreatDoor.M03 (check)
open Go.Proofs.YtpihldcchjoinaaGreatDoor.W06 (Ents HandsE)
open Go.Proofs.YtpihldcchjoinaaGreatDoor.Kit (ret_str ret_bool ret_int mk_of mk_bytes ba_ext below_draws on list_full list_ne list_none list_nil bytes_nil)

/-- in w the pointer v leads to a tree that reads as t and lies in the blocks of F -/
def Rep (F : Nat → Prop) (w : World) (v : Value) (t : Tr) : Prop := Right t ∧ ∃ sb mb lv, v = .pointer (some ⟨sb, 0, none⟩) ∧ Mem F w sb mb (plainN t) lv t.last t.L.length
section
variable {F : Nat → Prop} {w w' w1 w2 : World} {v : Value} {t : Tr}
theorem plain_short (hs : Small t) : Short (plainN t) := fun n => by
  show (listed t n).length ≤ _
  unfold listed
  have h1 := hs.1
  split
  · have := M07.list_len t.L n; omega
  · simp
theorem Rep.keep (h : Rep F w v t) (hk : ∀ k, F k → w'.heap[k]? = w.heap[k]?) (hs : w.heap.size ≤ w'.heap.size) : Rep F w' v t := by
  obtain ⟨hR, sb, mb, lv, e, h⟩ := h
  exact ⟨hR, sb, mb, lv, e, h.keep hk hs⟩
theorem Rep.low (h : Rep F w v t) : ∀ k, F k → k < w.heap.size := by
  obtain ⟨hR, sb, mb, lv, e, h⟩ := h
  exact h.low
/-- nothing but new memory has turned -/
theorem Rep.wrote (h : Rep F w v t) (hb : Below w.heap.size w w') : Wrote Rep F v t w w' :=
  ⟨F, h.keep (fun k hk => hb.block k (h.low k hk)) hb.size, Turns.new hb, fun _ => Or.inl⟩
theorem plain_new (n : Int) : plainN M07.new n = if n = 1 then ⟨1, 1, [], []⟩ else nod0 := by
  by_cases e : n = 1
  · subst e; rfl
  · rw [if_neg e]
    have h : nodeAt M07.new.L n = M07.zero := by
      show (if (1 : Int) = n then _ else _) = _
      rw [if_neg (fun h => e h.symm)]; rfl
    unfold plainN listed
    rw [h]; rfl
theorem mem_new {w w1 : World} {mb : Nat} (hmap : MapIs w1 Tryz.prog 3 mb (upd (fun _ => none) 1 (some (.agg #[.int .i64 1, .int .i64 1, .string ⟨#[]⟩, .slice none 0 0]))) 1) (hb : w.heap.size ≤ mb) :
    Mem (fun k => w.heap.size ≤ k ∧ k < w1.heap.size + 1) (w1.alloc (.cells #[.map (some mb), .int .i64 1] 99)) w1.heap.size mb (plainN M07.new) (fun _ => .slice none 0 0) 1 1 := by
  have hlt := hmap.lt
  refine ⟨heap_top _ _, ⟨by omega, by omega⟩, ⟨hb, by omega⟩, fun k hk => by rw [World.size_alloc]; exact hk.2, (hmap.alloc _).as (fun i => ?_) rfl, fun n hn => ⟨?_, rfl⟩, fun n => ?_, fun n b o c d _ e => by cases e⟩
  · unfold upd held
    rw [plain_new]
    by_cases e : i = 1
    · subst e; rfl
    · simp [e, nod0]
  · rw [plain_new] at hn ⊢
    by_cases e : n = 1
    · subst e; exact absurd hn (by decide)
    · rw [if_neg e]
  · rw [plain_new]
    by_cases e : n = 1
    · rw [if_pos e]; exact recs_nil _ _ _ _
    · rw [if_neg e]; exact recs_nil _ _ _ _
set_option maxHeartbeats 1000000 in
theorem new_any (w : World) : Calls Tryz.prog 24 #[] w fun e w' => ∃ v F, e = .returned v ∧ Rep F w' v M07.new ∧ (∀ k, F k → w.heap.size ≤ k) ∧ Below w.heap.size w w' := by
  have hmm := @run_makeMap Tryz.prog
  have hst := (map_made w Tryz.prog 3).store (t := 97) (e := 96) key_under map_under (by decide) (n := 1) (by decide) (.agg #[.int .i64 1, .int .i64 1, .string ⟨#[]⟩, .slice none 0 0])
  obtain ⟨w1, hrun, map1, turn1⟩ := hst
  have M1 := Lib.hid (mem_new (w := w) map1 (Nat.le_refl _))
  have B1 : Hid (Below w.heap.size w w1) := ((Below.refl w.heap.size w).alloc (Nat.le_refl _) _).grown turn1.grown (by simp) (fun k hk => by cases hk; exact Nat.le_refl _)
  clear map1 turn1
  go_enter Tryz.func24, Tryz.ntmps24
  go_wp2_with fail
  go_ret
  exact ⟨_, _, rfl, ⟨new_right, _, _, _, rfl, M1.out⟩, fun _ hk => hk.1, B1.out.alloc B1.out.size _⟩
theorem open_data {sb mb : Nat} {g : Int → Nod} {lv : Int → Value} {last : Int} {m : Nat} (h : Mem F w sb mb g lv last m) (x : Nod) (u : Value) (s : ByteArray) :
    Mem F ((w.alloc (.cells #[.int .i64 x.kind, .int .i64 x.up, .string ⟨x.data.toArray⟩, u] 96)).setCell ⟨w.heap.size, 2, none⟩ (.string s)) sb mb g lv last m ∧ NodBox ((w.alloc (.cells #[.int .i64 x.kind, .int .i64 x.up, .string ⟨x.data.toArray⟩, u] 96)).setCell ⟨w.heap.size, 2, none⟩ (.string s)) w.heap.size { x with data := s.data.toList } u ∧ Below w.heap.size w ((w.alloc (.cells #[.int .i64 x.kind, .int .i64 x.up, .string ⟨x.data.toArray⟩, u] 96)).setCell ⟨w.heap.size, 2, none⟩ (.string s)) := by
  have hB : Below w.heap.size w ((w.alloc (.cells #[.int .i64 x.kind, .int .i64 x.up, .string ⟨x.data.toArray⟩, u] 96)).setCell ⟨w.heap.size, 2, none⟩ (.string s)) := ((Below.refl _ _).alloc (Nat.le_refl _) _).setCell (Nat.le_refl _) _
  exact ⟨h.below hB, (NodBox.new w x u).set2 s, hB⟩
theorem with_len (t : Tr) (x : Nd) : (withNode t x).L.length = t.L.length := by show (t.L.map _).length = _; rw [List.length_map]
set_option maxHeartbeats 4000000 in
theorem set_any (h : Rep F w v t) (hs : Small t) (n : Int) (x : ByteArray) : Calls Tryz.prog 100 #[v, .int .i64 n, .string x] w fun e w' => e = .returned (.int .i64 (M07.set t n x.data.toList).2) ∧ Wrote Rep F v (M07.set t n x.data.toList).1 w w' := by
  have hR := Lib.hid h
  obtain ⟨hr, sb, mb, lv, rfl, hM⟩ := h
  have HR := Lib.hid hr
  have H := Lib.hid hM
  obtain ⟨A, c, e, hc⟩ := hM.node_ n
  have HC := Lib.hid hc
  have HS : Hid (M07.set t n x.data.toList = if (nodeAt t.L n).kind = 0 then (t, 5) else if (nodeAt t.L n).kind = 1 then (t, 8) else if mayErr (nodeAt t.L n).kind x.data.toList ≠ 0 then (t, mayErr (nodeAt t.L n).kind x.data.toList) else (withNode t { nodeAt t.L n with data := x.data.toList }, 0)) := rfl
  have HK : Hid ((nodeAt t.L n).kind = (plainN t n).kind) := rfl
  rw [HK.out] at HS
  have HE := Lib.hid e
  have hm := hs.1
  clear hr hM hc hs e
  have HL : Hid ((plainN t n).list.length = (plainN t n).list.length) := rfl
  generalize hln : (plainN t n).list.length = ln at HC HE
  have HLN := Lib.hid hln
  clear hln HL
  by_cases h0 : (plainN t n).kind = 0
  · have HX : Hid (M07.set t n x.data.toList = (t, 5)) := HS.out.trans (if_pos h0)
    rw [h0] at HC
    clear HS HK h0
    generalize (plainN t n).up = un at *
    generalize (plainN t n).data = dn at *
    go_enter Tryz.func100, Tryz.ntmps100
    go_wp2_with fail
    refine HC.out.mono ?_
    rintro e w1 ⟨rfl, hb⟩
    have B1 := Lib.hid hb
    clear hb
    go_wp2_with fail
    go_ret
    rw [HX.out]
    exact ⟨rfl, hR.out.wrote (B1.out.alloc B1.out.size _)⟩
  · by_cases h1 : (plainN t n).kind = 1
    · have HX : Hid (M07.set t n x.data.toList = (t, 8)) := HS.out.trans ((if_neg h0).trans (if_pos h1))
      rw [h1] at HC
      clear HS HK h0 h1
      generalize (plainN t n).up = un at *
      generalize (plainN t n).data = dn at *
      go_enter Tryz.func100, Tryz.ntmps100
      go_wp2_with fail
      refine HC.out.mono ?_
      rintro e w1 ⟨rfl, hb⟩
      have B1 := Lib.hid hb
      clear hb
      go_wp2_with fail
      go_ret
      rw [HX.out]
      exact ⟨rfl, hR.out.wrote (B1.out.alloc B1.out.size _)⟩
    · have HS : Hid (M07.set t n x.data.toList = if mayErr (plainN t n).kind x.data.toList ≠ 0 then (t, mayErr (plainN t n).kind x.data.toList) else (withNode t { nodeAt t.L n with data := x.data.toList }, 0)) := HS.out.trans ((if_neg h0).trans (if_neg h1))
      have HD := Lib.hid (fun w' : World => checkData_any (plainN t n).kind x w')
      have t0 : ((plainN t n).kind == 0) = false := by simpa using h0
      have t1 : ((plainN t n).kind == 1) = false := by simpa using h1
      by_cases hme : mayErr (plainN t n).kind x.data.toList = 0
      · have HX : Hid (M07.set t n x.data.toList = (withNode t { nodeAt t.L n with data := x.data.toList }, 0)) := HS.out.trans (if_neg (show ¬ mayErr (plainN t n).kind x.data.toList ≠ 0 from fun e => e hme))
        have HP := Lib.hid (set_plain HR.out (x := x.data.toList) h0 h1 hme)
        have HRR : Hid (Right (withNode t { nodeAt t.L n with data := x.data.toList })) := by
          have := set_right HR.out (n := n) (data := x.data.toList)
          rw [HX.out] at this
          exact this
        have H0 := Lib.hid h0
        rw [hme] at HD
        clear HS hme h0 h1
        obtain ⟨g, hg⟩ : ∃ g, plainN t = g := ⟨_, rfl⟩
        rw [hg] at HP HLN H H0 HC HD t0 t1
        clear hg HK
        have wfn := Lib.hid (H.out.wf H0.out)
        go_enter Tryz.func100, Tryz.ntmps100
        go_wp2_with fail
        refine HC.out.mono ?_
        rintro e w1 ⟨rfl, hb⟩
        have B1 := Lib.hid hb
        have M1 := Lib.hid (H.out.below hb)
        clear hb
        go_wp2_with fail
        refine (HD.out _).mono ?_
        rintro e w2 ⟨rfl, hw⟩
        have hw := hw.symm
        subst hw
        obtain ⟨q1, q2, q5⟩ := open_data M1.out (g n) (.slice A ln c) x
        obtain ⟨w3, hw3⟩ : ∃ w3, (w1.alloc (.cells #[.int .i64 (g n).kind, .int .i64 (g n).up, .string ⟨(g n).data.toArray⟩, .slice A ln c] 96)).setCell ⟨w1.heap.size, 2, none⟩ (.string x) = w3 := ⟨_, rfl⟩
        rw [hw3] at q1 q2 q5
        have M3 := Lib.hid q1
        have B3 := Lib.hid q5
        have y0 := q2.c0
        have y1 := q2.c1
        have y2 : w3.cell? ⟨w1.heap.size, 2, none⟩ = some (.string x) := by have := q2.c2; rw [show (⟨x.data.toList.toArray⟩ : ByteArray) = x from mk_bytes x] at this; exact this
        have y3 := q2.c3
        have c0 := q1.box.c0
        clear q1 q2 q5
        have hmp : MapIs w3.drew Tryz.prog 3 mb (held g lv) t.L.length := M3.out.map.keep rfl
        have hst := hmp.store (t := 97) (e := 96) key_under map_under (by unfold maxLen; omega) (n := n) wfn.out (.agg #[.int .i64 (g n).kind, .int .i64 (g n).up, .string x, .slice A ln c])
        obtain ⟨w4, hrun, map4, turn4⟩ := hst
        go_wp2_with fail
        clear hw3
        go_region
        go_wp2_with fail
        go_ret
        have e4 : (held g lv n).isSome = true := by rw [H.out.some_ H0.out]; rfl
        rw [if_pos e4] at map4
        rw [HX.out]
        have E3 := (H.out.list n).below (on B1.out B3.out)
        have A3 := H.out.at_ n
        rw [HE.out] at E3 A3
        have M4 := Mem.stored (M3.out.keep (w' := w3.drew) (fun _ _ => rfl) (Nat.le_refl _)) (n := n) (x := { g n with data := x.data.toList }) (u := .slice A ln c) H0.out (E3.more (on B1.out B3.out).size) A3 (by
          have e5 : nodV { g n with data := x.data.toList } (.slice A ln c) = .agg #[.int .i64 (g n).kind, .int .i64 (g n).up, .string x, .slice A ln c] := by
            unfold nodV
            rw [show (⟨x.data.toList.toArray⟩ : ByteArray) = x from mk_bytes x]
          rw [e5]; exact map4) turn4
        rw [← HP.out] at M4
        rw [← with_len t { nodeAt t.L n with data := x.data.toList }] at M4
        exact ⟨rfl, F, ⟨HRR.out, sb, mb, _, rfl, M4⟩, narrow (((Turns.new (on B1.out B3.out)).trans (drew_turns _ _)).trans (turned_turns turn4 (Or.inl H.out.fm))), fun _ => Or.inl⟩
      · have HX : Hid (M07.set t n x.data.toList = (t, mayErr (plainN t n).kind x.data.toList)) := HS.out.trans (if_pos hme)
        generalize mayErr (plainN t n).kind x.data.toList = rc at *
        have s2 : (rc != 0) = true := by simpa using hme
        have s3 : (rc == 0) = false := by simpa using hme
        clear HS HK h0 h1 H HLN HE hme
        generalize (plainN t n).up = un at *
        generalize (plainN t n).data = dn at *
        generalize (plainN t n).kind = kn at *
        go_enter Tryz.func100, Tryz.ntmps100
        go_wp2_with fail
        refine HC.out.mono ?_
        rintro e w1 ⟨rfl, hb⟩
        have B1 := Lib.hid hb
        clear hb
        go_wp2_with fail
        refine (HD.out _).mono ?_
        rintro e w2 ⟨rfl, hw⟩
        have B2 : Hid (Below w.heap.size w w2) := by rw [hw]; exact B1.out.alloc B1.out.size _
        clear hw
        go_wp2_with fail
        go_ret
        rw [HX.out]
        exact ⟨rfl, hR.out.wrote B2.out⟩
end
end Go.Proofs.YtpihldcchjoinaaGreatDoor.W07
