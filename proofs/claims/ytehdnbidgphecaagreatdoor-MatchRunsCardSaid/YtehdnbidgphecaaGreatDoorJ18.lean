/-
  Texts joined, in build order, each with its own comment and its own conditions: W16RefRun, W16Finds.
-/
import Derived.Test.YtehdnbidgphecaaGreatDoorJ17
import Derived.Test.YtehdnbidgphecaaGreatDoorJ12
import Derived.Laws.ResultCell
/-
  Layer 16 (match), walk of the document's Run: where any program ends. The conditions stand in the statements.
-/
namespace Go.Proofs.YtehdnbidgphecaaGreatDoor.W16
set_option maxRecDepth 100000
open Go Go.RowKit Go.Proofs.YtehdnbidgphecaaGreatDoor.Strs Go.Proofs.YtehdnbidgphecaaGreatDoor.Recs
open Go.Proofs.YtehdnbidgphecaaGreatDoor.M15 (Inst rightP okI)
open Go.Proofs.YtehdnbidgphecaaGreatDoor.M16 (Text nexts flat2 eps takes ins idx Pass Real lack endHere Fair)
open Go.Proofs.YtehdnbidgphecaaGreatDoor.W15 (insC insA insC_len Prg rright_any numC numC_len numC_one load_ins slice_num append_num)
open Go.Proofs.YtehdnbidgphecaaGreatDoor.W14 (below_new own_form)
open Go.Proofs.YtehdnbidgphecaaGreatDoor.Kit (below_draws on byte_test)

theorem nexts_eps {x : Inst} {s : Text} {q : Nat} (h : ∀ c, takes x c = false) : nexts x s q = (eps x s.length q).map fun j => (j, q) := by
  unfold nexts
  cases s[q]? with
  | none => simp
  | some c => simp [h c]
theorem nexts_byte {x : Inst} {s : Text} {q : Nat} {c : UInt8} (he : ∀ n q, eps x n q = []) (hc : s[q]? = some c) : nexts x s q = if takes x c = true then [(x.x.toNat, q + 1)] else [] := by
  unfold nexts
  rw [he, hc]
  simp
theorem nexts_over {x : Inst} {s : Text} {q : Nat} (he : ∀ n q, eps x n q = []) (hc : s.length ≤ q) : nexts x s q = [] := by
  unfold nexts
  rw [he, List.getElem?_eq_none hc]
  rfl
section
variable {s : ByteArray} {q : Nat} {w : World}
theorem next_at {x : Inst} {m : Nat} (h : okI m x = true) (hq : q ≤ s.size) (hs : s.size ≤ 1000000) : Calls Tryz.prog 28 #[.agg (insA x), .string s, .int .i64 q] w (GivesInts w (flat2 (nexts x s.data.toList q))) := by
  have hl : s.data.toList.length = s.size := (Lib.size_eq s).symm
  obtain ⟨k, t, X, Y⟩ := x
  by_cases k7 : k = 7
  · subst k7
    rw [nexts_eps (fun c => M16.match_takes _ c rfl)]
    exact next_match t X Y
  · have hx := M16.okI_x h k7
    simp only at hx
    obtain ⟨jx, rfl⟩ : ∃ jx : Nat, X = (jx : Int) := ⟨X.toNat, by omega⟩
    have hk : k = 1 ∨ k = 2 ∨ k = 3 ∨ k = 4 ∨ k = 5 ∨ k = 6 ∨ k = 8 := by omega
    have hbyte : (k = 1 ∨ k = 2 ∨ k = 3) → ∀ n q, eps ⟨k, t, (jx : Int), Y⟩ n q = [] := fun h n q => by
      rcases h with rfl | rfl | rfl <;> simp [eps]
    by_cases h123 : k = 1 ∨ k = 2 ∨ k = 3
    · by_cases hqs : q = s.size
      · rw [nexts_over (hbyte h123) (by rw [hl]; omega)]
        exact next_over t jx Y h123 hqs
      · have hql : q < s.size := by omega
        have hc : s.data.toList[q]? = some s[q] := List.getElem?_eq_getElem (by rw [hl]; exact hql)
        rw [nexts_byte (hbyte h123) hc]
        have hs62 : s.size ≤ 4611686018427387904 := by omega
        rcases h123 with rfl | rfl | rfl
        · have ht : t.size = 1 := by
            unfold okI at h
            rw [Bool.and_eq_true] at h
            simpa [M15.txtOk] using h.1
          have htk : takes ⟨1, t, (jx : Int), Y⟩ s[q] = ((t[0].toNat : Int) == (s[q].toNat : Int)) := by
            unfold takes
            rw [if_pos rfl, Kit.bytes_cons (show 0 < t.size by omega), byte_test]
            simp
          rw [htk]
          cases hcc : ((t[0].toNat : Int) == (s[q].toNat : Int)) with
          | true => exact next_char t jx Y hql hs62 ht hcc
          | false => exact next_nochar t jx Y hql ht hcc
        · have htk : takes ⟨2, t, (jx : Int), Y⟩ s[q] = ((s[q].toNat : Int) != 10) := by
            unfold takes
            rw [if_neg (show ¬ (2 : Int) = 1 by decide), if_pos rfl]
            have := byte_test s[q] 10
            rw [show (((10 : UInt8).toNat : Nat) : Int) = 10 from rfl] at this
            simp [bne, this]
          rw [htk]
          cases hcc : ((s[q].toNat : Int) != 10) with
          | true => exact next_any t jx Y hql hs62 hcc
          | false => exact next_noany t jx Y hql hcc
        · have htk : takes ⟨3, t, (jx : Int), Y⟩ s[q] = M13.has t.data.toList s[q].toNat := by
            unfold takes
            rw [if_neg (show ¬ (3 : Int) = 1 by decide), if_neg (show ¬ (3 : Int) = 2 by decide), if_pos rfl]
          rw [htk]
          cases hcc : M13.has t.data.toList s[q].toNat with
          | true => exact next_set t jx Y hql hs62 hcc
          | false => exact next_noset t jx Y hql hcc
    · have hnt : ∀ c, takes ⟨k, t, (jx : Int), Y⟩ c = false := fun c => by
        unfold takes
        rw [if_neg (show ¬ k = 1 by omega), if_neg (show ¬ k = 2 by omega), if_neg (show ¬ k = 3 by omega)]
      rw [nexts_eps hnt, hl]
      rcases hk with rfl | rfl | rfl | rfl | rfl | rfl | rfl
      · omega
      · omega
      · omega
      · by_cases h0 : q = 0
        · subst h0
          exact next_begin t jx Y rfl
        · have e : eps ⟨4, t, (jx : Int), Y⟩ s.size q = [] := by simp [eps, h0]
          rw [e]
          exact next_nobegin t jx Y h0
      · by_cases h0 : q = s.size
        · have e : eps ⟨5, t, (jx : Int), Y⟩ s.size q = [jx] := by simp [eps, h0]
          rw [e]
          exact next_end t jx Y h0
        · have e : eps ⟨5, t, (jx : Int), Y⟩ s.size q = [] := by simp [eps, h0]
          rw [e]
          exact next_noend t jx Y h0
      · obtain ⟨jy, rfl⟩ : ∃ jy : Nat, Y = (jy : Int) := ⟨Y.toNat, by have := hx.2.2.2.2 rfl; omega⟩
        exact next_split t jx jy
      · exact next_jump t jx Y
end
theorem wrap_n {k : Nat} (h : k ≤ 1000000) : wrap64 (k : Int) = (k : Int) := by unfold wrap64; omega
section
variable {ops : Array Oper} {rest : List Oper} {o : Oper} {a : Act} {w : World} {Q : Exit → Act → World → Prop}
/-- make([]bool, n) -/
theorem make_op (hgd : o.guard = none) (x y : Operand) (ho : o.op = .makeSlice 37 x y) {n : Nat} (hx : a.eval x = .int .i64 n) (hy : a.eval y = .int .i64 n) (hn : n ≤ 1000000)
    (h : ∀ w' b, w.heap.size = b → Bits w' b n (fun _ => false) → Below w.heap.size w w' → w'.heap.size = w.heap.size + 1 → wpList Tryz.prog ops Q rest (a.put o.dst (.slice (some ⟨b, 0, none⟩) n n)) w') : wpList Tryz.prog ops Q (o :: rest) a w :=
  wpList_plain hgd fun _ hK => by
    unfold Oper.wp execOp
    simp only [ho, hx, hy, make_bits w hn, Sem.run_bind, Sem.run_pure, Result.andThen_ok]
    exact hK _ _ (h _ _ rfl (new_bits w n _) (below_new w _) (World.size_alloc w _))
end
theorem low_of {p q z N S x : Nat} (h1 : p + z ≤ N) (h2 : q ≤ S) (h3 : S + 1 = z) (h4 : p + q = x) : x < N := by omega
theorem flat2_at : ∀ (l : List M16.Mark) (j : Nat) (h : j < l.length), (flat2 l)[2 * j]? = some (l[j]).1 ∧ (flat2 l)[2 * j + 1]? = some (l[j]).2
  | [], j, h => absurd h (Nat.not_lt_zero _)
  | x :: l, 0, _ => ⟨rfl, rfl⟩
  | x :: l, j + 1, h => by
    have := flat2_at l j (by simpa using h)
    unfold flat2 at *
    rw [List.flatMap_cons, show 2 * (j + 1) = 2 * j + 1 + 1 by omega]
    simpa using this
theorem eps_len (x : Inst) (n q : Nat) : (eps x n q).length ≤ 2 := by
  unfold eps
  split
  · simp
  · split
    · simp
    · split
      · split <;> simp
      · split
        · split <;> simp
        · simp
theorem nexts_len (x : Inst) (s : Text) (q : Nat) : (nexts x s q).length ≤ 3 := by
  have h1 := eps_len x s.length q
  unfold nexts
  rw [List.length_append, List.length_map]
  cases s[q]? with
  | none => simp only [List.length_nil]; omega
  | some c =>
    simp only
    split
    · simp only [List.length_singleton]; omega
    · simp only [List.length_nil]; omega
theorem flat2_len (l : List M16.Mark) : (flat2 l).length = 2 * l.length := by
  unfold flat2
  induction l with
  | nil => rfl
  | cons x l ih => rw [List.flatMap_cons, List.length_append, ih]; simp; omega
section
variable {w : World} {lv : Value} {L : List Inst} {s : ByteArray}
set_option maxHeartbeats 2000000 in
theorem run_none (h : Prg w.heap.size w lv L) (from_ : Int) (hb : rightP L = false ∨ from_ < 0 ∨ (s.size : Int) < from_) : Calls Tryz.prog 18 #[lv, .string s, .int .i64 from_] w (GivesInts w []) := by
  unfold GivesInts
  have HR := Lib.hid (rright_any h (Nat.le_refl _))
  obtain ⟨A, c, rfl, -, -⟩ := h.form
  obtain ⟨R, hR⟩ : ∃ R, rightP L = R := ⟨_, rfl⟩
  rw [hR] at HR hb
  clear h hR
  cases R with
  | false =>
    clear hb
    go_enter Tryz.func18, Tryz.ntmps18
    go_wp2_with fail
    refine HR.out.mono ?_
    rintro e w1 ⟨rfl, l1⟩
    have L1 := Lib.hid l1
    clear l1
    go_wp2_with fail
    go_ret
    exact ⟨_, rfl, World.ownsRow_nil _ _ _ _, L1.out⟩
  | true =>
    by_cases h0 : from_ < 0
    · clear hb
      go_enter Tryz.func18, Tryz.ntmps18
      go_wp2_with fail
      refine HR.out.mono ?_
      rintro e w1 ⟨rfl, l1⟩
      have L1 := Lib.hid l1
      clear l1
      go_wp2_with fail
      go_ret
      exact ⟨_, rfl, World.ownsRow_nil _ _ _ _, L1.out⟩
    · have h1 : (s.size : Int) < from_ := by
        rcases hb with hb | hb | hb
        · cases hb
        · exact absurd hb h0
        · exact hb
      clear hb
      go_enter Tryz.func18, Tryz.ntmps18
      go_wp2_with fail
      refine HR.out.mono ?_
      rintro e w1 ⟨rfl, l1⟩
      have L1 := Lib.hid l1
      clear l1
      go_wp2_with fail
      go_ret
      exact ⟨_, rfl, World.ownsRow_nil _ _ _ _, L1.out⟩
set_option maxHeartbeats 16000000 in
theorem run_some (h : Prg w.heap.size w lv L) (hr : rightP L = true) (hn : L.length ≤ 400) (hs : s.size ≤ 400) (f : Nat) (hf : f ≤ s.size) : Calls Tryz.prog 18 #[lv, .string s, .int .i64 f] w (GivesInts w ((M16.yields L s.data.toList f f).map Prod.snd)) := by
  unfold GivesInts
  have HR := Lib.hid (rright_any h (Nat.le_refl _))
  rw [hr] at HR
  obtain ⟨n, hnl⟩ : ∃ n, L.length = n := ⟨_, rfl⟩
  obtain ⟨gl, ol, cl, rfl, hgl, hlc, hlm⟩ : ∃ gl ol cl, lv = .slice (some ⟨gl, ol, none⟩) n cl ∧ gl < w.heap.size ∧ n ≤ cl ∧ cl ≤ maxLen := by
    obtain ⟨A, cl, rfl, h1, h2⟩ := h.form
    obtain ⟨b, o, -, rfl, hb, -⟩ := h.flat_ insC_len (by decide) (k := 0) (M16.fair_of hr).some_
    exact ⟨b, o, cl, by rw [hnl], hb, by omega, h2⟩
  unfold maxLen at hlm
  obtain ⟨S, hS⟩ : ∃ S, s.data.toList = S := ⟨_, rfl⟩
  have HSL : Hid (S.length = s.size) := by unfold Hid; rw [← hS]; exact (Lib.size_eq s).symm
  obtain ⟨z, hz⟩ : ∃ z, s.size + 1 = z := ⟨_, rfl⟩
  obtain ⟨N, hN⟩ : ∃ N, n * z = N := ⟨_, rfl⟩
  have HNN : Hid (n * z = N ∧ N ≤ 1000000 ∧ s.size + 1 = z ∧ n ≤ 400 ∧ s.size ≤ 400 ∧ L.length = n) := by
    have h1 : n * z ≤ 400 * 401 := Nat.mul_le_mul (by omega) (by omega)
    exact ⟨hN, by omega, hz, by omega, hs, hnl⟩
  have HFR := Lib.hid (M16.fair_of hr)
  have HRP := Lib.hid hr
  have HS := Lib.hid hS
  have HF := Lib.hid hf
  have HP := Lib.hid h
  have hfs : (f : Int) ≤ (s.size : Int) := by omega
  have hw1 : wrap64 ((s.size : Int) + 1) = (z : Int) := by have := wrap_n (k := s.size + 1) (by omega); rw [hz] at this; rw [← this, ← hz]; rfl
  have hw2 : wrap64 ((n : Int) * (z : Int)) = (N : Int) := by rw [← Int.natCast_mul, hN]; exact wrap_n HNN.out.2.1
  have hfN : (f : Int) < (N : Int) := by
    have h1 := M16.idx_lt (s := S) (i := 0) (q := f) (M16.fair_of hr).some_ (by rw [HSL.out]; exact hf)
    unfold idx at h1
    rw [HSL.out, hz, hnl, hN, Nat.zero_mul, Nat.zero_add] at h1
    exact Int.ofNat_lt.2 h1
  rw [hS]
  clear h hr hn hs hf hnl hgl hz hN hS
  go_enter Tryz.func18, Tryz.ntmps18
  go_wp2_with fail
  refine HR.out.mono ?_
  rintro e w1 ⟨rfl, l1⟩
  have L1 := Lib.hid l1
  clear l1
  go_wp2_with (first
    | (refine make_op (n := N) rfl (.tmp 37) (.tmp 37) rfl (congrArg (Value.int .i64) hw2) (congrArg (Value.int .i64) hw2) HNN.out.2.1 ?_; intro w2 bm e2 p2 l2 z2; have L2 := Lib.hid (on L1.out l2); have c0 := p2.cell (i := f) (by omega); have f0 := p2.free f; have P2 := Lib.hid p2; have E2 : Hid (w.heap.size ≤ bm) := (by unfold Hid; have := L1.out.size; omega); clear e2 p2 l2 z2))
  go_wp2_with fail
  have tb0 : decide ((f : Int) < 0) = false := decide_eq_false (by omega)
  have tb1 : decide (s.size < f) = false := decide_eq_false (by have := HF.out; omega)
  simp only [tb0]
  clear tb0 tb1
  have B3 : Hid (Bits (w2.setCell ⟨bm, f, none⟩ (.bool true)) bm N (fun j => if j = f then true else false)) := P2.out.put true
  have L3 : Hid (Below w.heap.size w (w2.setCell ⟨bm, f, none⟩ (.bool true))) := L2.out.setCell E2.out _
  have HI0 : Hid (idx S 0 f = f) := by unfold Hid idx; rw [Nat.zero_mul, Nat.zero_add]
  have R3 : Hid (Real L S f (fun j => if j = f then true else false) ∧ (fun j => if j = f then true else false : Nat → Bool) (idx S 0 f) = true) := by
    refine ⟨fun i q hi hq hx => ?_, by rw [HI0.out]; simp⟩
    have hx2 : idx S i q = f := by
      by_cases e : idx S i q = f
      · exact e
      · simp [e] at hx
    rw [← HI0.out] at hx2
    obtain ⟨rfl, rfl⟩ := M16.idx_inj hq (by rw [HSL.out]; exact HF.out) hx2
    exact .start
  generalize (fun j => if j = f then true else false : Nat → Bool) = fm at B3 R3
  generalize w2.setCell ⟨bm, f, none⟩ (.bool true) = w3 at B3 L3 ⊢
  clear c0 f0 P2 L2 hfs hw1 hw2 hfN HR L1
  have HC := Lib.hid (show n ≤ cl ∧ cl ≤ 9223372036854775807 from ⟨hlc, hlm⟩)
  clear hlc hlm
  go_loopg [9] (N + 1) (fun gk s9 wr => ∃ (g : Nat → Bool) (m : Bool), s9 = .bool m ∧ Hid (Bits wr bm N g) ∧ Hid (Below w.heap.size w wr) ∧ Hid (Real L S f g ∧ g (idx S 0 f) = true) ∧ Hid (m = true → lack g N < gk) ∧ Hid (m = false → M16.Shut L S g))
  case atStart => exact ⟨fm, true, rfl, B3, L3, R3, fun _ => Nat.lt_succ_of_le (M16.lack_le _ _), fun h => by cases h⟩
  case round =>
    clear B3 L3 R3
    obtain ⟨g, m, rfl, B, LL, R, HM, HSH⟩ := hrel
    cases m with
    | true =>
      cases gk with
      | zero => exact absurd (HM.out rfl) (Nat.not_lt_zero _)
      | succ gk =>
        go_wp2_with fail
        go_loopg [9, 10] n (fun g2 s9 s10 wx => ∃ (i : Nat) (g' : Nat → Bool) (m : Bool), s9 = .bool m ∧ s10 = .int .i64 i ∧ Hid (i + g2 = n) ∧ Hid (Bits wx bm N g') ∧ Hid (Below w.heap.size w wx) ∧ Hid (Pass L S f g g' m i f))
        case atStart => exact ⟨0, g, false, rfl, rfl, by unfold Hid; omega, B, LL, Pass.start R.out.1⟩
        case round =>
          clear B LL
          obtain ⟨i, g', m, rfl, rfl, hig, B, LL, PS⟩ := hrel
          cases gk with
          | zero =>
            have hi : i = n := by have := hig.out; omega
            subst hi
            have ti : ¬ (i : Int) < (i : Int) := by omega
            have PS2 : Hid (Pass L S f g g' m L.length f) := by have := PS.out; rwa [← HNN.out.2.2.2.2.2] at this
            clear PS hig
            go_wp2_with fail
            go_roundg gk
            case measure => omega
            case rel =>
              refine ⟨g', m, rfl, B, LL, ⟨PS2.out.real, PS2.out.mono _ R.out.2⟩, fun hm => ?_, fun hm => PS2.out.shut hm⟩
              have h1 := PS2.out.less hm
              have h2 := HM.out trivial
              rw [HNN.out.2.2.2.2.2, HSL.out, HNN.out.2.2.1, HNN.out.1] at h1
              omega
          | succ g2 =>
            have hi : i < n := by have := hig.out; omega
            have ti : (i : Int) < (n : Int) := by omega
            have HI := Lib.hid hi
            have hwi : Hid (wrap64 ((i : Int) + 1) = ((i + 1 : Nat) : Int)) := wrap_n (k := i + 1) (by have := HNN.out; omega)
            obtain ⟨p, hp⟩ : ∃ p, i * z = p := ⟨_, rfl⟩
            have HPZ := Lib.hid hp
            have hpN : p + z ≤ N := by
              have : (i + 1) * z ≤ n * z := Nat.mul_le_mul_right _ hi
              rw [Nat.succ_mul, hp, HNN.out.1] at this
              exact this
            have HM1 : Hid (wrap64 ((i : Int) * (z : Int)) = (p : Int)) := by unfold Hid; rw [← Int.natCast_mul, hp]; exact wrap_n (Nat.le_trans (Nat.le_trans (Nat.le_add_right p z) hpN) HNN.out.2.1)
            have HPN := Lib.hid hpN
            have hil : i < L.length := by rw [HNN.out.2.2.2.2.2]; exact hi
            have HOK := Lib.hid (M16.ins_ok HRP.out hil)
            have HCL : Hid (∀ w', Below w.heap.size w w' → ∀ j, j < 4 → w'.cell? ⟨gl, ol + i * 4 + j, none⟩ = (insC (ins L i))[j]?) := fun w' hb => by
              obtain ⟨b, o, hl, e, -, hc⟩ := (HP.out.below hb).flat_ insC_len (by decide) (k := i) hi
              cases e
              have hii : ins L i = L[i] := by unfold ins; rw [List.getD_eq_getElem?_getD, List.getElem?_eq_getElem hl]; rfl
              rw [hii]; exact hc
            clear hp hpN hil hi
            go_wp2_with fail
            go_loopg [9, 11] (s.size + 1 - f) (fun g3 s9 s11 wy => ∃ (q : Nat) (g' : Nat → Bool) (m : Bool), s9 = .bool m ∧ s11 = .int .i64 q ∧ Hid (q + g3 = s.size + 1) ∧ Hid (Bits wy bm N g') ∧ Hid (Below w.heap.size w wy) ∧ Hid (Pass L S f g g' m i q))
            case atStart => exact ⟨f, g', m, rfl, rfl, by unfold Hid; have := HF.out; omega, B, LL, PS⟩
            case round =>
              clear B LL PS
              obtain ⟨q, g', m, rfl, rfl, hqg, B, LL, PS⟩ := hrel
              cases gk with
              | zero =>
                have hq : q = s.size + 1 := by have := hqg.out; omega
                have tq : ¬ (q : Int) ≤ (s.size : Int) := by omega
                have PS2 : Hid (Pass L S f g g' m (i + 1) f) := by
                  have := PS.out
                  rw [hq, ← HSL.out] at this
                  exact this.row
                clear PS hq hqg
                go_wp2_with fail
                go_roundg g2
                case measure => omega
                case rel => exact ⟨i + 1, g', m, rfl, by first | rfl | exact congrArg (Value.int .i64) hwi.out, by have := hig.out; unfold Hid; omega, B, LL, PS2⟩
              | succ g3 =>
                have hq : q ≤ s.size := by have := hqg.out; omega
                have tq : (q : Int) ≤ (s.size : Int) := by omega
                have HQ := Lib.hid hq
                have hwq : Hid (wrap64 ((q : Int) + 1) = ((q + 1 : Nat) : Int)) := wrap_n (k := q + 1) (by have := HNN.out; omega)
                obtain ⟨x, hx⟩ : ∃ x, p + q = x := ⟨_, rfl⟩
                have hxi : idx S i q = x := by unfold idx; rw [HSL.out, HNN.out.2.2.1, HPZ.out, hx]
                have hxN : x < N := low_of HPN.out hq HNN.out.2.2.1 hx
                have HM2 : Hid (wrap64 ((p : Int) + (q : Int)) = (x : Int)) := by unfold Hid; rw [← Int.natCast_add, hx]; exact wrap_n (Nat.le_trans (Nat.le_of_lt hxN) HNN.out.2.1)
                have hxl : (x : Int) < (N : Int) := Int.ofNat_lt.2 hxN
                have c0 := B.out.cell hxN
                have HXI := Lib.hid hxi
                obtain ⟨bq, hbq⟩ : ∃ bq, g' x = bq := ⟨_, rfl⟩
                rw [hbq] at c0
                have HBQ := Lib.hid hbq
                clear hx hxi hxN hbq hq
                cases bq with
                | false =>
                  have PS2 : Hid (Pass L S f g g' m i (q + 1)) := PS.out.skip (by rw [HXI.out]; exact HBQ.out)
                  clear PS
                  have hm1 := HM1.out
                  have hm2 := HM2.out
                  go_wp2_with fail
                  clear hm1 hm2
                  go_roundg g3
                  case measure => omega
                  case rel => exact ⟨q + 1, g', m, rfl, by first | rfl | exact congrArg (Value.int .i64) hwq.out, by have := hqg.out; unfold Hid; omega, B, LL, PS2⟩
                | true =>
                  have hrch : Hid (M16.Reach L S f i q) := PS.out.real i q (by rw [HNN.out.2.2.2.2.2]; exact HI.out) (by rw [HSL.out]; exact HQ.out) (by rw [HXI.out]; exact HBQ.out)
                  have HNX : Hid (∀ w, Calls Tryz.prog 28 #[.agg (insA (ins L i)), .string s, .int .i64 q] w (GivesInts w (flat2 (nexts (ins L i) S q)))) := fun w => by
                    have := next_at (s := s) (w := w) HOK.out HQ.out (by have := HNN.out; omega)
                    rwa [HS.out] at this
                  obtain ⟨P, hP⟩ : ∃ P, nexts (ins L i) S q = P := ⟨_, rfl⟩
                  have HPE := Lib.hid hP
                  have HPL : Hid (P.length ≤ 3) := by unfold Hid; rw [← hP]; exact nexts_len _ _ _
                  rw [hP] at HNX
                  clear hP
                  have hm1 := HM1.out
                  have hm2 := HM2.out
                  go_wp2_with (first | (refine load_ins rfl (.tmp 67) rfl rfl (r := ins L i) (HCL.out _ LL.out) ?_))
                  clear hm1 hm2
                  refine (HNX.out _).mono ?_
                  rintro e wn ⟨v, rfl, o1, l1⟩
                  have N1 := Recs.of_own numC_len rfl o1
                  have LN := Lib.hid (on LL.out l1)
                  have BN := Lib.hid (B.out.below l1)
                  have hown := o1.lt
                  obtain ⟨A1, c1, rfl, hc1, hc2⟩ := N1.form
                  have HOB : Hid (∀ ad : Addr, A1 = some ad → bm < ad.block) := fun ad had => by
                    subst had
                    exact Nat.lt_of_lt_of_le B.out.lt (hown ad.block rfl).1
                  clear hown
                  unfold maxLen at hc2
                  obtain ⟨B0, hB0⟩ : ∃ B0, wn.heap.size = B0 := ⟨_, rfl⟩
                  rw [hB0] at N1
                  obtain ⟨F, hF⟩ : ∃ F, flat2 P = F := ⟨_, rfl⟩
                  have HFE := Lib.hid hF
                  obtain ⟨k, hk⟩ : ∃ k, P.length = k := ⟨_, rfl⟩
                  obtain ⟨kk, hkk⟩ : ∃ kk, 2 * k = kk := ⟨_, rfl⟩
                  have hfl : F.length = kk := by rw [← hF, flat2_len, hk, hkk]
                  have HKK := Lib.hid (show 2 * k = kk ∧ P.length = k ∧ F.length = kk from ⟨hkk, hk, hfl⟩)
                  rw [hF, hfl] at N1 hc1 ⊢
                  have NN := Lib.hid N1
                  have HCC := Lib.hid (show kk ≤ c1 ∧ c1 ≤ 9223372036854775807 from ⟨hc1, hc2⟩)
                  clear o1 l1 N1 hB0 hF hk hkk hfl hc1 hc2 c0 hxl B LL
                  go_wp2_with fail
                  go_loopg [9, 13] k (fun g4 s9 s13 wz => ∃ (j j0 : Nat) (g' : Nat → Bool) (m : Bool), s9 = .bool m ∧ s13 = .int .i64 j0 ∧ Hid (j + g4 = k ∧ 2 * j = j0) ∧ Hid (Bits wz bm N g') ∧ Hid (Below w.heap.size w wz) ∧ Hid (Pass L S f g g' m i q) ∧ Hid (∀ p ∈ P.take j, g' (idx S p.1 p.2) = true) ∧ Hid (Nums B0 wz (.slice A1 kk c1) F))
                  case atStart => exact ⟨0, 0, g', m, rfl, rfl, ⟨by omega, rfl⟩, BN, LN, PS, by unfold Hid; simp, NN⟩
                  case round =>
                    clear BN LN PS NN
                    obtain ⟨j, j0, g', m, rfl, rfl, hjg, B, LL, PS, HALL, NN⟩ := hrel
                    obtain ⟨j1, hj1⟩ : ∃ j1, j0 + 1 = j1 := ⟨_, rfl⟩
                    cases gk with
                    | zero =>
                      have tj : ¬ (j1 : Int) < (kk : Int) := by have := hjg.out; have := HKK.out; omega
                      have PS2 : Hid (Pass L S f g g' m i (q + 1)) := PS.out.on (by
                        have h1 := HALL.out
                        rw [List.take_of_length_le (by have := hjg.out; have := HKK.out; omega)] at h1
                        rw [HPE.out]; exact h1)
                      have hwj : wrap64 ((j0 : Int) + 1) = (j1 : Int) := by rw [← hj1]; exact wrap_n (k := j0 + 1) (by have := hjg.out; have := HKK.out; have := HPL.out; omega)
                      clear PS hjg hj1
                      go_wp2_with fail
                      go_roundg g3
                      case measure => omega
                      case rel => exact ⟨q + 1, g', m, rfl, by first | rfl | exact congrArg (Value.int .i64) hwq.out, by have := hqg.out; unfold Hid; omega, B, LL, PS2⟩
                    | succ g4 =>
                      have tj : (j1 : Int) < (kk : Int) := by have := hjg.out; have := HKK.out; omega
                      have hjk : j < P.length := by have := hjg.out; have := HKK.out; omega
                      obtain ⟨⟨a, u⟩, hau⟩ : ∃ p, P[j] = p := ⟨_, rfl⟩
                      have hjl0 : j0 < kk := by have := hjg.out; have := HKK.out; omega
                      have hjl1 : j1 < kk := by have := hjg.out; have := HKK.out; omega
                      obtain ⟨b1, o1, k1, hA, e1⟩ := nums_at NN.out hjl0
                      obtain ⟨b2, o2, k2, hA2, e2⟩ := nums_at NN.out hjl1
                      subst hA
                      injection hA2 with hA2
                      injection hA2 with hb12 ho12 _
                      subst hb12 ho12
                      have hfa := flat2_at P j hjk
                      rw [hau, HFE.out, hjg.out.2, List.getElem?_eq_getElem k1, hj1, List.getElem?_eq_getElem k2] at hfa
                      rw [Option.some.inj hfa.1] at e1
                      rw [Option.some.inj hfa.2] at e2
                      have hpm : (a, u) ∈ nexts (ins L i) S q := by rw [HPE.out, ← hau]; exact List.getElem_mem hjk
                      have HPM := Lib.hid hpm
                      have hin := M16.nexts_in HFR.out (by rw [HSL.out]; exact HQ.out) hpm
                      simp only at hin e1 e2
                      obtain ⟨pa, hpa⟩ : ∃ pa, a * z = pa := ⟨_, rfl⟩
                      have hpaN : pa + z ≤ N := by
                        have h1 : (a + 1) * z ≤ n * z := Nat.mul_le_mul_right _ (by have := hin.1; rw [HNN.out.2.2.2.2.2] at this; exact this)
                        rw [Nat.succ_mul, hpa, HNN.out.1] at h1
                        exact h1
                      obtain ⟨xa, hxa⟩ : ∃ xa, pa + u = xa := ⟨_, rfl⟩
                      have hu : u ≤ s.size := by have := hin.2; rwa [HSL.out] at this
                      have hxaN : xa < N := low_of hpaN hu HNN.out.2.2.1 hxa
                      have hidx : idx S a u = xa := by unfold idx; rw [HSL.out, HNN.out.2.2.1, hpa, hxa]
                      have HIX := Lib.hid hidx
                      have txa : (xa : Int) < (N : Int) := Int.ofNat_lt.2 hxaN
                      have c0 := B.out.cell hxaN
                      have f0 := B.out.free xa
                      obtain ⟨bq, hbq⟩ : ∃ bq, g' xa = bq := ⟨_, rfl⟩
                      rw [hbq] at c0
                      have HBX := Lib.hid hbq
                      have HTK : Hid (∀ gg : Nat → Bool, (∀ p ∈ P.take j, gg (idx S p.1 p.2) = true) → gg xa = true → ∀ p ∈ P.take (j + 1), gg (idx S p.1 p.2) = true) := fun gg h1 h2 p hp => by
                        rw [List.take_succ_eq_append_getElem hjk, List.mem_append] at hp
                        rcases hp with hp | hp
                        · exact h1 p hp
                        · simp only [List.mem_singleton] at hp
                          rw [hp, hau, HIX.out]; exact h2
                      have HNXT : Hid (j + 1 + g4 = k ∧ 2 * (j + 1) = j0 + 2) := by have := hjg.out; exact ⟨by omega, by omega⟩
                      have hjb : j0 + 2 ≤ 1000000 := by have := hjg.out; have := HKK.out; have := HPL.out; omega
                      have hw1 : wrap64 ((a : Int) * (z : Int)) = (pa : Int) := by rw [← Int.natCast_mul, hpa]; exact wrap_n (Nat.le_trans (Nat.le_trans (Nat.le_add_right pa z) hpaN) HNN.out.2.1)
                      have hw2 : wrap64 ((pa : Int) + (u : Int)) = (xa : Int) := by rw [← Int.natCast_add, hxa]; exact wrap_n (Nat.le_trans (Nat.le_of_lt hxaN) HNN.out.2.1)
                      have hwj : wrap64 ((j0 : Int) + 1) = (j1 : Int) := by rw [← hj1]; exact wrap_n (k := j0 + 1) (Nat.le_trans (Nat.le_succ _) hjb)
                      have hwj2 : Hid (wrap64 ((j0 : Int) + 2) = ((j0 + 2 : Nat) : Int)) := wrap_n (k := j0 + 2) hjb
                      have tj0 : (j0 : Int) < (kk : Int) := Int.ofNat_lt.2 hjl0
                      clear hpa hpaN hxa hu hxaN hidx hbq hjk hau hjl0 hjl1 k1 k2 hfa hpm hin hjb hj1 hjg
                      cases bq with
                      | true =>
                        have HALL2 : Hid (∀ p ∈ P.take (j + 1), g' (idx S p.1 p.2) = true) := HTK.out g' HALL.out HBX.out
                        go_wp2_with fail
                        go_quiet (fail)
                        go_wp2_with fail
                        go_roundg g4
                        case measure => omega
                        case rel => exact ⟨j + 1, j0 + 2, g', m, rfl, by first | rfl | exact congrArg (Value.int .i64) hwj2.out, HNXT, B.out.below (below_draws _ _), on LL.out (below_draws _ _), PS, HALL2, NN⟩
                      | false =>
                        go_wp2_with fail
                        go_quiet (fail)
                        go_wp2_with fail
                        go_region
                        all_goals (
                          have B5 := Lib.hid ((B.out.below (below_draws _ (nq + 1))).put (i := xa) true)
                          have L5 := Lib.hid (show Below w.heap.size w (World.setCell _ (Addr.mk bm xa none) (.bool true)) from (on LL.out (below_draws _ (nq + 1))).setCell E2.out _)
                          have N5 := Lib.hid ((NN.out.drewN (nq + 1)).other (w' := (World.setCell (World.drewN _ (nq + 1)) (Addr.mk bm xa none) (.bool true))) (fun p hp => W14.cell_block (heap_setCell_other _ (Addr.mk bm xa none) p.block _ (by show p.block ≠ bm; rw [hp]; have := HOB.out ⟨b1, o1, none⟩ rfl; exact Nat.ne_of_gt this))))
                          have PS5 := Lib.hid (PS.out.mark HFR.out hrch.out (by rw [HSL.out]; exact HQ.out) HPM.out (by rw [HIX.out]; exact HBX.out))
                          clear PS B LL NN c0 f0
                          go_wp2_with fail
                          go_roundg g4
                          case measure => omega
                          case rel => exact ⟨j + 1, j0 + 2, _, true, rfl, by first | rfl | exact congrArg (Value.int .i64) hwj2.out, HNXT, B5, L5, by have := PS5; rw [HIX.out] at this; exact this, HTK.out (fun x => if x = xa then true else g' x) (fun p hp => by show (if _ then _ else _) = true; split; rfl; exact HALL.out p hp) (if_pos rfl), N5⟩)
    | false =>
      have HX := Lib.hid (M16.ends_out (b := f) (f := g) HRP.out (by rw [HSL.out]; exact HF.out) R.out.1 (HSH.out rfl) R.out.2)
      have HIN : Hid (∀ i q x, i < n → q ≤ s.size → i * z + q = x → x < N ∧ idx S i q = x) := fun i q x hi hq hx => by
        have h1 := M16.idx_lt (s := S) (n := n) hi (by rw [HSL.out]; exact hq)
        unfold idx at *
        rw [HSL.out, HNN.out.2.2.1] at *
        rw [HNN.out.1, hx] at h1
        exact ⟨h1, hx⟩
      clear HM HSH R
      go_wp2_with fail
      go_loopg [14, 15] (s.size + 1) (fun g2 s14 s15 wx => ∃ (q : Nat), s15 = .int .i64 q ∧ Hid (q + g2 = s.size + 1) ∧ Hid (Bits wx bm N g) ∧ Hid (Below w.heap.size w wx) ∧ Hid (wx.ownsRow w.heap.size 3 1 s14 ((List.range q).filter (endHere L S g)).length (((List.range q).filter (endHere L S g)).flatMap numC)))
      case atStart => exact ⟨0, rfl, by unfold Hid; omega, B, LL, World.ownsRow_nil _ _ _ _⟩
      case round =>
        clear B LL
        obtain ⟨q, rfl, hqg, B, LL, OW⟩ := hrel
        obtain ⟨v, hv⟩ : ∃ v, u14 = v := ⟨_, rfl⟩
        subst hv
        cases gk with
        | zero =>
          have hq : q = s.size + 1 := by have := hqg.out; omega
          have tq : ¬ (q : Int) ≤ (s.size : Int) := by omega
          have OW2 := OW
          rw [hq, ← HSL.out, ← HX.out] at OW2
          clear OW hq hqg
          go_wp2_with fail
          go_ret
          exact ⟨u14, rfl, by have := OW2.out; rwa [List.length_map] at this, LL.out⟩
        | succ g2 =>
          have hq : q ≤ s.size := by have := hqg.out; omega
          have tq : (q : Int) ≤ (s.size : Int) := by omega
          have HQ := Lib.hid hq
          have hwq : Hid (wrap64 ((q : Int) + 1) = ((q + 1 : Nat) : Int)) := wrap_n (k := q + 1) (by have := HNN.out.2.2.2.2.1; omega)
          clear hq
          go_wp2_with fail
          go_loopg [16, 17] n (fun g3 s16 s17 wy => ∃ (i : Nat), s16 = .bool ((List.range i).any fun i => decide ((ins L i).kind = 7) && g (idx S i q)) ∧ s17 = .int .i64 i ∧ Hid (i + g3 = n) ∧ Hid (Bits wy bm N g) ∧ Hid (Below w.heap.size w wy) ∧ Hid (wy.ownsRow w.heap.size 3 1 u14 ((List.range q).filter (endHere L S g)).length (((List.range q).filter (endHere L S g)).flatMap numC)))
          case atStart => exact ⟨0, rfl, rfl, by unfold Hid; omega, B, LL, OW⟩
          case round =>
            clear B LL OW
            obtain ⟨i, rfl, rfl, hig, B, LL, OW⟩ := hrel
            cases gk with
            | zero =>
              have hi : i = n := by have := hig.out; omega
              subst hi
              have ti : ¬ (i : Int) < (i : Int) := by omega
              have HEH : Hid (endHere L S g q = (List.range i).any fun i => decide ((ins L i).kind = 7) && g (idx S i q)) := by unfold Hid endHere; rw [HNN.out.2.2.2.2.2]
              have HNXT : Hid (q + 1 + g2 = s.size + 1) := by have := hqg.out; unfold Hid; omega
              have HRG : Hid ((List.range (q + 1)).filter (endHere L S g) = (List.range q).filter (endHere L S g) ++ (if endHere L S g q = true then [q] else [])) := by
                unfold Hid
                rw [List.range_succ, List.filter_append]
                by_cases e : endHere L S g q = true
                · rw [if_pos e]; simp [e]
                · rw [if_neg e]; simp [e]
              rw [← HEH.out]
              have HLQ : Hid (((List.range q).filter (endHere L S g)).length + 1 ≤ 1000000) := by
                have h1 := List.length_filter_le (endHere L S g) (List.range q)
                rw [List.length_range] at h1
                have := HQ.out
                have := HNN.out.2.2.2.2.1
                unfold Hid
                omega
              cases he : endHere L S g q with
              | false =>
                rw [he] at HRG
                have OW2 := OW
                have HRGF : (List.range (q + 1)).filter (endHere L S g) = (List.range q).filter (endHere L S g) := by rw [HRG.out, if_neg (by decide), List.append_nil]
                rw [← HRGF] at OW2
                clear HRGF
                clear he HEH hig hqg OW
                go_wp2_with fail
                go_roundg g2
                case measure => omega
                case rel => exact ⟨q + 1, by first | rfl | exact congrArg (Value.int .i64) hwq.out, HNXT, B, LL, OW2⟩
              | true =>
                rw [he] at HRG
                clear he HEH hig hqg
                go_wp2_with (first
                  | (refine slice_num rfl (.tmp 142) rfl (n := q) rfl ?_; intro w6 b6 e6 p6 l6 z6; have P6 := Lib.hid p6; have L6 := Lib.hid l6; clear e6 p6 l6 z6)
                  | (refine append_num rfl (.tmp 141) (.tmp 143) rfl rfl rfl (W14.own_same OW.out fun k _ hk => L6.out.block k hk) P6.out (by simp only [List.length_cons, List.length_nil]; exact HLQ.out) (Nat.le_trans LL.out.size L6.out.size) ?_; intro v7 w7 o7 p7; have O7 := Lib.hid o7; have Q7 := Lib.hid p7; clear o7 p7))
                obtain ⟨g1, g2', g3', g4', g5'⟩ := Q7.out.grown
                have B7 : Hid (Bits w7 bm N g) := (B.out.below L6.out).same (g5' bm (B.out.below L6.out).lt (fun e => by
                  obtain ⟨cur, h1⟩ := W15.own_type OW.out e.symm
                  exact absurd (ty_ne h1 B.out) (by decide)))
                have L7 : Hid (Below w.heap.size w w7) := (on LL.out L6.out).trans ⟨g1, g2', g3', g4', fun k hk => g5' k (Nat.lt_of_lt_of_le hk (Nat.le_trans LL.out.size L6.out.size)) (fun e => by have := (OW.out.lt k e.symm).1; omega)⟩
                have OW7 := O7
                rw [show (List.range q).filter (endHere L S g) ++ [q] = (List.range (q + 1)).filter (endHere L S g) by rw [HRG.out]; simp] at OW7
                clear g1 g2' g3' g4' g5' O7 Q7 P6 L6 B LL OW
                go_roundg g2
                case measure => omega
                case rel => exact ⟨q + 1, by first | rfl | exact congrArg (Value.int .i64) hwq.out, HNXT, B7, L7, OW7⟩
            | succ g3 =>
              have hi : i < n := by have := hig.out; omega
              have ti : (i : Int) < (n : Int) := by omega
              have hwi : Hid (wrap64 ((i : Int) + 1) = ((i + 1 : Nat) : Int)) := wrap_n (k := i + 1) (by have := HNN.out.2.2.2.1; omega)
              have HIG : Hid (i + 1 + g3 = n) := by have := hig.out; unfold Hid; omega
              obtain ⟨p, hp⟩ : ∃ p, i * z = p := ⟨_, rfl⟩
              obtain ⟨x, hx⟩ : ∃ x, p + q = x := ⟨_, rfl⟩
              obtain ⟨hxN, hidx⟩ := HIN.out i q x hi HQ.out (by rw [hp, hx])
              have hxl : (x : Int) < (N : Int) := Int.ofNat_lt.2 hxN
              have c0 := B.out.cell hxN
              obtain ⟨b, o, hl, e, -, hc⟩ := (HP.out.below LL.out).flat_ insC_len (by decide) (k := i) hi
              cases e
              have hii : ins L i = L[i] := by unfold ins; rw [List.getD_eq_getElem?_getD, List.getElem?_eq_getElem hl]; rfl
              obtain ⟨⟨k, t, X, Y⟩, hxk⟩ : ∃ x, L[i] = x := ⟨_, rfl⟩
              have d0 := hc 0 (by decide)
              rw [hxk, Nat.add_zero] at d0
              have d0' : World.cell? _ ⟨gl, ol + i * 4, none⟩ = some (.int .i64 k) := d0
              have HANY : Hid (((List.range (i + 1)).any fun i => decide ((ins L i).kind = 7) && g (idx S i q)) = (((List.range i).any fun i => decide ((ins L i).kind = 7) && g (idx S i q)) || (decide (k = 7) && g x))) := by
                unfold Hid
                rw [List.range_succ, List.any_append]
                simp only [List.any_cons, List.any_nil, Bool.or_false]
                rw [hii, hxk, hidx]
              have hw1 : wrap64 ((i : Int) * (z : Int)) = (p : Int) := by rw [← Int.natCast_mul, hp]; exact wrap_n (Nat.le_trans (Nat.le_trans (Nat.le_add_right p q) (by rw [hx]; exact Nat.le_of_lt hxN)) HNN.out.2.1)
              have hw2 : wrap64 ((p : Int) + (q : Int)) = (x : Int) := by rw [← Int.natCast_add, hx]; exact wrap_n (Nat.le_trans (Nat.le_of_lt hxN) HNN.out.2.1)
              obtain ⟨fb, hfb⟩ : ∃ fb, ((List.range i).any fun i => decide ((ins L i).kind = 7) && g (idx S i q)) = fb := ⟨_, rfl⟩
              obtain ⟨gx, hgx⟩ : ∃ gx, g x = gx := ⟨_, rfl⟩
              rw [hfb, hgx] at HANY
              rw [hgx] at c0
              rw [hfb]
              clear hp hx hxN hidx hl hc hii hxk d0 hfb hgx hig
              cases fb with
              | true =>
                go_wp2_with fail
                go_roundg g3
                case measure => omega
                case rel => exact ⟨i + 1, by rw [HANY.out]; rfl, by first | rfl | exact congrArg (Value.int .i64) hwi.out, HIG, B, LL, OW⟩
              | false =>
                by_cases k7 : k = 7
                · subst k7
                  clear hi
                  go_wp2_with fail
                  go_roundg g3
                  case measure => omega
                  case rel => exact ⟨i + 1, by rw [HANY.out]; simp, by first | rfl | exact congrArg (Value.int .i64) hwi.out, HIG, B, LL, OW⟩
                · have t7 : (k == 7) = false := by simpa using k7
                  have hk7 : decide (k = 7) = false := decide_eq_false k7
                  rw [hk7] at HANY
                  clear hi k7 hk7
                  go_wp2_with fail
                  go_roundg g3
                  case measure => omega
                  case rel => exact ⟨i + 1, by rw [HANY.out]; rfl, by first | rfl | exact congrArg (Value.int .i64) hwi.out, HIG, B, LL, OW⟩
end
section
variable {w : World} {lv : Value} {L : List Inst} {s : ByteArray}
theorem run_at (h : Prg w.heap.size w lv L) (hn : L.length ≤ 400) (hs : s.size ≤ 400) (from_ : Int) : Calls Tryz.prog 18 #[lv, .string s, .int .i64 from_] w (GivesInts w (endsL L s.data.toList from_)) := by
  unfold endsL
  rw [← Lib.size_eq]
  by_cases hr : rightP L = true
  · by_cases hf : 0 ≤ from_ ∧ from_ ≤ (s.size : Int)
    · rw [if_pos hf]
      obtain ⟨f, rfl⟩ : ∃ f : Nat, from_ = (f : Int) := ⟨from_.toNat, by omega⟩
      exact run_some h hr hn hs f (by omega)
    · rw [if_neg hf]
      exact run_none h from_ (by omega)
  · have he : (if 0 ≤ from_ ∧ from_ ≤ (s.size : Int) then (M16.yields L s.data.toList from_.toNat from_.toNat).map Prod.snd else []) = [] := by
      split
      · unfold M16.yields; rw [if_neg hr]; rfl
      · rfl
    rw [he]
    exact run_none h from_ (Or.inl (by simpa using hr))
end
end Go.Proofs.YtehdnbidgphecaaGreatDoor.W16
/-
  Layer 16 (match), walks of Search, Whole and First: what the iterator hands out, asked. The conditions stand in the statements.
-/
namespace Go.Proofs.YtehdnbidgphecaaGreatDoor.W16
open Go Go.RowKit Go.Shelf Go.Proofs.YtehdnbidgphecaaGreatDoor.Strs Go.Proofs.YtehdnbidgphecaaGreatDoor.Recs Go.Proofs.YtehdnbidgphecaaGreatDoor.Range
open Go.Proofs.YtehdnbidgphecaaGreatDoor.M15 (Inst rightP)
open Go.Proofs.YtehdnbidgphecaaGreatDoor.M16 (Text yields)
open Go.Proofs.YtehdnbidgphecaaGreatDoor.W15 (Prg)
open Go.Proofs.YtehdnbidgphecaaGreatDoor.Kit (below_draws on)
attribute [local go_sem] Oper.semAt_some

/-- a variable's box of the caller's own -/
def Own1 (T : Nat → Prop) (W : World) (q : Nat) (t : TypeId) (v : Value) : Prop := Boxed W q t v ∧ ¬ T q
theorem Own1.on {T : Nat → Prop} {A B : World} {q : Nat} {t : TypeId} {v : Value} (h : Own1 T A q t v) (ht : Turns T A B) : Own1 (Fresh T A B) B q t v :=
  ⟨ht.keeps h.1 h.2, fun k => by
    rcases k with k | k
    · exact h.2 k
    · have := h.1.lt; omega⟩
theorem low_on {T : Nat → Prop} {w0 A B : World} {q : Nat} (h : Below q w0 A) (hT : Lies q T A) (ht : Turns T A B) (hA : q ≤ A.heap.size) : Below q w0 B := h.trans (ht.below (fun k hk => (hT k hk).1) hA)
theorem results_bool {fn : Func} {p : Tmp} (h : fn.results = #[.cell p 4]) (tmps : Array Value) (w : World) (q : Nat) (v : Value) (hp : tmps.getD p undef = .pointer (some ⟨q, 0, none⟩)) (hc : w.cell? ⟨q, 0, none⟩ = some v) : (results fn tmps).run Tryz.prog w = .ok v w := by
  rw [Array.getD_eq_getD_getElem?] at hp
  simp only [results, h]
  simp [Sem.run_bind, Result.andThen, hp, go_sem, hc]
section
variable {w : World} {lv : Value} {L : List Inst} {s : ByteArray}
set_option maxRecDepth 100000 in
set_option maxHeartbeats 4000000 in
theorem search_any (h : Prg w.heap.size w lv L) (hn : L.length ≤ 900000) (hs : s.size ≤ 900000) : Calls Tryz.prog 14 #[lv, .string s] w fun e w' => e = .returned (.bool (!(yields L s.data.toList 0 s.size).isEmpty)) ∧ Below w.heap.size w w' := by
  obtain ⟨A, c, rfl, -, -⟩ := h.form
  have HP := Lib.hid h
  have HN := Lib.hid (show L.length ≤ 900000 ∧ s.size ≤ 900000 from ⟨hn, hs⟩)
  obtain ⟨xs, hxs⟩ : ∃ xs, yields L s.data.toList 0 s.size = xs := ⟨_, rfl⟩
  rw [hxs]
  clear h hn hs
  refine (callsIn_wide (n := 9)).1 ?_
  refine callsIn_of_wp_marks Tryz.func14 rfl trivial ?_ rfl
  simp only [Tryz.ntmps14, List.size_toArray, List.length_cons, List.length_nil, Nat.reduceAdd, Nat.reduceSub, Array.replicate_succ, Array.replicate_zero, List.push_toArray, List.append_toArray, List.nil_append, List.cons_append]
  gi_wp2
  obtain ⟨q, hq⟩ : ∃ q, w.heap.size = q := ⟨_, rfl⟩
  have HQ := Lib.hid hq
  have x0 := Boxed.new w 4 (.bool false)
  have hb1 : Below w.heap.size w (w.alloc (.cells #[.bool false] 4)) := W14.below_new _ _
  have hz1 : (w.alloc (.cells #[.bool false] 4)).heap.size = q + 1 := by rw [World.size_alloc, hq]
  generalize w.alloc (.cells #[.bool false] 4) = w1 at *
  rw [hq] at x0
  have hp1 := Lib.hid (HP.out.below hb1)
  have hx1 := Lib.hid x0
  have L1 := Lib.hid hb1
  have Z1 := Lib.hid hz1
  clear x0 hb1 hz1
  refine ⟨trivial, ?_⟩
  refine (callsIn_wide.2 (endsOf_any A L.length c s 0 s.size w1)).mono ?_
  rintro e w2 ⟨rfl, hcaps, hb2, hz2⟩
  rw [Z1.out] at hcaps hz2 ⊢
  have hseq := Lib.hid (ends_seq ⟨q, q + 1, .slice A L.length c, L, s, 0, s.size⟩ w2 (by have h2 := hp1.out.below (hb2.mono L1.out.size); rw [HQ.out] at h2; exact h2) hcaps HN.out.1 (by show s.size ≤ _; have := HN.out.2; omega) (Nat.zero_le _) (Nat.le_refl _))
  have hx2 : Boxed w2 q 4 (.bool false) := (hb2.block q (by rw [Z1.out]; omega)).trans hx1.out
  have hB2 := on L1.out hb2
  simp only at hseq
  rw [hxs] at hseq
  clear hcaps hp1 hx1 L1 Z1 hb2 hxs HP
  gi_wp2
  have hO : Lies q (Four (q + 1)) w2 := fun k hk => ⟨by have := hk.1; omega, by have := hk.2; omega⟩
  have hB2' : Below q w w2 := hB2.mono (by omega)
  refine wp_rangeH (gf := 35) (lb := caught (q + 1)) rfl (enters_of Tryz.func35 (by kernel_rfl) rfl) hseq.out hO (by omega) (fun _ => rfl)
    (fun T pre W => pre = [] ∧ Own1 T W q 4 (.bool false) ∧ Below q w W) (fun c T pre W => c = .ret ∧ pre ≠ [] ∧ Own1 T W q 4 (.bool true) ∧ Below q w W)
    (fun T s A B ⟨h1, h2, h3⟩ hT hA ht => ⟨h1, h2.on ht, low_on h3 hT ht hA⟩) (fun c T s A B ⟨h0, h1, h2, h3⟩ hT hA ht => ⟨h0, h1, h2.on ht, low_on h3 hT ht hA⟩)
    ⟨rfl, ⟨hx2, fun h => by have := h.1; omega⟩, hB2'⟩
    (fun x => { tmps := #[.slice A L.length c, .string s, undef, undef, .pointer (some ⟨q, 0, none⟩), .slice A L.length c, .string s, .string s, .int .i64 s.size, .func (.func 35) #[] (caught (q + 1)), .int .i64 x.1, .int .i64 x.2], defers := [] }) ?assign ?body ?done ?stop
  case assign =>
    intro l x W K hK
    unfold twoV
    gi_wp2
    simpa using hK
  case body =>
    rintro l T pre x W ⟨rfl, ⟨hv, hTq⟩, hB⟩ hT hb hpre
    have hc := hv.cell
    have hf := hv.frozen
    gi_wp2
    have t2 : Turns (fun k => q ≤ k ∧ ¬ T k) W (W.setCell ⟨q, 0, none⟩ (.bool true)) := Turns.setCell (a := ⟨q, 0, none⟩) _ ⟨by show q ≤ q; omega, hTq⟩
    exact ⟨t2, rfl, by simp, ⟨hv.set _, hTq⟩, hB.trans (t2.below (fun k hk => hk.1) (by have := hv.lt; omega))⟩
  case done =>
    rintro T W ⟨hx0, ⟨hv, hTq⟩, hB⟩ hT hOT hTd hK htW
    have hc := hv.cell
    have hf := hv.frozen
    subst hx0
    gi_wp2
    refine ⟨by simp, .inl ⟨_, _, rfl, run_takeDeferred ((heap_setCell_other W ⟨q, 0, none⟩ w2.heap.size (.bool false) (by show w2.heap.size ≠ q; omega)).trans hK), ?_⟩⟩
    have h3 : Below q W ((W.setCell ⟨q, 0, none⟩ (.bool false)).putObj w2.heap.size (.deferred none)) := ((Turns.setCell (T := fun k => q ≤ k) (a := ⟨q, 0, none⟩) _ (Nat.le_refl q)).trans (Turns.putObj (T := fun k => q ≤ k) _ (by omega))).below (fun k hk => hk) (by have := hv.lt; omega)
    refine ⟨_, results_bool rfl _ _ q (.bool false) rfl ((World.cell?_of_block (World.putObj_heap_other (by show q ≠ w2.heap.size; omega))).trans (hv.set (.bool false)).cell), rfl, by rw [hq]; exact hB.trans h3⟩
  case stop =>
    rintro c T pre W hpre ⟨rfl, hne, ⟨hv, hTq⟩, hB⟩ hT hOT hTd hK htW
    have hc := hv.cell
    gi_wp2
    refine ⟨by simp, .inl ⟨_, _, rfl, run_takeDeferred hK, ?_⟩⟩
    have h3 : Below q W (W.putObj w2.heap.size (.deferred none)) := (Turns.putObj (T := fun k => q ≤ k) _ (by omega)).below (fun k hk => hk) (by have := hB.size; omega)
    have hx : xs.isEmpty = false := by
      cases xs with
      | nil => exact absurd (List.prefix_nil.1 hpre) hne
      | cons x l => rfl
    rw [hx]
    exact ⟨_, results_bool rfl _ _ q (.bool true) rfl ((World.cell?_of_block (World.putObj_heap_other (by show q ≠ w2.heap.size; omega))).trans hc), rfl, by rw [hq]; exact hB.trans h3⟩
/-- the three variables of First -/
structure Three (T : Nat → Prop) (W : World) (q : Nat) (r : Nat × Nat × Bool) : Prop where
  a : Own1 T W q 3 (.int .i64 r.1)
  b : Own1 T W (q + 1) 3 (.int .i64 r.2.1)
  c : Own1 T W (q + 2) 4 (.bool r.2.2)
theorem Three.on {T : Nat → Prop} {A B : World} {q : Nat} {r : Nat × Nat × Bool} (h : Three T A q r) (ht : Turns T A B) : Three (Fresh T A B) B q r := ⟨h.a.on ht, h.b.on ht, h.c.on ht⟩
end
end Go.Proofs.YtehdnbidgphecaaGreatDoor.W16
