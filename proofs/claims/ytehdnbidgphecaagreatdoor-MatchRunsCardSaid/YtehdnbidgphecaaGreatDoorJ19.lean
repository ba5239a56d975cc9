/-
  Texts joined, in build order, each with its own comment and its own conditions: W15Alt.
-/
import Derived.Test.YtehdnbidgphecaaGreatDoorJ10
import Derived.Deep.LoopGhost
import Derived.Deep.RegionHeld3
import Derived.BigQuiet
/-
  Layer 15 (prog), walk of the layer's alt: a split ahead of each kid but the last one, a jump behind it; all jumps are set at the end. The conditions stand in the statements.
-/
namespace Go.Proofs.YtehdnbidgphecaaGreatDoor.W15
set_option maxRecDepth 100000
open Go Go.RowKit Go.Proofs.YtehdnbidgphecaaGreatDoor.Strs Go.Proofs.YtehdnbidgphecaaGreatDoor.Recs Go.Proofs.YtehdnbidgphecaaGreatDoor.M15
open Go.Proofs.YtehdnbidgphecaaGreatDoor.M14 (Piece size sizes)
open Go.Proofs.YtehdnbidgphecaaGreatDoor.W14 (Raw Raws rawA rawC PAt PAll PBox below_new cell_block own_same own_form box_arg load_piece run_load_op load_at alloc_piece store_piece two_new raws_keep)
open Go.Proofs.YtehdnbidgphecaaGreatDoor.Row256 (Beside)
open Go.Proofs.YtehdnbidgphecaaGreatDoor.Kit (below_draws on)

theorem box_grow {w w' : World} {b c : Nat} {v v' : Value} {L : List Inst} {r : Raw} (hp : PBox w c r) (hl : Lay w b v L) (hb : c ≠ b) (hg : Grow b v v' w w') : PBox w' c r := by
  refine (hg.block c hp.lt hb fun q => ?_).trans hp
  obtain ⟨cur, h1⟩ := own_type hl.own q
  have h2 : w.heap[c]? = _ := hp
  rw [h1] at h2
  injection h2 with h2
  injection h2 with _ h2
  exact absurd h2 (by decide)
theorem box_put {w w' : World} {base c : Nat} {v v' : Value} {M : List Nat} {r : Raw} (hp : PBox w c r) (hl : Nums base w v M) (hg : Put v v' w w') : PBox w' c r := by
  obtain ⟨-, -, -, -, g5⟩ := hg.grown
  refine (g5 c hp.lt fun q => ?_).trans hp
  obtain ⟨cur, h1⟩ := own_type hl q.symm
  have h2 : w.heap[c]? = _ := hp
  rw [h1] at h2
  injection h2 with h2
  injection h2 with _ h2
  exact absurd h2 (by decide)
theorem patched {ks T : List Piece} (hs : ∀ q, q ∈ ks → ∀ a, (steps q a).length = size q) (hm : ∀ q, q ∈ T → q ∈ ks) {j : Nat} (hj : j < T.length) (a e : Nat) : ∃ X Z, pre (T.take j) a e ++ pre (T.drop j) (a + plen (T.take j)) 0 = X ++ M15.jump 0 :: Z ∧ pre (T.take (j + 1)) a e ++ pre (T.drop (j + 1)) (a + plen (T.take (j + 1))) 0 = X ++ M15.jump e :: Z ∧ (spots T a)[j]? = some (a + X.length) := by
  obtain ⟨q, hq⟩ : ∃ q, T[j] = q := ⟨_, rfl⟩
  have hd : T.drop j = q :: T.drop (j + 1) := by rw [List.drop_eq_getElem_cons hj, hq]
  have ht : T.take (j + 1) = T.take j ++ [q] := by rw [List.take_succ_eq_append_getElem hj, hq]
  have hp : plen (T.take (j + 1)) = plen (T.take j) + (size q + 2) := by
    rw [ht]; unfold plen; rw [M14.sizes_append, List.length_append]; simp only [sizes, List.length_cons, List.length_nil]; omega
  have hqm : q ∈ ks := hm q (by rw [← hq]; exact List.getElem_mem hj)
  refine ⟨pre (T.take j) a e ++ split (a + plen (T.take j) + 1) (a + plen (T.take j) + size q + 2) :: steps q (a + plen (T.take j) + 1), pre (T.drop (j + 1)) (a + plen (T.take j) + size q + 2) 0, ?_, ?_, ?_⟩
  · rw [hd]
    simp only [pre, List.append_assoc, List.cons_append]
  · rw [hp, ht, pre_append, show a + (plen (T.take j) + (size q + 2)) = a + plen (T.take j) + size q + 2 by omega]
    simp only [pre, List.append_assoc, List.cons_append, List.nil_append]
  · have h1 : spots T a = spots (T.take j) a ++ spots (T.drop j) (a + plen (T.take j)) := by
      have := spots_append (T.take j) (T.drop j) a
      rw [List.take_append_drop] at this
      exact this
    have h2 : (spots (T.take j) a).length = j := by rw [spots_len, List.length_take]; omega
    rw [h1, List.getElem?_append_right (by omega), h2, Nat.sub_self, hd]
    rw [List.length_append, List.length_cons, pre_len hs e _ _ (fun r hr => hm r (List.mem_of_mem_take hr)), hs q hqm]
    simp only [spots, List.getElem?_cons_zero]
    congr 1
    omega
theorem jump_0 {w : World} {b : Nat} {v : Value} {L : List Inst} (h : Lay w b v L) (hl : L.length ≤ 900000) : Calls Tryz.prog 81 #[.pointer (some ⟨b, 0, none⟩), .int .i64 0] w (LaidAt b v w L.length (L ++ [M15.jump 0])) := jump_any h hl 0
theorem Lay.shape {w : World} {b : Nat} {v : Value} {L : List Inst} (h : Lay w b v L) (hl : 0 < L.length) : ∃ g c, v = .slice (some ⟨g, 0, none⟩) L.length c ∧ L.length ≤ c ∧ c ≤ 9223372036854775807 := by
  obtain ⟨g, c, e, -, -, h1, h2⟩ := own_form h.own hl
  unfold maxLen at h2
  exact ⟨g, c, e, h1, h2⟩
theorem wrap64_nat_big {a : Int} {n : Nat} (h : a = (n : Int)) (hn : n ≤ 9223372036854775807) : wrap64 a = (n : Int) := by subst h; unfold wrap64; omega
set_option maxHeartbeats 8000000 in
/-- the first loop's round -/
theorem alt_any {ks : List Piece} (IH : ∀ i (hi : i < ks.length), LayOk ks[i]) (hs : ∀ q, q ∈ ks → ∀ a, (steps q a).length = size q) {w : World} {b : Nat} {v : Value} {L : List Inst} {k : Int} {t : ByteArray} {A : Option Addr} {c : Nat} {m tp : Int} {raws : List Raw} (h : Lay w b v L) (k1 : KidsU b w A c raws ks) {n E : Nat} (hn : ks.length = n + 1) (hE : L.length + (sizes ks + 2 * n) = E) (hl : E ≤ 4000) :
    Calls Tryz.prog 68 #[.pointer (some ⟨b, 0, none⟩), .agg (rawA ⟨k, t, A, ks.length, c, m, tp⟩)] w (Laid b v w (L ++ alts ks L.length E)) := by
  have H := Lib.hid h
  have HI := Lib.hid IH
  have HS := Lib.hid hs
  have K1 := Lib.hid k1
  have HN := Lib.hid hn
  have hr := (k1.kids (Nat.le_of_lt h.box.lt)).room
  have HL := Lib.hid hl
  have HE := Lib.hid hE
  have HA := Lib.hid (show ks.length ≤ c ∧ c ≤ 9223372036854775807 from hr)
  rw [hn] at hr ⊢
  have hr1 := hr.1
  have hr2 := hr.2
  have hw1 : wrap64 ((((n + 1 : Nat) : Int)) - 1) = (n : Int) := wrap64_nat_big (by omega) (by omega)
  clear h IH hs k1 hl hr hn hE
  go_enter Tryz.func68, Tryz.ntmps68
  go_wp2_with (first
    | (refine box_arg (r := ⟨k, t, A, n + 1, c, m, tp⟩) rfl (.tmp 1) rfl rfl ?_; intro w1 b1 e1 p1 l1 z1; have P1 := Lib.hid p1; have a2 := p1.c2; have L1 := Lib.hid l1; have HB3 := Lib.hid (show b1 ≠ b by have := H.out.box.lt; omega); clear e1 p1 l1 z1; simp only at a2))
  have H1 := Lib.hid (H.out.below L1.out)
  have K2 := Lib.hid (K1.out.below H.out.box.lt L1.out)
  have HT := Lib.hid H.out.box.lt
  clear a2 hr1 hr2 hw1
  go_loopg [5, 20] n (fun gk s5 s20 wr => ∃ (i : Nat) (v1 vj : Value), s5 = vj ∧ s20 = .int .i64 i ∧ Hid (i + gk = n) ∧ Hid (Lay wr b v1 (L ++ pre ((ks.take n).take i) L.length 0)) ∧ Hid (Nums w.heap.size wr vj (spots ((ks.take n).take i) L.length)) ∧ Hid (KidsU b wr A c raws ks) ∧ Hid (Grow b v v1 w wr) ∧ Hid (PBox wr b1 ⟨k, t, A, n + 1, c, m, tp⟩))
  case atStart => exact ⟨0, v, .slice none 0 0, rfl, rfl, by unfold Hid; omega, by unfold Hid; simp only [List.take_zero, pre, List.append_nil]; exact H1.out, Nums.nil _ _, K2, Grow.of L1.out, P1⟩
  case round =>
    obtain ⟨i, v1, vj, rfl, rfl, hig, HL1, NN, KK, GG, PP⟩ := hrel
    by_cases hi : i < n
    · have ti : (i : Int) < (n : Int) := by omega
      have hnk2 : n ≤ ks.length := by have := HN.out; omega
      obtain ⟨p, hp, ⟨hik, hpe⟩, htk, -⟩ := take_one hi hnk2
      have hlt := HL1.out.box.lt
      obtain ⟨g1, o1, rfl, C1⟩ := (KK.out.kids (Nat.le_of_lt hlt)).at_ (Nat.lt_of_le_of_lt (Nat.zero_le _) hik)
      obtain ⟨hr1, q1⟩ := KK.out.kid hik
      have E1 := Lib.hid (C1 i hr1)
      have Q1 := Lib.hid q1
      obtain ⟨rk, hrk⟩ : ∃ rk, raws[i]'hr1 = rk := ⟨_, rfl⟩
      rw [hrk] at E1 Q1
      rw [hpe] at Q1
      have hplen : (pre ((ks.take n).take i) L.length 0).length = plen ((ks.take n).take i) := pre_len HS.out 0 _ _ (fun q hq => List.mem_of_mem_take (List.mem_of_mem_take hq))
      obtain ⟨Li, hLi⟩ : ∃ Li, L ++ pre ((ks.take n).take i) L.length 0 = Li := ⟨_, rfl⟩
      obtain ⟨N, hN⟩ : ∃ N, Li.length = N := ⟨_, rfl⟩
      have hN2 : N = L.length + plen ((ks.take n).take i) := by rw [← hN, ← hLi, List.length_append, hplen]
      obtain ⟨s, hsz⟩ : ∃ s, size p = s := ⟨_, rfl⟩
      have hb : N + s + 2 ≤ 4000 := by
        have h1 : plen ((ks.take n).take (i + 1)) = plen ((ks.take n).take i) + (s + 2) := by
          rw [htk]; unfold plen; rw [M14.sizes_append, List.length_append]; simp only [sizes, List.length_cons, List.length_nil]; omega
        have h2 : plen ((ks.take n).take (i + 1)) ≤ plen ks := by
          unfold plen
          have a1 := sizes_take_le (ks.take n) (i + 1)
          have a2 := sizes_take_le ks n
          have a3 : ((ks.take n).take (i + 1)).length ≤ i + 1 := by rw [List.length_take]; omega
          have a4 : sizes ((ks.take n).take (i + 1)) + 2 * ((ks.take n).take (i + 1)).length ≤ sizes ks + 2 * n := by omega
          have := HN.out
          omega
        have h3 : plen ((ks.take n).take (i + 1)) ≤ sizes ks + 2 * n := by
          unfold plen
          have a1 := sizes_take_le (ks.take n) (i + 1)
          have a2 := sizes_take_le ks n
          have a3 : ((ks.take n).take (i + 1)).length ≤ i + 1 := by rw [List.length_take]; omega
          omega
        have := HE.out
        have := HL.out
        omega
      rw [hLi] at HL1
      have HNE := Lib.hid hN
      have HBD := Lib.hid hb
      -- what the round comes to
      have HR : Hid (L ++ pre ((ks.take n).take (i + 1)) L.length 0 = Li ++ split (N + 1) (N + s + 2) :: (steps p (N + 1) ++ [M15.jump 0])) := by
        unfold Hid
        rw [htk, pre_append, ← hLi, List.append_assoc, ← hN2]
        simp only [pre, hsz]
      have HSP : Hid (spots ((ks.take n).take (i + 1)) L.length = spots ((ks.take n).take i) L.length ++ [N + s + 1]) := by
        unfold Hid
        rw [htk, spots_append, ← hN2]
        simp only [spots, hsz]
      have HPL : Hid (∀ a, (steps p a).length = s) := by unfold Hid; rw [← hsz]; exact HS.out p hp
      have HC : Hid (∀ (w : World) (v : Value) (L' : List Inst), L'.length = N + 1 → Lay w b v L' → PAt (fun k => k < b) w rk p → Calls Tryz.prog 47 #[.pointer (some ⟨b, 0, none⟩), .agg (rawA rk)] w (Laid b v w (L' ++ steps p (N + 1)))) := by
        intro w v L' h0 h1 h2
        have h3 := HI.out i hik w b v L' rk h1 (by rw [hpe]; exact h2) (by rw [h0, hpe, hsz]; omega)
        rw [hpe, h0] at h3
        exact h3
      have HSL : Hid ((spots ((ks.take n).take i) L.length).length ≤ 4000) := by
        unfold Hid
        rw [spots_len, List.length_take]
        have : i ≤ plen ((ks.take n).take i) := by
          unfold plen
          rw [List.length_take, List.length_take]; omega
        omega
      have hwi : Hid (wrap64 ((i : Int) + 1) = ((i + 1 : Nat) : Int)) := by unfold Hid wrap64; have := HA.out.1; have := HA.out.2; have := HN.out; omega
      have hn1 : n ≤ c := by have := HA.out.1; have := HN.out; omega
      have hn2 := HA.out.2
      have HT2 := Lib.hid hlt
      have HI2 := Lib.hid hi
      obtain ⟨M0, hM0⟩ : ∃ M0, spots ((ks.take n).take i) L.length = M0 := ⟨_, rfl⟩
      rw [hM0] at HSP HSL NN
      clear C1 q1 hrk hlt hplen hLi hN hN2 hsz hb hp hpe hik htk hnk2 hr1 hM0 hi
      go_wp2_with (first
        | (refine load_at rfl (.tmp 22) rfl rfl (r := rk) E1.out ?_)
        | (refine alloc_piece rfl rfl ?_; intro w3 b3 e3 p3 l3 z3)
        | (refine store_piece (r := rk) rfl (.tmp 7) (.tmp 23) rfl rfl rfl p3 ?_; intro w4 p4 l4 z4; have L4 := Lib.hid (two_new l3 l4 e3); have P4 := Lib.hid p4; have B4 := Lib.hid (show b3 ≠ b by have := HT2.out; omega); clear e3 p3 l3 z3 p4 l4 z4))
      have H4 := Lib.hid (HL1.out.below L4.out)
      have K4 := Lib.hid (KK.out.below HT2.out L4.out)
      have N4 := Lib.hid (NN.out.below L4.out)
      have G4 := Lib.hid (GG.out.trans (Grow.of L4.out))
      have PP4 := Lib.hid (PP.out.below L4.out)
      have Q4 := Lib.hid (below_piece L4.out HT2.out Q1.out)
      refine (step_any H4.out (by rw [HNE.out]; have := HBD.out; omega) 6 ⟨#[]⟩).mono ?_
      rintro e w5 ⟨rfl, v5, h5, g5⟩
      rw [HNE.out]
      rw [HNE.out] at h5
      have H5 := Lib.hid h5
      have P5 := Lib.hid (box_grow P4.out H4.out B4.out g5)
      have K5 := Lib.hid (K4.out.grow H4.out g5)
      have N5 := Lib.hid (N4.out.grow H4.out HT.out g5)
      have G5 := Lib.hid (G4.out.trans g5)
      have PP5 := Lib.hid (box_grow PP4.out H4.out HB3.out g5)
      have Q5 := Lib.hid (g5.piece H4.out Q4.out)
      clear h5 g5
      go_wp2_with (first | (refine load_piece (r := rk) rfl (.tmp 7) rfl rfl P5.out ?_))
      obtain ⟨J, hJ⟩ : ∃ J, N + s + 1 = J := ⟨_, rfl⟩
      obtain ⟨q, hq⟩ : ∃ q, N + s + 2 = q := ⟨_, rfl⟩
      rw [hJ] at HSP
      rw [hq] at HR
      have HQ := Lib.hid (show N + 1 ≤ q ∧ q ≤ 4000 from ⟨by omega, by have := HBD.out; omega⟩)
      have hl5 : (Li ++ [(⟨6, ⟨#[]⟩, ((N + 1 : Nat) : Int), 0⟩ : Inst)]).length = N + 1 := by rw [List.length_append, HNE.out]; rfl
      have hl6 : (Li ++ [(⟨6, ⟨#[]⟩, ((N + 1 : Nat) : Int), 0⟩ : Inst)] ++ steps p (N + 1)).length = J := by rw [List.length_append, hl5, HPL.out]; omega
      have hl7 : (Li ++ [(⟨6, ⟨#[]⟩, ((N + 1 : Nat) : Int), 0⟩ : Inst)] ++ steps p (N + 1) ++ [M15.jump 0]).length = q := by rw [List.length_append, hl6]; simp only [List.length_cons, List.length_nil]; omega
      have HL6 := Lib.hid hl6
      have HL7 := Lib.hid hl7
      have HJB := Lib.hid (show J ≤ 4000 by have := HBD.out; omega)
      refine (HC.out _ _ _ hl5 H5.out Q5.out).mono ?_
      rintro e w6 ⟨rfl, v6, h6, g6⟩
      clear hl5 hl6 hl7 hJ hq
      have H6 := Lib.hid h6
      have K6 := Lib.hid (K5.out.grow H5.out g6)
      have N6 := Lib.hid (N5.out.grow H5.out HT.out g6)
      have G6 := Lib.hid (G5.out.trans g6)
      have PP6 := Lib.hid (box_grow PP5.out H5.out HB3.out g6)
      clear h6 g6
      go_wp2_with fail
      refine (jump_0 H6.out (by rw [HL6.out]; have := HJB.out; omega)).mono ?_
      rintro e w7 ⟨rfl, v7, h7, g7⟩
      rw [HL6.out]
      have K7 := Lib.hid (K6.out.grow H6.out g7)
      have N7 := Lib.hid (N6.out.grow H6.out HT.out g7)
      have G7 := Lib.hid (G6.out.trans g7)
      have PP7 := Lib.hid (box_grow PP6.out H6.out HB3.out g7)
      obtain ⟨gs, cs, hv7, hq1, hq2⟩ := h7.shape (by rw [HL7.out]; have := HQ.out; omega)
      rw [HL7.out] at hv7 hq1
      subst hv7
      have H7 : Hid (Lay w7 b (.slice (some ⟨gs, 0, none⟩) q cs) (Li ++ (⟨6, ⟨#[]⟩, ((N + 1 : Nat) : Int), 0⟩ : Inst) :: (steps p (N + 1) ++ [M15.jump 0]))) := by
        have := h7
        rw [List.append_assoc, List.append_assoc] at this
        exact this
      clear h7 g7
      have HCS := Lib.hid (show q ≤ cs ∧ cs ≤ 9223372036854775807 from ⟨hq1, hq2⟩)
      clear hq1 hq2
      go_wp2_with (first
        | (refine slice_num (n := J) rfl (.tmp 31) rfl rfl ?_; intro w8 b8 e8 p8 l8 z8; have L8 := Lib.hid l8; have P8 := Lib.hid p8; clear e8 p8 l8 z8)
        | (refine append_num rfl (.tmp 29) (.tmp 32) rfl rfl rfl (N7.out.below L8.out) P8.out (by have := HSL.out; simp only [List.length_cons, List.length_nil]; omega) (Nat.le_trans G7.out.size L8.out.size) ?_; intro vn w9 o9 p9; have N9 := Lib.hid o9; have P9 := Lib.hid p9; clear o9 p9))
      have H9 := Lib.hid ((H7.out.below L8.out).put_nums (N7.out.below L8.out) HT.out P9.out)
      have K9 := Lib.hid ((K7.out.below H7.out.box.lt L8.out).put (N7.out.below L8.out) HT.out (H7.out.below L8.out).box.lt P9.out)
      have G9 := Lib.hid ((G7.out.trans (Grow.of L8.out)).put P9.out fun k hk => (N7.out.lt k hk).1)
      have PP9 := Lib.hid (box_put (PP7.out.below L8.out) (N7.out.below L8.out) P9.out)
      have D9 := Lib.hid (below_draws w9 1)
      have H9d := Lib.hid (H9.out.below D9.out)
      have HH : Hid (Calls Tryz.prog 82 #[.pointer (some ⟨b, 0, none⟩)] (w9.drewN 1) fun e w' => e = .returned (.int .i64 q) ∧ w' = w9.drewN 1) := by
        have h1 := here_any H9d.out
        have h2 : (Li ++ (⟨6, ⟨#[]⟩, ((N + 1 : Nat) : Int), 0⟩ : Inst) :: (steps p (N + 1) ++ [M15.jump 0])).length = q := by rw [← HL7.out]; simp only [List.append_assoc, List.cons_append, List.nil_append]
        rw [h2] at h1
        exact h1
      have S0 : Hid ((w9.drewN 1).cell? ⟨b, 0, none⟩ = some (.slice (some ⟨gs, 0, none⟩) q cs)) := H9d.out.box.c0
      obtain ⟨-, f2, f3⟩ := H9d.out.field HNE.out
      simp only at f2
      have f3 := f3 (N * 4 + 3)
      have SET := H9d.out.set3 (q : Int)
      rw [HNE.out] at SET
      have HX := Lib.hid SET
      have SE : Hid (((w9.drewN 1).setCell ⟨gs, N * 4 + 3, none⟩ (.int .i64 q)).cell? ⟨b, 0, none⟩ = some (.slice (some ⟨gs, 0, none⟩) q cs)) := SET.1.box.c0
      clear SET
      have tq : (N : Int) < (q : Int) := by have := HQ.out; omega
      refine wp_region_held_drew (S := fun w' => w'.cell? ⟨b, 0, none⟩ = some (.slice (some ⟨gs, 0, none⟩) q cs)) (by kernel_rfl) S0.out (fun hHeld => ?_)
      refine wpAnyH_take (i := 0) (oi := { dst := some 34, op := Op.move (Operand.tmp 0), type := 85, pos := "prog.go:105", after := #[], guard := none }) (v := ?va0) rfl (by kernel_rfl) (by kernel_rfl) (by kernel_rfl) (fun _ _ _ h => h) (Or.inl ⟨by rfl, ?ha0⟩) (by assumption) ?ra0
      case ha0 => (intro w hSw; (try dsimp only at hSw); go_simp; try with_reducible rfl)
      try simp only [Act.put, List.setIfInBounds_toArray, List.set_cons_zero, List.set_cons_succ]
      refine wpAnyH_take (i := 1) (oi := { dst := some 35, op := Op.nilCheck (Operand.tmp 34), type := 0, pos := "prog.go:105", after := #[{ on := 0, ground := Ground.data }], guard := none }) (v := ?va1) rfl (by kernel_rfl) (by kernel_rfl) (by kernel_rfl) (fun _ _ _ h => h) (Or.inl ⟨by rfl, ?ha1⟩) (by assumption) ?ra1
      case ha1 => (intro w hSw; (try dsimp only at hSw); go_simp; try with_reducible rfl)
      try simp only [Act.put, List.setIfInBounds_toArray, List.set_cons_zero, List.set_cons_succ]
      refine wpAnyH_take (i := 2) (oi := { dst := some 36, op := Op.fieldAddr 90 (Operand.tmp 35) 0, type := 0, pos := "prog.go:105", after := #[{ on := 1, ground := Ground.data }], guard := none }) (v := ?va2) rfl (by kernel_rfl) (by kernel_rfl) (by kernel_rfl) (fun _ _ _ h => h) (Or.inl ⟨by rfl, ?ha2⟩) (by assumption) ?ra2
      case ha2 => (intro w hSw; (try dsimp only at hSw); go_simp; try with_reducible rfl)
      try simp only [Act.put, List.setIfInBounds_toArray, List.set_cons_zero, List.set_cons_succ]
      refine wpAnyH_take (i := 3) (oi := { dst := some 37, op := Op.load 32 (Operand.tmp 36), type := 32, pos := "prog.go:105", after := #[{ on := 2, ground := Ground.data }], guard := none }) (v := ?va3) rfl (by kernel_rfl) (by kernel_rfl) (by kernel_rfl) (fun _ _ _ h => h) (Or.inl ⟨by rfl, ?ha3⟩) (by assumption) ?ra3
      case ha3 => (intro w hSw; (try dsimp only at hSw); go_simp; try with_reducible rfl)
      try simp only [Act.put, List.setIfInBounds_toArray, List.set_cons_zero, List.set_cons_succ]
      refine wpAnyH_take (i := 4) (oi := { dst := some 38, op := Op.move (Operand.tmp 8), type := 3, pos := "prog.go:105", after := #[], guard := none }) (v := ?va4) rfl (by kernel_rfl) (by kernel_rfl) (by kernel_rfl) (fun _ _ _ h => h) (Or.inl ⟨by rfl, ?ha4⟩) (by assumption) ?ra4
      case ha4 => (intro w hSw; (try dsimp only at hSw); go_simp; try with_reducible rfl)
      try simp only [Act.put, List.setIfInBounds_toArray, List.set_cons_zero, List.set_cons_succ]
      refine wpAnyH_take (i := 5) (oi := { dst := some 39, op := Op.move (Operand.tmp 0), type := 85, pos := "prog.go:105", after := #[], guard := none }) (v := ?va5) rfl (by kernel_rfl) (by kernel_rfl) (by kernel_rfl) (fun _ _ _ h => h) (Or.inl ⟨by rfl, ?ha5⟩) (by assumption) ?ra5
      case ha5 => (intro w hSw; (try dsimp only at hSw); go_simp; try with_reducible rfl)
      try simp only [Act.put, List.setIfInBounds_toArray, List.set_cons_zero, List.set_cons_succ]
      refine wpAnyH_ready (rs := [6]) (by kernel_rfl) (by simp) ?_
      refine AllReadyH.cons (o := { dst := some 40, op := Op.call { callee := Callee.value (Operand.func 82), args := #[Operand.tmp 39], argTypes := #[85] }, type := 3, pos := "prog.go:105", after := #[{ on := 5, ground := Ground.data }], guard := none }) rfl (fun K hK => ?_) AllReadyH.nil
      go_simp
      (go_at_call 82; refine HH.out.mono ?_; rintro e x1 ⟨rfl, rfl⟩)
      go_wp2_with fail
      refine hK.out _ _ ?_ (fun hHeld => ?_)
      · exact S0.out
      clear hK K
      try simp only [Act.put, List.setIfInBounds_toArray, List.set_cons_zero, List.set_cons_succ]
      refine wpAnyH_take (i := 7) (oi := { dst := some 41, op := Op.indexAddr 32 (Operand.tmp 37) (Operand.tmp 38), type := 0, pos := "prog.go:105", after := #[{ on := 3, ground := Ground.data }, { on := 4, ground := Ground.data }, { on := 0, ground := Ground.phase }, { on := 1, ground := Ground.phase }, { on := 2, ground := Ground.phase }, { on := 3, ground := Ground.phase }, { on := 4, ground := Ground.phase }, { on := 5, ground := Ground.phase }, { on := 6, ground := Ground.phase }], guard := none }) (v := ?va7) rfl (by kernel_rfl) (by kernel_rfl) (by kernel_rfl) (fun _ _ _ h => h) (Or.inl ⟨by rfl, ?ha7⟩) (by assumption) ?ra7
      case ha7 => (intro w hSw; (try dsimp only at hSw); go_simp; try with_reducible rfl)
      try simp only [Act.put, List.setIfInBounds_toArray, List.set_cons_zero, List.set_cons_succ]
      refine wpAnyH_take (i := 8) (oi := { dst := some 42, op := Op.fieldAddr 62 (Operand.tmp 41) 3, type := 0, pos := "prog.go:105", after := #[{ on := 7, ground := Ground.data }, { on := 0, ground := Ground.phase }, { on := 1, ground := Ground.phase }, { on := 2, ground := Ground.phase }, { on := 3, ground := Ground.phase }, { on := 4, ground := Ground.phase }, { on := 5, ground := Ground.phase }, { on := 6, ground := Ground.phase }], guard := none }) (v := ?va8) rfl (by kernel_rfl) (by kernel_rfl) (by kernel_rfl) (fun _ _ _ h => h) (Or.inl ⟨by rfl, ?ha8⟩) (by assumption) ?ra8
      case ha8 => (intro w hSw; (try dsimp only at hSw); go_simp; try with_reducible rfl)
      try simp only [Act.put, List.setIfInBounds_toArray, List.set_cons_zero, List.set_cons_succ]
      refine wpAnyH_ready (rs := [9]) (by kernel_rfl) (by simp) ?_
      refine AllReadyH.cons (o := { dst := none, op := Op.store 3 (Operand.tmp 42) (Operand.tmp 40), type := 0, pos := "prog.go:105", after := #[{ on := 8, ground := Ground.data }, { on := 6, ground := Ground.data }, { on := 6, ground := Ground.chain }, { on := 0, ground := Ground.phase }, { on := 1, ground := Ground.phase }, { on := 2, ground := Ground.phase }, { on := 3, ground := Ground.phase }, { on := 4, ground := Ground.phase }, { on := 5, ground := Ground.phase }, { on := 6, ground := Ground.phase }], guard := none }) rfl (fun K hK => ?_) AllReadyH.nil
      go_simp
      skip
      go_wp2_with fail
      refine hK.out _ _ ?_ (fun hHeld => ?_)
      · exact SE.out
      clear hK K
      try simp only [Act.put, List.setIfInBounds_toArray, List.set_cons_zero, List.set_cons_succ]
      refine wpAnyH_done (by kernel_rfl) ?_ _
      have H10 : Hid (Lay ((w9.drewN 1).setCell ⟨gs, N * 4 + 3, none⟩ (.int .i64 q)) b (.slice (some ⟨gs, 0, none⟩) q cs) (L ++ pre ((ks.take n).take (i + 1)) L.length 0)) := by unfold Hid; rw [HR.out]; exact HX.out.1
      have N10 : Hid (Nums w.heap.size ((w9.drewN 1).setCell ⟨gs, N * 4 + 3, none⟩ (.int .i64 q)) vn (spots ((ks.take n).take (i + 1)) L.length)) := by unfold Hid; rw [HSP.out]; exact (Nums.below N9.out D9.out).grow H9d.out HT.out HX.out.2
      have K10 := Lib.hid ((K9.out.below H9.out.box.lt D9.out).grow H9d.out HX.out.2)
      have G10 := Lib.hid ((G9.out.trans (Grow.of D9.out)).trans HX.out.2)
      have PP10 := Lib.hid (box_grow (PP9.out.below D9.out) H9d.out HB3.out HX.out.2)
      clear f2 f3 tq
      cases gk with
      | zero => exact absurd hig.out (by have := HI2.out; omega)
      | succ g =>
        go_wp2_with fail
        go_roundg g
        case measure => omega
        case rel => exact ⟨i + 1, _, vn, rfl, by first | rfl | exact congrArg (Value.int .i64) hwi.out, by have := hig.out; unfold Hid; omega, H10, N10, K10, G10, PP10⟩
    · have ti : ¬ (i : Int) < (n : Int) := by omega
      have hie : i = n := by have := hig.out; omega
      subst hie
      have hik : i < ks.length := by have := HN.out; omega
      obtain ⟨p, hpe⟩ : ∃ p, ks[i] = p := ⟨_, rfl⟩
      have hp : p ∈ ks := by rw [← hpe]; exact List.getElem_mem hik
      have hks : ks = ks.take i ++ [p] := by
        have h1 := List.take_succ_eq_append_getElem hik
        rw [hpe, List.take_of_length_le (by have := HN.out; omega)] at h1
        exact h1
      obtain ⟨T, hT⟩ : ∃ T, ks.take i = T := ⟨_, rfl⟩
      have hTT : T.take i = T := by rw [← hT, List.take_take, Nat.min_self]
      have hTl : T.length = i := by rw [← hT, List.length_take]; omega
      have hTm : ∀ q, q ∈ T → q ∈ ks := fun q hq => by rw [← hT] at hq; exact List.mem_of_mem_take hq
      rw [hT, hTT] at HL1 NN
      rw [hT] at hks
      have hlt := HL1.out.box.lt
      obtain ⟨g1, o1, rfl, C1⟩ := (KK.out.kids (Nat.le_of_lt hlt)).at_ (Nat.lt_of_le_of_lt (Nat.zero_le _) hik)
      obtain ⟨hr1, q1⟩ := KK.out.kid hik
      have E1 := Lib.hid (C1 i hr1)
      have Q1 := Lib.hid q1
      obtain ⟨rk, hrk⟩ : ∃ rk, raws[i]'hr1 = rk := ⟨_, rfl⟩
      rw [hrk] at E1 Q1
      rw [hpe] at Q1
      have hplen : (pre T L.length 0).length = plen T := pre_len HS.out 0 _ _ hTm
      have hsum : sizes ks = sizes T + size p := by rw [hks, M14.sizes_append]; simp only [sizes, Nat.add_zero]
      obtain ⟨N, hN⟩ : ∃ N, L.length + plen T = N := ⟨_, rfl⟩
      have hNE : N + size p = E := by rw [← hN, ← HE.out, hsum]; unfold plen; omega
      have HC : Hid (∀ (w : World) (v : Value), Lay w b v (L ++ pre T L.length 0) → PAt (fun k => k < b) w rk p → Calls Tryz.prog 47 #[.pointer (some ⟨b, 0, none⟩), .agg (rawA rk)] w (Laid b v w (L ++ pre T L.length 0 ++ steps p N))) := by
        intro w v h1 h2
        have h3 := HI.out i hik w b v _ rk h1 (by rw [hpe]; exact h2) (by rw [List.length_append, hplen, hpe]; have := HL.out; omega)
        rw [hpe, List.length_append, hplen, hN] at h3
        exact h3
      have HPL : Hid ((steps p N).length = size p) := HS.out p hp N
      have HTL := Lib.hid hTl
      have HTM := Lib.hid hTm
      have HNN := Lib.hid hN
      have HNE := Lib.hid hNE
      -- all jumps are set: the whole
      have HFIN : Hid (L ++ (pre T L.length E ++ steps p N) = L ++ alts ks L.length E) := by
        unfold Hid
        have h1 := alts_pre p T L.length E
        rw [hks, h1, hN]
      have hn1 := HA.out.1
      have hn2 := HA.out.2
      rw [HN.out] at hn1
      have a2 := PP.out.c2
      simp only at a2
      have HT2 := Lib.hid hlt
      have HBASE := Lib.hid GG.out.size
      obtain ⟨M0, hM0⟩ : ∃ M0, spots T L.length = M0 := ⟨_, rfl⟩
      have hml : M0.length = i := by rw [← hM0, spots_len, hTl]
      rw [hM0] at NN
      obtain ⟨Aj, cj, rfl, hcj1, hcj2⟩ := NN.out.recs.form
      unfold maxLen at hcj2
      rw [hml] at hcj1 NN ⊢
      have HCJ := Lib.hid (show i ≤ cj ∧ cj ≤ 9223372036854775807 from ⟨hcj1, hcj2⟩)
      have HM0 := Lib.hid hM0
      have HML := Lib.hid hml
      clear C1 q1 hrk hlt hplen hN hp hpe hik hr1 hM0 hi hks hT hTT hTl hTm hsum hNE hml hcj1 hcj2
      go_wp2_with (first
        | (refine load_at rfl (.tmp 48) rfl rfl (r := rk) E1.out ?_))
      refine (HC.out _ _ HL1.out Q1.out).mono ?_
      rintro e w2 ⟨rfl, v2, h2, g2⟩
      have H2 := Lib.hid h2
      have N2 := Lib.hid (NN.out.grow HL1.out HT.out g2)
      have G2 := Lib.hid (GG.out.trans g2)
      clear h2 g2 a2 hn1 hn2
      have hcj1 := HCJ.out.1
      have hcj2 := HCJ.out.2
      go_wp2_with fail
      have HA2 : Hid (L ++ pre T L.length 0 ++ steps p N = L ++ (pre (T.take 0) L.length E ++ pre (T.drop 0) (L.length + plen (T.take 0)) 0) ++ steps p N) := by
        unfold Hid
        simp only [List.take_zero, List.drop_zero, pre, List.nil_append, show plen [] = 0 from rfl, Nat.add_zero]
      have HLAST : Hid (∀ x y : Nat, x = y → L ++ (pre (T.take i) L.length E ++ pre (T.drop i) (L.length + plen (T.take i)) 0) ++ steps p N = L ++ alts ks L.length E) := by
        intro x y _
        rw [← HFIN.out, List.take_of_length_le (by rw [HTL.out]; exact Nat.le_refl _), List.drop_of_length_le (by rw [HTL.out]; exact Nat.le_refl _)]
        simp only [pre, List.append_nil, List.append_assoc]
      clear hcj1 hcj2
      go_loopg [53] i (fun gk s53 wr => ∃ (j : Nat) (vL : Value), s53 = .int .i64 j ∧ Hid (j + gk = i) ∧ Hid (Lay wr b vL (L ++ (pre (T.take j) L.length E ++ pre (T.drop j) (L.length + plen (T.take j)) 0) ++ steps p N)) ∧ Hid (Nums w.heap.size wr (.slice Aj i cj) M0) ∧ Hid (Grow b v vL w wr))
      case atStart => exact ⟨0, v2, rfl, by unfold Hid; omega, by unfold Hid; rw [← HA2.out]; exact H2.out, N2, G2⟩
      case round =>
        obtain ⟨j, vL, rfl, hjg, HL3, N3, G3⟩ := hrel
        have hcj1 := HCJ.out.1
        have hcj2 := HCJ.out.2
        by_cases hj : j < i
        · have tj : (j : Int) < (i : Int) := by omega
          obtain ⟨X, Z, hX1, hX2, hX3⟩ := patched HS.out HTM.out (by rw [HTL.out]; exact hj) L.length E
          rw [HM0.out] at hX3
          obtain ⟨gj, cj2, hvj, -, -, -, -⟩ := own_form N3.out (by rw [HML.out]; omega)
          injection hvj with hv1 hv2 hv3
          subst hv1
          have hcell : wr.cell? ⟨gj, j, none⟩ = some (.int .i64 ((L.length + X.length : Nat) : Int)) := by
            have h1 : j < M0.length := by rw [HML.out]; exact hj
            have h2 := flat_at numC_len M0 j h1 0 (by decide)
            have h3 : M0[j] = L.length + X.length := by rw [List.getElem?_eq_getElem h1] at hX3; exact Option.some.inj hX3
            have h4 := N3.out
            unfold Nums at h4
            rw [HML.out] at h4
            have h5 := h4.cellAt j (by omega)
            rw [Nat.mul_one, Nat.add_zero] at h2
            rw [h5, h2, h3]; rfl
          obtain ⟨J, hJ⟩ : ∃ J, (L ++ X).length = J := ⟨_, rfl⟩
          rw [show L.length + X.length = J by rw [← hJ, List.length_append]] at hcell
          rw [hX1, List.append_assoc, List.append_assoc, ← List.append_assoc, List.cons_append] at HL3
          have hlen : (L ++ X ++ M15.jump 0 :: (Z ++ steps p N)).length = E := by
            have h1 := pre_len HS.out 0 T L.length HTM.out
            have h2 : (pre (T.take j) L.length E ++ pre (T.drop j) (L.length + plen (T.take j)) 0).length = plen T := by
              rw [List.length_append, pre_len HS.out E _ _ (fun q hq => HTM.out q (List.mem_of_mem_take hq)), pre_len HS.out 0 _ _ (fun q hq => HTM.out q (List.mem_of_mem_drop hq))]
              have h3 := M14.sizes_append (T.take j) (T.drop j)
              rw [List.take_append_drop] at h3
              unfold plen
              rw [h3, List.length_take, List.length_drop, HTL.out]; omega
            rw [hX1] at h2
            have h4 : (L ++ X ++ M15.jump 0 :: (Z ++ steps p N)).length = L.length + (X ++ M15.jump 0 :: Z).length + (steps p N).length := by simp only [List.length_append, List.length_cons]; omega
            rw [h4, h2, HPL.out, ← HNE.out, ← HNN.out]
          obtain ⟨gs, cs, hvL, hq1, hq2⟩ := HL3.out.shape (by rw [hlen]; simp only [List.length_append, List.length_cons] at hlen; omega)
          rw [hlen] at hvL hq1
          subst hvL
          have D3 := Lib.hid (below_draws wr 1)
          have H3d := Lib.hid (HL3.out.below D3.out)
          have HH : Hid (Calls Tryz.prog 82 #[.pointer (some ⟨b, 0, none⟩)] (wr.drewN 1) fun e w' => e = .returned (.int .i64 E) ∧ w' = wr.drewN 1) := by
            have h1 := here_any H3d.out
            rw [hlen] at h1
            exact h1
          have S0 : Hid ((wr.drewN 1).cell? ⟨b, 0, none⟩ = some (.slice (some ⟨gs, 0, none⟩) E cs)) := H3d.out.box.c0
          obtain ⟨f2, -, f3⟩ := H3d.out.field hJ
          have f3 := f3 (J * 4 + 2)
          unfold M15.jump at f2
          simp only at f2
          have SET := H3d.out.set2 (E : Int)
          rw [hJ] at SET
          have HX := Lib.hid SET
          have SE : Hid (((wr.drewN 1).setCell ⟨gs, J * 4 + 2, none⟩ (.int .i64 E)).cell? ⟨b, 0, none⟩ = some (.slice (some ⟨gs, 0, none⟩) E cs)) := SET.1.box.c0
          have tq : (J : Int) < (E : Int) := by rw [← hJ, ← hlen]; simp only [List.length_append, List.length_cons]; omega
          have HX2 : Hid (L ++ (pre (T.take (j + 1)) L.length E ++ pre (T.drop (j + 1)) (L.length + plen (T.take (j + 1))) 0) ++ steps p N = L ++ X ++ M15.jump E :: (Z ++ steps p N)) := by
            unfold Hid
            rw [hX2, List.append_assoc, List.append_assoc, ← List.append_assoc, List.cons_append]
          have hwj : Hid (wrap64 ((j : Int) + 1) = ((j + 1 : Nat) : Int)) := by unfold Hid wrap64; have := HCJ.out; omega
          have HJ2 := Lib.hid hj
          clear SET hX1 hX2 hX3 hJ hlen hv2 hv3 hj
          go_wp2_with fail
          refine wp_region_held_drew (S := fun w' => w'.cell? ⟨b, 0, none⟩ = some (.slice (some ⟨gs, 0, none⟩) E cs)) (by kernel_rfl) S0.out (fun hHeld => ?_)
          refine wpAnyH_take (i := 0) (oi := { dst := some 57, op := Op.move (Operand.tmp 0), type := 85, pos := "prog.go:109", after := #[], guard := none }) (v := ?vc0) rfl (by kernel_rfl) (by kernel_rfl) (by kernel_rfl) (fun _ _ _ h => h) (Or.inl ⟨by rfl, ?hc0⟩) (by assumption) ?rc0
          case hc0 => (intro w hSw; (try dsimp only at hSw); go_simp; try with_reducible rfl)
          try simp only [Act.put, List.setIfInBounds_toArray, List.set_cons_zero, List.set_cons_succ]
          refine wpAnyH_take (i := 1) (oi := { dst := some 58, op := Op.nilCheck (Operand.tmp 57), type := 0, pos := "prog.go:109", after := #[{ on := 0, ground := Ground.data }], guard := none }) (v := ?vc1) rfl (by kernel_rfl) (by kernel_rfl) (by kernel_rfl) (fun _ _ _ h => h) (Or.inl ⟨by rfl, ?hc1⟩) (by assumption) ?rc1
          case hc1 => (intro w hSw; (try dsimp only at hSw); go_simp; try with_reducible rfl)
          try simp only [Act.put, List.setIfInBounds_toArray, List.set_cons_zero, List.set_cons_succ]
          refine wpAnyH_take (i := 2) (oi := { dst := some 59, op := Op.fieldAddr 90 (Operand.tmp 58) 0, type := 0, pos := "prog.go:109", after := #[{ on := 1, ground := Ground.data }], guard := none }) (v := ?vc2) rfl (by kernel_rfl) (by kernel_rfl) (by kernel_rfl) (fun _ _ _ h => h) (Or.inl ⟨by rfl, ?hc2⟩) (by assumption) ?rc2
          case hc2 => (intro w hSw; (try dsimp only at hSw); go_simp; try with_reducible rfl)
          try simp only [Act.put, List.setIfInBounds_toArray, List.set_cons_zero, List.set_cons_succ]
          refine wpAnyH_take (i := 3) (oi := { dst := some 60, op := Op.load 32 (Operand.tmp 59), type := 32, pos := "prog.go:109", after := #[{ on := 2, ground := Ground.data }], guard := none }) (v := ?vc3) rfl (by kernel_rfl) (by kernel_rfl) (by kernel_rfl) (fun _ _ _ h => h) (Or.inl ⟨by rfl, ?hc3⟩) (by assumption) ?rc3
          case hc3 => (intro w hSw; (try dsimp only at hSw); go_simp; try with_reducible rfl)
          try simp only [Act.put, List.setIfInBounds_toArray, List.set_cons_zero, List.set_cons_succ]
          refine wpAnyH_take (i := 4) (oi := { dst := some 61, op := Op.move (Operand.tmp 10), type := 3, pos := "prog.go:109", after := #[], guard := none }) (v := ?vc4) rfl (by kernel_rfl) (by kernel_rfl) (by kernel_rfl) (fun _ _ _ h => h) (Or.inl ⟨by rfl, ?hc4⟩) (by assumption) ?rc4
          case hc4 => (intro w hSw; (try dsimp only at hSw); go_simp; try with_reducible rfl)
          try simp only [Act.put, List.setIfInBounds_toArray, List.set_cons_zero, List.set_cons_succ]
          refine wpAnyH_take (i := 5) (oi := { dst := some 62, op := Op.move (Operand.tmp 0), type := 85, pos := "prog.go:109", after := #[], guard := none }) (v := ?vc5) rfl (by kernel_rfl) (by kernel_rfl) (by kernel_rfl) (fun _ _ _ h => h) (Or.inl ⟨by rfl, ?hc5⟩) (by assumption) ?rc5
          case hc5 => (intro w hSw; (try dsimp only at hSw); go_simp; try with_reducible rfl)
          try simp only [Act.put, List.setIfInBounds_toArray, List.set_cons_zero, List.set_cons_succ]
          refine wpAnyH_ready (rs := [6]) (by kernel_rfl) (by simp) ?_
          refine AllReadyH.cons (o := { dst := some 63, op := Op.call { callee := Callee.value (Operand.func 82), args := #[Operand.tmp 62], argTypes := #[85] }, type := 3, pos := "prog.go:109", after := #[{ on := 5, ground := Ground.data }], guard := none }) rfl (fun K hK => ?_) AllReadyH.nil
          go_simp
          (go_at_call 82; refine HH.out.mono ?_; rintro e x1 ⟨rfl, rfl⟩)
          go_wp2_with fail
          refine hK.out _ _ ?_ (fun hHeld => ?_)
          · exact S0.out
          clear hK K
          try simp only [Act.put, List.setIfInBounds_toArray, List.set_cons_zero, List.set_cons_succ]
          refine wpAnyH_take (i := 7) (oi := { dst := some 64, op := Op.indexAddr 32 (Operand.tmp 60) (Operand.tmp 61), type := 0, pos := "prog.go:109", after := #[{ on := 3, ground := Ground.data }, { on := 4, ground := Ground.data }, { on := 0, ground := Ground.phase }, { on := 1, ground := Ground.phase }, { on := 2, ground := Ground.phase }, { on := 3, ground := Ground.phase }, { on := 4, ground := Ground.phase }, { on := 5, ground := Ground.phase }, { on := 6, ground := Ground.phase }], guard := none }) (v := ?vc7) rfl (by kernel_rfl) (by kernel_rfl) (by kernel_rfl) (fun _ _ _ h => h) (Or.inl ⟨by rfl, ?hc7⟩) (by assumption) ?rc7
          case hc7 => (intro w hSw; (try dsimp only at hSw); go_simp; try with_reducible rfl)
          try simp only [Act.put, List.setIfInBounds_toArray, List.set_cons_zero, List.set_cons_succ]
          refine wpAnyH_take (i := 8) (oi := { dst := some 65, op := Op.fieldAddr 62 (Operand.tmp 64) 2, type := 0, pos := "prog.go:109", after := #[{ on := 7, ground := Ground.data }, { on := 0, ground := Ground.phase }, { on := 1, ground := Ground.phase }, { on := 2, ground := Ground.phase }, { on := 3, ground := Ground.phase }, { on := 4, ground := Ground.phase }, { on := 5, ground := Ground.phase }, { on := 6, ground := Ground.phase }], guard := none }) (v := ?vc8) rfl (by kernel_rfl) (by kernel_rfl) (by kernel_rfl) (fun _ _ _ h => h) (Or.inl ⟨by rfl, ?hc8⟩) (by assumption) ?rc8
          case hc8 => (intro w hSw; (try dsimp only at hSw); go_simp; try with_reducible rfl)
          try simp only [Act.put, List.setIfInBounds_toArray, List.set_cons_zero, List.set_cons_succ]
          refine wpAnyH_ready (rs := [9]) (by kernel_rfl) (by simp) ?_
          refine AllReadyH.cons (o := { dst := none, op := Op.store 3 (Operand.tmp 65) (Operand.tmp 63), type := 0, pos := "prog.go:109", after := #[{ on := 8, ground := Ground.data }, { on := 6, ground := Ground.data }, { on := 6, ground := Ground.chain }, { on := 0, ground := Ground.phase }, { on := 1, ground := Ground.phase }, { on := 2, ground := Ground.phase }, { on := 3, ground := Ground.phase }, { on := 4, ground := Ground.phase }, { on := 5, ground := Ground.phase }, { on := 6, ground := Ground.phase }], guard := none }) rfl (fun K hK => ?_) AllReadyH.nil
          go_simp
          skip
          go_wp2_with fail
          refine hK.out _ _ ?_ (fun hHeld => ?_)
          · exact SE.out
          clear hK K
          try simp only [Act.put, List.setIfInBounds_toArray, List.set_cons_zero, List.set_cons_succ]
          refine wpAnyH_done (by kernel_rfl) ?_ _
          have H5 : Hid (Lay ((wr.drewN 1).setCell ⟨gs, J * 4 + 2, none⟩ (.int .i64 E)) b (.slice (some ⟨gs, 0, none⟩) E cs) (L ++ (pre (T.take (j + 1)) L.length E ++ pre (T.drop (j + 1)) (L.length + plen (T.take (j + 1))) 0) ++ steps p N)) := by unfold Hid; rw [HX2.out]; exact HX.out.1
          have N5 := Lib.hid ((Nums.below N3.out D3.out).grow H3d.out HT.out HX.out.2)
          have G5 := Lib.hid ((G3.out.trans (Grow.of D3.out)).trans HX.out.2)
          clear f2 f3 tq hcell
          cases gk with
          | zero => exact absurd hjg.out (by have := HJ2.out; omega)
          | succ g =>
            go_wp2_with fail
            go_roundg g
            case measure => omega
            case rel => exact ⟨j + 1, _, by first | rfl | exact congrArg (Value.int .i64) hwj.out, by have := hjg.out; unfold Hid; omega, H5, N5, G5⟩
        · have tj : ¬ (j : Int) < (i : Int) := by omega
          have hje : j = i := by have := hjg.out; omega
          subst hje
          have HL4 : Hid (Lay wr b vL (L ++ alts ks L.length E)) := by unfold Hid; rw [← HLAST.out 0 0 rfl]; exact HL3.out
          clear hj
          go_wp2_with fail
          go_end0
          exact ⟨rfl, vL, HL4.out, G3.out⟩
end Go.Proofs.YtehdnbidgphecaaGreatDoor.W15
