/-
  Texts joined, in build order, each with its own comment and its own conditions: W15RefAlt, W15RefReps, W14RefBox.
-/
import Derived.Test.YtmbibaccpeldoaaGreatDoorJ21
import Derived.Test.YtmbibaccpeldoaaGreatDoorJ16
import Derived.Test.YtmbibaccpeldoaaGreatDoorJ02
/-
  Layer 15 (prog), walk of the document's Steps of an alternative. The conditions stand in the statements.
-/
namespace Go.Proofs.YtmbibaccpeldoaaGreatDoor.W15
set_option maxRecDepth 100000
open Go Go.RowKit Go.Proofs.YtmbibaccpeldoaaGreatDoor.Strs Go.Proofs.YtmbibaccpeldoaaGreatDoor.Recs Go.Proofs.YtmbibaccpeldoaaGreatDoor.M15
open Go.Proofs.YtmbibaccpeldoaaGreatDoor.M14 (Piece size sizes)
open Go.Proofs.YtmbibaccpeldoaaGreatDoor.W14 (Raw Raws rawA rawC PAt PAll PBox PLow box_arg load_piece load_at cell_block)
open Go.Proofs.YtmbibaccpeldoaaGreatDoor.Kit (below_draws on)

theorem wrap_sum {a b c : Nat} (h : a + b = c) (hc : c ≤ 100000) : wrap64 ((a : Int) + (b : Int)) = (c : Int) := by unfold wrap64; omega
theorem wrap_two {a c : Nat} (h : a + 2 = c) (hc : c ≤ 100000) : wrap64 ((a : Int) + 2) = (c : Int) := by unfold wrap64; omega
theorem wrap_one {a c : Nat} (h : a + 1 = c) (hc : c ≤ 9223372036854775807) : wrap64 ((a : Int) + 1) = (c : Int) := by unfold wrap64; omega
/-- a kid at the beginning: its cells, its reading later on -/
theorem kid_at {w0 : World} {A : Option Addr} {c : Nat} {raws : List Raw} {ks : List Piece} (K0 : W14.Kids w0 A c raws ks) {i : Nat} (hi : i < ks.length) {p : Piece} (hp : ks[i] = p) : ∃ g1 o1 rk, A = some ⟨g1, o1, none⟩ ∧ g1 < w0.heap.size ∧ PLow w0 rk p ∧ ∀ j, j < 5 → w0.cell? ⟨g1, o1 + i * 5 + j, none⟩ = (rawC rk)[j]? := by
  obtain ⟨g1, o1, hA, C1⟩ := K0.at_ (Nat.lt_of_le_of_lt (Nat.zero_le _) hi)
  obtain ⟨hr1, q1⟩ := K0.kid hi
  refine ⟨g1, o1, raws[i], hA, K0.2.1 _ hA (Nat.lt_of_le_of_lt (Nat.zero_le _) hr1), ?_, C1 i hr1⟩
  rw [← hp]; exact q1
theorem cells_on {w0 w : World} {g1 o : Nat} {rk : Raw} (h : ∀ j, j < 5 → w0.cell? ⟨g1, o + j, none⟩ = (rawC rk)[j]?) (hg : g1 < w0.heap.size) (hl : Below w0.heap.size w0 w) : ∀ j, j < 5 → w.cell? ⟨g1, o + j, none⟩ = (rawC rk)[j]? := fun j hj => (cell_block (hl.block g1 hg)).trans (h j hj)
set_option maxHeartbeats 8000000 in
theorem rst_alt {ks : List Piece} (hg : M15.Good (.mk 8 no ks 0 0)) (hgk : ∀ p, p ∈ ks → M15.Good p) (IH : ∀ i (hi : i < ks.length), RSt ks[i]) (hs : ∀ q, q ∈ ks → ∀ a, (steps q a).length = size q) {w : World} {r : Raw} {a n E Sz : Nat} (h : PLow w r (.mk 8 no ks 0 0)) (hn : ks.length = n + 1) (hS : size (.mk 8 no ks 0 0) = Sz) (hSz : sizes ks + 2 * n = Sz) (hz : Sz ≤ 4000) (hE : a + Sz = E) (ha : E ≤ 8000) :
    Calls Tryz.prog 20 #[.agg (rawA r), .int .i64 a] w (Gets w (alts ks a E)) := by
  have HSZC := Lib.hid (fun w r hl => size_of hg w r hl)
  rw [hS] at HSZC
  have HLOW := Lib.hid h
  obtain ⟨A, c, raws, rfl, k1⟩ := h.parts
  have HI := Lib.hid IH
  have HS := Lib.hid hs
  have HGK := Lib.hid hgk
  have HR := Lib.hid k1.room
  have K0 := Lib.hid k1
  have HN := Lib.hid hn
  have HSU := Lib.hid hSz
  have HSUM := Lib.hid (show True ∧ Sz ≤ 4000 ∧ a + Sz = E ∧ E ≤ 8000 from ⟨trivial, hz, hE, ha⟩)
  have hwE := wrap_sum hE (by clear hSz; omega)
  obtain ⟨nk, hnk⟩ : ∃ nk, ks.length = nk := ⟨_, rfl⟩
  have HNK := Lib.hid hnk
  rw [hnk] at HR HLOW ⊢
  have HNN := Lib.hid (show nk = n + 1 by omega)
  clear h k1 IH hs hgk hg hS hSz hz hE ha hn hnk
  go_enter Tryz.func20, Tryz.ntmps20
  go_wp2_with (first
    | (refine box_arg (r := ⟨8, no, A, nk, c, 0, 0⟩) rfl (.tmp 0) rfl rfl ?_; intro w1 b1 e1 p1 l1 z1; have a0 := p1.c0; have P1 := Lib.hid p1; have L1 := Lib.hid l1; clear e1 p1 l1 z1; simp only at a0)
    | (refine load_piece (r := ⟨8, no, A, nk, c, 0, 0⟩) rfl (.tmp 2) rfl rfl P1.out ?_))
  refine (HSZC.out _ _ (HLOW.out.below L1.out)).mono ?_
  rintro e w2 ⟨rfl, l2⟩
  have S0 := Lib.hid ((St.start (w0 := w) P1.out L1.out).below l2)
  clear l2 a0
  go_wp2_with fail
  simp only [hwE]
  clear hwE
  go_loopg [5, 8] nk (fun gk s5 s8 wr => ∃ (i : Nat) (vo : Value) (Li : List Inst), s5 = vo ∧ s8 = .int .i64 i ∧ Hid (i + gk = nk) ∧ Hid ((i ≤ n → Li = pre (ks.take i) a E) ∧ (i = nk → Li = alts ks a E)) ∧ Hid (St w wr b1 ⟨8, no, A, nk, c, 0, 0⟩ vo Li))
  case atStart => exact ⟨0, .slice none 0 0, [], rfl, rfl, by unfold Hid; omega, ⟨fun _ => by simp only [List.take_zero, pre], fun q => by have := HNN.out; omega⟩, S0⟩
  case round =>
    obtain ⟨i, vo, Li, rfl, rfl, hig, HLi, SS⟩ := hrel
    have a2 := SS.out.box.c2
    simp only at a2
    have hn1 := HR.out.1
    have hn2 := HR.out.2
    by_cases hi : i < nk
    · have ti : (i : Int) < (nk : Int) := by omega
      have hik : i < ks.length := by rw [HNK.out]; exact hi
      obtain ⟨p, hp⟩ : ∃ p, ks[i]'hik = p := ⟨_, rfl⟩
      have hpm : p ∈ ks := by rw [← hp]; exact List.getElem_mem hik
      obtain ⟨g1, o1, rk, rfl, hg1, q0, C0⟩ := kid_at K0.out hik hp
      have HG1 := Lib.hid hg1
      have Q0 := Lib.hid q0
      have C0 := Lib.hid C0
      have hin : i ≤ n := by have := HNN.out; omega
      have hLi := HLi.out.1 hin
      obtain ⟨s, hsz⟩ : ∃ s, size p = s := ⟨_, rfl⟩
      obtain ⟨T, hT⟩ : ∃ T, ks.take i = T := ⟨_, rfl⟩
      have hTm : ∀ q, q ∈ T → q ∈ ks := fun q hq => by rw [← hT] at hq; exact List.mem_of_mem_take hq
      have htk : ks.take (i + 1) = T ++ [p] := by rw [List.take_succ_eq_append_getElem hik, hT, hp]
      obtain ⟨N, hN⟩ : ∃ N, plen T = N := ⟨_, rfl⟩
      have hlen : Li.length = N := by rw [hLi, hT, pre_len HS.out E _ _ hTm, hN]
      obtain ⟨hh, hhh⟩ : ∃ hh, a + N = hh := ⟨_, rfl⟩
      have hbd : N + s + 2 * (nk - (i + 1)) ≤ Sz := by
        have h1 := sizes_take_le ks (i + 1)
        rw [htk, M14.sizes_append] at h1
        have h2 : sizes [p] = s := by simp only [sizes, Nat.add_zero]; exact hsz
        have h3 : T.length = i := by rw [← hT, List.length_take]; omega
        have h4 := HSU.out
        have h5 := HNN.out
        rw [h2] at h1
        unfold plen at hN
        rw [h3] at hN
        generalize sizes T = q1 at *
        generalize sizes ks = q2 at *
        clear hLi hlen htk hTm hT
        omega
      have HB := Lib.hid hbd
      have HLN := Lib.hid hlen
      have HPS : Hid (∀ a, (steps p a).length = s) := by unfold Hid; rw [← hsz]; exact HS.out p hpm
      have HSC := Lib.hid (fun w r hl => size_of (HGK.out p hpm) w r hl)
      rw [hsz] at HSC
      have HIP : Hid (∀ (w : World) (a' : Nat), PLow w rk p → a' + s ≤ 8000 → Calls Tryz.prog 20 #[.agg (rawA rk), .int .i64 a'] w (Gets w (steps p a'))) := by
        intro w a' h1 h2
        have h3 := HI.out i hik w rk a'
        rw [hp, hsz] at h3
        exact h3 h1 (by have := HB.out; have := HSUM.out.2.1; clear htk hLi hT; omega) h2
      have HLI : Hid (Li = pre T a E) := by unfold Hid; rw [hLi, hT]
      have HTK := Lib.hid htk
      have HPN := Lib.hid hN
      have HSIZ := Lib.hid hsz
      have HHH := Lib.hid hhh
      have hw1 := wrap_sum hhh (by have := HB.out; have := HSUM.out; clear htk hLi hT; omega)
      obtain ⟨j, hj⟩ : ∃ j, i + 1 = j := ⟨_, rfl⟩
      have hwj := wrap_one hj (by have := HR.out; clear htk hLi hT; omega)
      have HJ := Lib.hid hj
      have HJI : Hid ((i : Int) + 1 = (j : Int)) := by unfold Hid; rw [← hj]; rfl
      have HIK := Lib.hid hik
      obtain ⟨Ao, co, rfl, hco1, hco2⟩ := SS.out.form
      rw [hlen] at hco1 SS ⊢
      have E0 := Lib.hid (cells_on C0.out HG1.out SS.out.low)
      clear hLi hT hTm htk hN hlen hbd hsz hp hpm hg1 q0 hin hhh hj hi hik
      go_wp2_with (first | (refine load_at rfl (.tmp 92) rfl rfl (r := rk) E0.out ?_))
      refine (HSC.out _ _ (Q0.out.below SS.out.low)).mono ?_
      rintro e w3 ⟨rfl, l3⟩
      have S3 := Lib.hid (SS.out.below l3)
      clear l3 a2 hw1
      have a2 := S3.out.box.c2
      simp only at a2
      by_cases hlast : j < nk
      · have tj : (j : Int) < (nk : Int) := by clear hwj; omega
        have tj2 : (i : Int) + 1 < (nk : Int) := by have := HJ.out; clear hwj; omega
        obtain ⟨x1, hx1⟩ : ∃ x1, hh + 1 = x1 := ⟨_, rfl⟩
        obtain ⟨y0, hy0⟩ : ∃ y0, hh + s = y0 := ⟨_, rfl⟩
        obtain ⟨y1, hy1⟩ : ∃ y1, y0 + 2 = y1 := ⟨_, rfl⟩
        have HBB : Hid (hh + s + 2 ≤ 8000) := by unfold Hid; have := HB.out; have := HSUM.out; have := HHH.out; have := HJ.out; clear ti tj hwj; omega
        have HXY := Lib.hid (show x1 = hh + 1 ∧ y1 = hh + s + 2 from ⟨hx1.symm, by clear hwj; omega⟩)
        have HBX := Lib.hid (show x1 ≤ 8000 ∧ y0 ≤ 8000 ∧ y1 ≤ 8000 from by have := HBB.out; clear hwj; exact ⟨by omega, by omega, by omega⟩)
        have hwx := wrap_one hx1 (Nat.le_trans HBX.out.1 (by decide))
        have hwy := wrap_sum hy0 (Nat.le_trans HBX.out.2.1 (by decide))
        have hwz := wrap_two hy1 (Nat.le_trans HBX.out.2.2 (by decide))
        have HIPX := Lib.hid (HIP.out)
        have e3 := Lib.hid (cells_on C0.out HG1.out S3.out.low)
        have HL1 : Hid (Li.length + [(⟨6, ⟨#[]⟩, (x1 : Nat), (y1 : Nat)⟩ : Inst)].length ≤ 1000000) := by unfold Hid; rw [HLN.out]; simp only [List.length_cons, List.length_nil]; have := HB.out; have := HSUM.out; clear hwx hwy hwz hwj; omega
        clear hx1 hy0 hy1 hlast
        go_wp2_with (first
          | (refine slice_ins (r := ⟨6, ⟨#[]⟩, (x1 : Nat), (y1 : Nat)⟩) rfl (.tmp 108) rfl rfl ?_; intro w4 b4 e4 p4 l4 z4 o4; have R4 := Lib.hid p4; have S4 := Lib.hid (S3.out.below l4); clear e4 p4 l4 z4 o4)
          | (refine append_ins rfl (.tmp 101) (.tmp 109) rfl rfl rfl S4.out.own R4.out HL1.out S4.out.low.size ?_; intro v5 w5 o5 p5; have S5 := Lib.hid (S4.out.put o5 p5); clear o5 p5; clear a2; have a2 := S5.out.box.c2; simp only at a2; have e5 := Lib.hid (cells_on C0.out HG1.out S5.out.low))
          | (refine load_at rfl (.tmp 115) rfl rfl (r := rk) e5.out ?_))
        refine (HIPX.out _ x1 (Q0.out.below S5.out.low) (by have := HBB.out; have := HXY.out; clear hwx hwy hwz hwj; omega)).mono ?_
        rintro e w6 ⟨v6, rfl, o6, l6⟩
        have S6 := Lib.hid (S5.out.below l6)
        have R6 := Lib.hid (Recs.of_own insC_len rfl o6)
        have HL2 : Hid ((Li ++ [(⟨6, ⟨#[]⟩, (x1 : Nat), (y1 : Nat)⟩ : Inst)]).length + (steps p x1).length ≤ 1000000) := by unfold Hid; rw [List.length_append, HLN.out, HPS.out]; simp only [List.length_cons, List.length_nil]; have := HB.out; have := HSUM.out; clear hwx hwy hwz hwj; omega
        have HL3 : Hid ((Li ++ [(⟨6, ⟨#[]⟩, (x1 : Nat), (y1 : Nat)⟩ : Inst)] ++ steps p x1).length + [(⟨8, ⟨#[]⟩, (E : Nat), 0⟩ : Inst)].length ≤ 1000000) := by unfold Hid; rw [List.length_append, List.length_append, HLN.out, HPS.out]; simp only [List.length_cons, List.length_nil]; have := HB.out; have := HSUM.out; clear hwx hwy hwz hwj; omega
        clear o6 l6 a2 hwx hwy hwz
        go_wp2_with (first
          | (refine append_ins rfl (.tmp 111) (.tmp 119) rfl rfl rfl S6.out.own R6.out HL2.out S6.out.low.size ?_; intro v7 w7 o7 p7; have S7 := Lib.hid (S6.out.put o7 p7); clear o7 p7)
          | (refine slice_ins (r := ⟨8, ⟨#[]⟩, (E : Nat), 0⟩) rfl (.tmp 123) rfl rfl ?_; intro w8 b8 e8 p8 l8 z8 o8; have R8 := Lib.hid p8; have S8 := Lib.hid (S7.out.below l8); clear e8 p8 l8 z8 o8)
          | (refine append_ins rfl (.tmp 121) (.tmp 124) rfl rfl rfl S8.out.own R8.out HL3.out S8.out.low.size ?_; intro v9 w9 o9 p9; have S9 := Lib.hid (S8.out.put o9 p9); clear o9 p9))
        have HREL : Hid ((j ≤ n → Li ++ [(⟨6, ⟨#[]⟩, (x1 : Nat), (y1 : Nat)⟩ : Inst)] ++ steps p x1 ++ [(⟨8, ⟨#[]⟩, (E : Nat), 0⟩ : Inst)] = pre (ks.take j) a E) ∧ (j = nk → Li ++ [(⟨6, ⟨#[]⟩, (x1 : Nat), (y1 : Nat)⟩ : Inst)] ++ steps p x1 ++ [(⟨8, ⟨#[]⟩, (E : Nat), 0⟩ : Inst)] = alts ks a E)) := by
          refine ⟨fun _ => ?_, fun q => by clear hwj; omega⟩
          rw [← HJ.out, HTK.out, pre_append, HPN.out, HHH.out, HLI.out, HXY.out.1, HXY.out.2]
          simp only [pre, HSIZ.out, List.append_assoc, List.cons_append, List.nil_append]
          rfl
        cases gk with
        | zero => exact absurd hig.out (by have := HIK.out; have := HNK.out; clear hwj; omega)
        | succ g =>
          go_wp2_with fail
          go_roundg g
          case measure => omega
          case rel => exact ⟨j, v9, _, rfl, by first | rfl | exact congrArg (Value.int .i64) hwj | exact congrArg (Value.int .i64) HJI.out, by have := hig.out; have := HJ.out; clear hwj; unfold Hid; omega, HREL, S9⟩
      · have tj : ¬ (j : Int) < (nk : Int) := by clear hwj; omega
        have tj2 : ¬ (i : Int) + 1 < (nk : Int) := by have := HJ.out; clear hwj; omega
        have hjn : j = nk := by have := HIK.out; have := HNK.out; have := HJ.out; clear tj hwj; omega
        have HJN := Lib.hid hjn
        have HHB : Hid (hh + s ≤ 8000) := by unfold Hid; have := HB.out; have := HSUM.out; have := HHH.out; clear hwj ti tj; omega
        have e3 := Lib.hid (cells_on C0.out HG1.out S3.out.low)
        clear hjn hlast
        go_wp2_with (first
          | (refine load_at rfl (.tmp 130) rfl rfl (r := rk) e3.out ?_))
        refine (HIP.out _ hh (Q0.out.below S3.out.low) HHB.out).mono ?_
        rintro e w6 ⟨v6, rfl, o6, l6⟩
        have S6 := Lib.hid (S3.out.below l6)
        have R6 := Lib.hid (Recs.of_own insC_len rfl o6)
        have HL2 : Hid (Li.length + (steps p hh).length ≤ 1000000) := by unfold Hid; rw [HLN.out, HPS.out]; have := HB.out; have := HSUM.out; clear hwj; omega
        clear o6 l6 a2
        go_wp2_with (first
          | (refine append_ins rfl (.tmp 126) (.tmp 133) rfl rfl rfl S6.out.own R6.out HL2.out S6.out.low.size ?_; intro v7 w7 o7 p7; have S7 := Lib.hid (S6.out.put o7 p7); clear o7 p7))
        have HREL : Hid ((j ≤ n → Li ++ steps p hh = pre (ks.take j) a E) ∧ (j = nk → Li ++ steps p hh = alts ks a E)) := by
          refine ⟨fun q => by have := HNN.out; have := HJN.out; clear hwj; omega, fun _ => ?_⟩
          have h1 := alts_pre p (ks.take i) a E
          have h2 : ks = ks.take i ++ [p] := by
            have h3 : ks.take (i + 1) = ks := List.take_of_length_le (by have := HJN.out; have := HJ.out; have := HNK.out; clear hwj; omega)
            have h4 := HTK.out
            rw [h3] at h4
            have h5 : ks.take i = (ks.take (i + 1)).take i := by rw [List.take_take]; congr 1; omega
            have h6 : T.length = i := by
              have := congrArg List.length h4
              rw [List.length_append] at this
              simp only [List.length_cons, List.length_nil] at this
              have := HJN.out; have := HJ.out; have := HNK.out; clear hwj; omega
            rw [h5, h3, h4, List.take_append_of_le_length (by omega), List.take_of_length_le (by omega)]
          rw [← h2] at h1
          have h7 : ks.take i = T := by
            have h8 := HTK.out
            have h9 : (ks.take (i + 1)).take i = ks.take i := by rw [List.take_take]; congr 1; omega
            rw [h8] at h9
            have h6 : T.length = i := by
              have := congrArg List.length h8
              rw [List.length_append, List.length_take] at this
              simp only [List.length_cons, List.length_nil] at this
              have := HIK.out; clear hwj; omega
            rw [← h9, List.take_append_of_le_length (by omega), List.take_of_length_le (by omega)]
          rw [h1, h7, HPN.out, HHH.out, HLI.out]
        cases gk with
        | zero => exact absurd hig.out (by have := HIK.out; have := HNK.out; clear hwj; omega)
        | succ g =>
          go_wp2_with fail
          go_roundg g
          case measure => omega
          case rel => exact ⟨j, v7, _, rfl, by first | rfl | exact congrArg (Value.int .i64) hwj | exact congrArg (Value.int .i64) HJI.out, by have := hig.out; have := HJ.out; clear hwj; unfold Hid; omega, HREL, S7⟩
    · have ti : ¬ (i : Int) < (nk : Int) := by omega
      have hie : i = nk := by have := hig.out; omega
      have hL := HLi.out.2 hie
      subst hL
      clear hie hi
      go_wp2_with fail
      go_ret
      exact SS.out.gets
end Go.Proofs.YtmbibaccpeldoaaGreatDoor.W15
/-
  Layer 15 (prog), walk of the document's Steps of what is repeated, and of any piece. The conditions stand in the statements.
-/
namespace Go.Proofs.YtmbibaccpeldoaaGreatDoor.W15
set_option maxRecDepth 100000
open Go Go.RowKit Go.Proofs.YtmbibaccpeldoaaGreatDoor.Strs Go.Proofs.YtmbibaccpeldoaaGreatDoor.Recs Go.Proofs.YtmbibaccpeldoaaGreatDoor.M15
open Go.Proofs.YtmbibaccpeldoaaGreatDoor.M14 (Piece size sizes)
open Go.Proofs.YtmbibaccpeldoaaGreatDoor.W14 (Raw Raws rawA rawC PAt PAll PBox PLow box_arg load_piece load_at cell_block)
open Go.Proofs.YtmbibaccpeldoaaGreatDoor.Kit (below_draws on)

set_option maxHeartbeats 8000000 in
theorem rst_ever {p : Piece} {M : Nat} (hM : M ≤ 100) (hg : M15.Good (.mk 9 no [p] (M : Int) (-1))) (hgk : M15.Good p) (IH : RSt p) {w : World} {r : Raw} {a E Sz : Nat} (h : PLow w r (.mk 9 no [p] (M : Int) (-1))) (hS : size (.mk 9 no [p] (M : Int) (-1)) = Sz) (hSz : M * size p + size p + 2 = Sz) (hz : Sz ≤ 4000) (hE : a + Sz = E) (ha : E ≤ 8000) :
    Calls Tryz.prog 20 #[.agg (rawA r), .int .i64 a] w (Gets w (times (steps p) M a ++ star (steps p) E (a + (times (steps p) M a).length))) := by
  have HM := Lib.hid hM
  clear hM
  have HSZC := Lib.hid (fun w r hl => size_of hg w r hl)
  rw [hS] at HSZC
  have HLOW := Lib.hid h
  obtain ⟨A, c, raws, rfl, k1⟩ := h.parts
  have HIH := Lib.hid IH
  have HGK := Lib.hid hgk
  have hr : 1 ≤ c ∧ c ≤ 9223372036854775807 := k1.room
  obtain ⟨g1, o1, rk, rfl, hg1, q0, C0⟩ := kid_at k1 (i := 0) (Nat.lt_succ_self 0) rfl
  have HG1 := Lib.hid hg1
  have Q0 : Hid (PLow w rk p) := q0
  rw [show o1 + 0 * 5 = o1 by omega] at C0
  have C0 := Lib.hid C0
  obtain ⟨K, hK⟩ : ∃ K, size p = K := ⟨_, rfl⟩
  rw [hK] at hSz
  have HK := Lib.hid hK
  have HSU := Lib.hid hSz
  have HSUM := Lib.hid (show Sz ≤ 4000 ∧ a + Sz = E ∧ E ≤ 8000 from ⟨hz, hE, ha⟩)
  have hwE := wrap_sum hE (by clear hSz; omega)
  have hc1 := hr.1
  have hc2 := hr.2
  have HCR := Lib.hid hr
  have HIP : Hid (∀ (w : World) (a' : Nat), PLow w rk p → K ≤ 4000 → a' + K ≤ 8000 → Calls Tryz.prog 20 #[.agg (rawA rk), .int .i64 a'] w (Gets w (steps p a'))) := by
    intro w a' h1 h2 h3
    have h4 := HIH.out w rk a'
    rw [hK] at h4
    exact h4 h1 h2 h3
  clear h k1 IH hg hgk hS hSz hz hE ha hK hr q0 hg1
  go_enter Tryz.func20, Tryz.ntmps20
  go_wp2_with (first
    | (refine box_arg (r := ⟨9, no, some ⟨g1, o1, none⟩, 1, c, (M : Int), -1⟩) rfl (.tmp 0) rfl rfl ?_; intro w1 b1 e1 p1 l1 z1; have a0 := p1.c0; have P1 := Lib.hid p1; have L1 := Lib.hid l1; clear e1 p1 l1 z1; simp only at a0)
    | (refine load_piece (r := ⟨9, no, some ⟨g1, o1, none⟩, 1, c, (M : Int), -1⟩) rfl (.tmp 2) rfl rfl P1.out ?_))
  refine (HSZC.out _ _ (HLOW.out.below L1.out)).mono ?_
  rintro e w2 ⟨rfl, l2⟩
  have S0 := Lib.hid ((St.start (w0 := w) P1.out L1.out).below l2)
  clear l2 a0 hc1 hc2
  go_wp2_with fail
  simp only [hwE]
  clear hwE
  go_loopg [5, 12] M (fun gk s5 s12 wr => ∃ (i : Nat) (vo : Value), s5 = vo ∧ s12 = .int .i64 i ∧ Hid (i + gk = M) ∧ Hid (St w wr b1 ⟨9, no, some ⟨g1, o1, none⟩, 1, c, (M : Int), -1⟩ vo (times (steps p) i a)))
  case atStart => exact ⟨0, .slice none 0 0, rfl, rfl, by unfold Hid; omega, by unfold Hid; simp only [times]; exact S0.out⟩
  case round =>
    obtain ⟨i, vo, rfl, rfl, hig, SS⟩ := hrel
    have a2 := SS.out.box.c2
    have a3 := SS.out.box.c3
    simp only at a2 a3
    have hn1 := HCR.out.1
    have hn2 := HCR.out.2
    by_cases hi : i < M
    · have ti : (i : Int) < (M : Int) := by omega
      have hK4 : K ≤ 4000 := by have := HSU.out; have := HSUM.out.1; generalize M * K = MK at *; omega
      have hlen := steps_len HGK.out (by rw [HK.out]; exact hK4)
      rw [HK.out] at hlen
      have hmul : (i + 1) * K ≤ M * K := Nat.mul_le_mul_right _ hi
      rw [Nat.succ_mul] at hmul
      have hll := times_len hlen i a
      have hsn := times_snoc (steps p) i a
      rw [hll] at hsn
      obtain ⟨Q, hQ⟩ : ∃ Q, i * K = Q := ⟨_, rfl⟩
      rw [hQ] at hmul hll hsn
      obtain ⟨S, hSa⟩ : ∃ S, a + Q = S := ⟨_, rfl⟩
      rw [hSa] at hsn
      have hQK : Q + K ≤ Sz := by
        have := HSU.out
        generalize M * K = MK at *
        clear hlen hll hsn
        omega
      have HQB := Lib.hid (show Q + K ≤ 4000 ∧ S + K ≤ 8000 from by have := HSUM.out; clear hmul hlen hll hsn hQ; exact ⟨by omega, by omega⟩)
      have hw := wrap_sum hSa (by have := HQB.out; clear hmul hlen hll hsn hQ; omega)
      have HC := Lib.hid (HIP.out wr S (Q0.out.below SS.out.low) hK4 HQB.out.2)
      have HX : Hid (times (steps p) (i + 1) a = times (steps p) i a ++ steps p S) := hsn
      have HL : Hid ((times (steps p) i a).length + (steps p S).length ≤ 1000000) := by unfold Hid; rw [hll, hlen S]; have := HQB.out; clear hw hmul hlen hll hsn hQ; omega
      obtain ⟨Ao, co, rfl, hco1, hco2⟩ := SS.out.form
      rw [hll] at hco1 SS ⊢
      have hwi : Hid (wrap64 ((i : Int) + 1) = ((i + 1 : Nat) : Int)) := by unfold Hid wrap64; have := HM.out; clear hw hmul hlen hll hsn hQ; omega
      have HI2 := Lib.hid hi
      have E0 := Lib.hid (cells_on C0.out HG1.out SS.out.low)
      clear hlen hmul hll hsn hQ hSa hQK hi hK4
      go_wp2_with (first | (refine load_at rfl (.tmp 150) rfl rfl (r := rk) E0.out ?_))
      refine HC.out.mono ?_
      rintro e w3 ⟨vs, rfl, o3, l3⟩
      have S2 := Lib.hid (SS.out.below l3)
      have R2 := Lib.hid (Recs.of_own insC_len rfl o3)
      clear o3 l3 a2 a3 hw
      go_wp2_with (first
        | (refine append_ins rfl (.tmp 147) (.tmp 156) rfl rfl rfl S2.out.own R2.out HL.out S2.out.low.size ?_; intro v4 w4 o4 p4; have S4 := Lib.hid (S2.out.put o4 p4); clear o4 p4))
      rw [← HX.out] at S4
      cases gk with
      | zero => exact absurd hig.out (by have := HI2.out; omega)
      | succ g =>
        go_wp2_with fail
        go_roundg g
        case measure => omega
        case rel => exact ⟨i + 1, v4, rfl, by first | rfl | exact congrArg (Value.int .i64) hwi.out, by have := hig.out; unfold Hid; omega, S4⟩
    · have ti : ¬ (i : Int) < (M : Int) := by omega
      have hie : i = M := by have := hig.out; omega
      subst hie
      clear hi
      have hK4 : K ≤ 4000 := by have := HSU.out; have := HSUM.out.1; generalize i * K = MK at *; omega
      have hlen := steps_len HGK.out (by rw [HK.out]; exact hK4)
      rw [HK.out] at hlen
      have hll := times_len hlen i a
      obtain ⟨Q, hQ⟩ : ∃ Q, i * K = Q := ⟨_, rfl⟩
      rw [hQ] at hll
      have HSU2 := HSU
      rw [hQ] at HSU2
      obtain ⟨hh, hhh⟩ : ∃ hh, a + Q = hh := ⟨_, rfl⟩
      obtain ⟨x1, hx1⟩ : ∃ x1, hh + 1 = x1 := ⟨_, rfl⟩
      have HB := Lib.hid (show hh + K + 2 = E ∧ E ≤ 8000 ∧ Q ≤ 4000 from by have := HSUM.out; have := HSU2.out; clear hll hlen hQ; exact ⟨by omega, by omega, by omega⟩)
      have HX1 := Lib.hid hx1
      have HPL := Lib.hid hlen
      have HLN := Lib.hid hll
      have hwh := wrap_sum hhh (by have := HB.out; clear hll hlen hQ; omega)
      have hwx := wrap_one hx1 (by have := HB.out; clear hll hlen hQ hwh; omega)
      have HFIN : Hid (times (steps p) i a ++ [(⟨6, ⟨#[]⟩, (x1 : Nat), (E : Nat)⟩ : Inst)] ++ steps p x1 ++ [(⟨8, ⟨#[]⟩, (hh : Nat), 0⟩ : Inst)] = times (steps p) i a ++ star (steps p) E (a + (times (steps p) i a).length)) := by
        unfold Hid
        rw [HLN.out, hhh, ← hx1]
        simp only [star, List.append_assoc, List.cons_append, List.nil_append]
        rfl
      have HL1 : Hid ((times (steps p) i a).length + [(⟨6, ⟨#[]⟩, (x1 : Nat), (E : Nat)⟩ : Inst)].length ≤ 1000000) := by unfold Hid; rw [HLN.out]; simp only [List.length_cons, List.length_nil]; have := HB.out; clear hll hlen hQ hwh hwx; omega
      have HL2 : Hid ((times (steps p) i a ++ [(⟨6, ⟨#[]⟩, (x1 : Nat), (E : Nat)⟩ : Inst)]).length + (steps p x1).length ≤ 1000000) := by unfold Hid; rw [List.length_append, HLN.out, HPL.out]; simp only [List.length_cons, List.length_nil]; have := HB.out; clear hll hlen hQ hwh hwx; omega
      have HL3 : Hid ((times (steps p) i a ++ [(⟨6, ⟨#[]⟩, (x1 : Nat), (E : Nat)⟩ : Inst)] ++ steps p x1).length + [(⟨8, ⟨#[]⟩, (hh : Nat), 0⟩ : Inst)].length ≤ 1000000) := by unfold Hid; rw [List.length_append, List.length_append, HLN.out, HPL.out]; simp only [List.length_cons, List.length_nil]; have := HB.out; clear hll hlen hQ hwh hwx; omega
      obtain ⟨Ao, co, rfl, hco1, hco2⟩ := SS.out.form
      rw [hll] at hco1 SS ⊢
      have a4 := SS.out.box.c4
      simp only at a4
      clear hlen hll hQ hhh hx1
      go_wp2_with (first
        | (refine slice_ins (r := ⟨6, ⟨#[]⟩, (x1 : Nat), (E : Nat)⟩) rfl (.tmp 169) rfl rfl ?_; intro w4 b4 e4 p4 l4 z4 o4; have R4 := Lib.hid p4; have S4 := Lib.hid (SS.out.below l4); clear e4 p4 l4 z4 o4)
        | (refine append_ins rfl (.tmp 165) (.tmp 170) rfl rfl rfl S4.out.own R4.out HL1.out S4.out.low.size ?_; intro v5 w5 o5 p5; have S5 := Lib.hid (S4.out.put o5 p5); clear o5 p5; clear a2 a3 a4; have a2 := S5.out.box.c2; simp only at a2; have e5 := Lib.hid (cells_on C0.out HG1.out S5.out.low))
        | (refine load_at rfl (.tmp 175) rfl rfl (r := rk) e5.out ?_))
      refine (HIP.out _ x1 (Q0.out.below S5.out.low) hK4 (by have := HB.out; have := HX1.out; clear hwh hwx; omega)).mono ?_
      rintro e w6 ⟨v6, rfl, o6, l6⟩
      have S6 := Lib.hid (S5.out.below l6)
      have R6 := Lib.hid (Recs.of_own insC_len rfl o6)
      clear o6 l6 a2 hwx
      go_wp2_with (first
        | (refine append_ins rfl (.tmp 172) (.tmp 179) rfl rfl rfl S6.out.own R6.out HL2.out S6.out.low.size ?_; intro v7 w7 o7 p7; have S7 := Lib.hid (S6.out.put o7 p7); clear o7 p7)
        | (refine slice_ins (r := ⟨8, ⟨#[]⟩, (hh : Nat), 0⟩) rfl (.tmp 183) rfl rfl ?_; intro w8 b8 e8 p8 l8 z8 o8; have R8 := Lib.hid p8; have S8 := Lib.hid (S7.out.below l8); clear e8 p8 l8 z8 o8)
        | (refine append_ins rfl (.tmp 181) (.tmp 184) rfl rfl rfl S8.out.own R8.out HL3.out S8.out.low.size ?_; intro v9 w9 o9 p9; have S9 := Lib.hid (S8.out.put o9 p9); clear o9 p9; have a3 := S9.out.box.c3; have a4 := S9.out.box.c4; simp only at a3 a4))
      rw [HFIN.out] at S9
      clear a3
      go_loopg [5, 13, 14] 1 (fun gk s5 s13 s14 wr => s5 = v9 ∧ s13 = .int .i64 hh ∧ s14 = .int .i64 i ∧ wr = w9)
      case atStart => exact ⟨rfl, by first | rfl | exact congrArg (Value.int .i64) hwh, rfl, rfl⟩
      case round =>
        obtain ⟨rfl, rfl, rfl, rfl⟩ := hrel
        have a4 := S9.out.box.c4
        simp only at a4
        have tlast : ¬ (i : Int) < -1 := by omega
        go_wp2_with fail
        go_ret
        exact S9.out.gets
set_option maxHeartbeats 8000000 in
theorem rst_upto {p : Piece} {M T D : Nat} (hM : M ≤ 100) (hT : M + D = T ∧ T ≤ 100) (hg : M15.Good (.mk 9 no [p] (M : Int) (T : Int))) (hgk : M15.Good p) (IH : RSt p) {w : World} {r : Raw} {a E Sz : Nat} (h : PLow w r (.mk 9 no [p] (M : Int) (T : Int))) (hS : size (.mk 9 no [p] (M : Int) (T : Int)) = Sz) (hSz : M * size p + D * (size p + 1) = Sz) (hz : Sz ≤ 4000) (hE : a + Sz = E) (ha : E ≤ 8000) (hK0 : 0 < M ∨ 0 < D → size p ≤ 4000) :
    Calls Tryz.prog 20 #[.agg (rawA r), .int .i64 a] w (Gets w (times (steps p) M a ++ maybe (steps p) E D (a + (times (steps p) M a).length))) := by
  have HM := Lib.hid hM
  have HTT := Lib.hid hT
  have HK0 := Lib.hid hK0
  clear hM hT hK0
  have HSZC := Lib.hid (fun w r hl => size_of hg w r hl)
  rw [hS] at HSZC
  have HLOW := Lib.hid h
  obtain ⟨A, c, raws, rfl, k1⟩ := h.parts
  have HIH := Lib.hid IH
  have HGK := Lib.hid hgk
  have hr : 1 ≤ c ∧ c ≤ 9223372036854775807 := k1.room
  obtain ⟨g1, o1, rk, rfl, hg1, q0, C0⟩ := kid_at k1 (i := 0) (Nat.lt_succ_self 0) rfl
  have HG1 := Lib.hid hg1
  have Q0 : Hid (PLow w rk p) := q0
  rw [show o1 + 0 * 5 = o1 by omega] at C0
  have C0 := Lib.hid C0
  obtain ⟨K, hK⟩ : ∃ K, size p = K := ⟨_, rfl⟩
  rw [hK] at hSz HK0
  have HK := Lib.hid hK
  have HSU := Lib.hid hSz
  have HSUM := Lib.hid (show Sz ≤ 4000 ∧ a + Sz = E ∧ E ≤ 8000 from ⟨hz, hE, ha⟩)
  have hwE := wrap_sum hE (by clear hSz; omega)
  have hc1 := hr.1
  have hc2 := hr.2
  have HCR := Lib.hid hr
  have HIP : Hid (∀ (w : World) (a' : Nat), PLow w rk p → K ≤ 4000 → a' + K ≤ 8000 → Calls Tryz.prog 20 #[.agg (rawA rk), .int .i64 a'] w (Gets w (steps p a'))) := by
    intro w a' h1 h2 h3
    have h4 := HIH.out w rk a'
    rw [hK] at h4
    exact h4 h1 h2 h3
  clear h k1 IH hg hgk hS hSz hz hE ha hK hr q0 hg1
  go_enter Tryz.func20, Tryz.ntmps20
  go_wp2_with (first
    | (refine box_arg (r := ⟨9, no, some ⟨g1, o1, none⟩, 1, c, (M : Int), (T : Int)⟩) rfl (.tmp 0) rfl rfl ?_; intro w1 b1 e1 p1 l1 z1; have a0 := p1.c0; have P1 := Lib.hid p1; have L1 := Lib.hid l1; clear e1 p1 l1 z1; simp only at a0)
    | (refine load_piece (r := ⟨9, no, some ⟨g1, o1, none⟩, 1, c, (M : Int), (T : Int)⟩) rfl (.tmp 2) rfl rfl P1.out ?_))
  refine (HSZC.out _ _ (HLOW.out.below L1.out)).mono ?_
  rintro e w2 ⟨rfl, l2⟩
  have S0 := Lib.hid ((St.start (w0 := w) P1.out L1.out).below l2)
  clear l2 a0 hc1 hc2
  go_wp2_with fail
  simp only [hwE]
  clear hwE
  go_loopg [5, 12] M (fun gk s5 s12 wr => ∃ (i : Nat) (vo : Value), s5 = vo ∧ s12 = .int .i64 i ∧ Hid (i + gk = M) ∧ Hid (St w wr b1 ⟨9, no, some ⟨g1, o1, none⟩, 1, c, (M : Int), (T : Int)⟩ vo (times (steps p) i a)))
  case atStart => exact ⟨0, .slice none 0 0, rfl, rfl, by unfold Hid; omega, by unfold Hid; simp only [times]; exact S0.out⟩
  case round =>
    obtain ⟨i, vo, rfl, rfl, hig, SS⟩ := hrel
    have a2 := SS.out.box.c2
    have a3 := SS.out.box.c3
    simp only at a2 a3
    have hn1 := HCR.out.1
    have hn2 := HCR.out.2
    by_cases hi : i < M
    · have ti : (i : Int) < (M : Int) := by omega
      have hK4 : K ≤ 4000 := HK0.out (.inl (Nat.lt_of_le_of_lt (Nat.zero_le _) hi))
      have hlen := steps_len HGK.out (by rw [HK.out]; exact hK4)
      rw [HK.out] at hlen
      have hmul : (i + 1) * K ≤ M * K := Nat.mul_le_mul_right _ hi
      rw [Nat.succ_mul] at hmul
      have hll := times_len hlen i a
      have hsn := times_snoc (steps p) i a
      rw [hll] at hsn
      obtain ⟨Q, hQ⟩ : ∃ Q, i * K = Q := ⟨_, rfl⟩
      rw [hQ] at hmul hll hsn
      obtain ⟨S, hSa⟩ : ∃ S, a + Q = S := ⟨_, rfl⟩
      rw [hSa] at hsn
      have hQK : Q + K ≤ Sz := by
        have := HSU.out
        generalize M * K = MK at *
        clear hlen hll hsn
        generalize D * (K + 1) = DK at *; omega
      have HQB := Lib.hid (show Q + K ≤ 4000 ∧ S + K ≤ 8000 from by have := HSUM.out; clear hmul hlen hll hsn hQ; exact ⟨by omega, by omega⟩)
      have hw := wrap_sum hSa (by have := HQB.out; clear hmul hlen hll hsn hQ; omega)
      have HC := Lib.hid (HIP.out wr S (Q0.out.below SS.out.low) hK4 HQB.out.2)
      have HX : Hid (times (steps p) (i + 1) a = times (steps p) i a ++ steps p S) := hsn
      have HL : Hid ((times (steps p) i a).length + (steps p S).length ≤ 1000000) := by unfold Hid; rw [hll, hlen S]; have := HQB.out; clear hw hmul hlen hll hsn hQ; omega
      obtain ⟨Ao, co, rfl, hco1, hco2⟩ := SS.out.form
      rw [hll] at hco1 SS ⊢
      have hwi : Hid (wrap64 ((i : Int) + 1) = ((i + 1 : Nat) : Int)) := by unfold Hid wrap64; have := HM.out; clear hw hmul hlen hll hsn hQ; omega
      have HI2 := Lib.hid hi
      have E0 := Lib.hid (cells_on C0.out HG1.out SS.out.low)
      clear hlen hmul hll hsn hQ hSa hQK hi hK4
      go_wp2_with (first | (refine load_at rfl (.tmp 150) rfl rfl (r := rk) E0.out ?_))
      refine HC.out.mono ?_
      rintro e w3 ⟨vs, rfl, o3, l3⟩
      have S2 := Lib.hid (SS.out.below l3)
      have R2 := Lib.hid (Recs.of_own insC_len rfl o3)
      clear o3 l3 a2 a3 hw
      go_wp2_with (first
        | (refine append_ins rfl (.tmp 147) (.tmp 156) rfl rfl rfl S2.out.own R2.out HL.out S2.out.low.size ?_; intro v4 w4 o4 p4; have S4 := Lib.hid (S2.out.put o4 p4); clear o4 p4))
      rw [← HX.out] at S4
      cases gk with
      | zero => exact absurd hig.out (by have := HI2.out; omega)
      | succ g =>
        go_wp2_with fail
        go_roundg g
        case measure => omega
        case rel => exact ⟨i + 1, v4, rfl, by first | rfl | exact congrArg (Value.int .i64) hwi.out, by have := hig.out; unfold Hid; omega, S4⟩
    · have ti : ¬ (i : Int) < (M : Int) := by omega
      have hie : i = M := by have := hig.out; omega
      subst hie
      clear hi
      obtain ⟨Nl, hNl⟩ : ∃ Nl, (times (steps p) i a).length = Nl := ⟨_, rfl⟩
      have hND : Nl + D * (K + 1) = Sz := by
        have h9 := HSU.out
        by_cases q : 0 < i
        · have h1 := steps_len HGK.out (by rw [HK.out]; exact HK0.out (.inl q))
          rw [HK.out] at h1
          rw [← hNl, times_len h1]; exact h9
        · obtain rfl : i = 0 := by omega
          have h2 : Nl = 0 := by rw [← hNl]; rfl
          rw [h2, Nat.zero_add]
          rw [Nat.zero_mul, Nat.zero_add] at h9
          exact h9
      obtain ⟨hh, hhh⟩ : ∃ hh, a + Nl = hh := ⟨_, rfl⟩
      have HND := Lib.hid hND
      have HNL := Lib.hid hNl
      have HHH := Lib.hid hhh
      have HB := Lib.hid (show hh ≤ 8000 ∧ E ≤ 8000 from by have := HSUM.out; generalize D * (K + 1) = DK at *; clear hNl; exact ⟨by omega, by omega⟩)
      have hwh := wrap_sum hhh (by have := HB.out; clear hNl hND; omega)
      obtain ⟨Ti, hTi⟩ : ∃ Ti, times (steps p) i a = Ti := ⟨_, rfl⟩
      rw [hTi] at HNL
      have HFIN : Hid (times (steps p) i a ++ maybe (steps p) E D (a + (times (steps p) i a).length) = Ti ++ maybe (steps p) E D hh) := by unfold Hid; rw [hNl, hTi, hhh]
      rw [hTi] at SS
      obtain ⟨Ao, co, rfl, hco1, hco2⟩ := SS.out.form
      rw [HNL.out] at hco1 SS ⊢
      have a4 := SS.out.box.c4
      simp only at a4
      have tT : ¬ (T : Int) < 0 := by omega
      clear hNl hND hhh hTi
      go_wp2_with fail
      clear a2 a3 a4 tT
      go_loopg [5, 13, 14] D (fun gk s5 s13 s14 wr => ∃ (j q : Nat) (vo : Value), s5 = vo ∧ s14 = .int .i64 q ∧ Hid (q = i + j) ∧ Hid (j + gk = D) ∧ Hid (St w wr b1 ⟨9, no, some ⟨g1, o1, none⟩, 1, c, (i : Int), (T : Int)⟩ vo (Ti ++ maybe (steps p) E j hh)))
      case atStart => exact ⟨0, i, _, rfl, rfl, rfl, by unfold Hid; omega, by unfold Hid; simp only [maybe, List.append_nil]; exact SS.out⟩
      case round =>
        obtain ⟨j, q, vo, rfl, rfl, hq, hjg, S1⟩ := hrel
        have a2 := S1.out.box.c2
        have a4 := S1.out.box.c4
        simp only at a2 a4
        by_cases hj : j < D
        · have tq : (q : Int) < (T : Int) := by have := hq.out; have := HTT.out; omega
          have hK4 : K ≤ 4000 := HK0.out (.inr (Nat.lt_of_le_of_lt (Nat.zero_le _) hj))
          have hlen := steps_len HGK.out (by rw [HK.out]; exact hK4)
          rw [HK.out] at hlen
          have hmul : (j + 1) * (K + 1) ≤ D * (K + 1) := Nat.mul_le_mul_right _ hj
          rw [Nat.succ_mul] at hmul
          have hml := maybe_len hlen E j hh
          have hsn := maybe_snoc hlen E j hh
          obtain ⟨P, hP⟩ : ∃ P, j * (K + 1) = P := ⟨_, rfl⟩
          rw [hP] at hmul hml hsn
          obtain ⟨h2, hh2⟩ : ∃ h2, hh + P = h2 := ⟨_, rfl⟩
          rw [hh2] at hsn
          obtain ⟨x1, hx1⟩ : ∃ x1, h2 + 1 = x1 := ⟨_, rfl⟩
          rw [hx1] at hsn
          obtain ⟨NN, hNN⟩ : ∃ NN, Nl + P = NN := ⟨_, rfl⟩
          have hll : (Ti ++ maybe (steps p) E j hh).length = NN := by rw [List.length_append, HNL.out, hml, hNN]
          have HB2 := Lib.hid (show x1 + K ≤ 8000 ∧ NN ≤ 4000 ∧ a + NN = h2 ∧ h2 ≤ 8000 from by
            have b1 := HND.out
            have b2 := HSUM.out
            have b3 := HHH.out
            generalize D * (K + 1) = DK at *
            clear hlen hml hsn hP hll hwh
            exact ⟨by omega, by omega, by omega, by omega⟩)
          have hw2 := wrap_sum HB2.out.2.2.1 (Nat.le_trans HB2.out.2.2.2 (by decide))
          have hwx := wrap_one hx1 (by have := HB2.out; clear hlen hml hsn hP hll hwh hw2 hmul; omega)
          have HX : Hid (Ti ++ maybe (steps p) E (j + 1) hh = Ti ++ maybe (steps p) E j hh ++ [(⟨6, ⟨#[]⟩, (x1 : Nat), (E : Nat)⟩ : Inst)] ++ steps p x1) := by
            unfold Hid
            rw [hsn]
            simp only [List.append_assoc, List.cons_append, List.nil_append]
            rfl
          have HL1 : Hid ((Ti ++ maybe (steps p) E j hh).length + [(⟨6, ⟨#[]⟩, (x1 : Nat), (E : Nat)⟩ : Inst)].length ≤ 1000000) := by unfold Hid; rw [hll]; simp only [List.length_cons, List.length_nil]; have := HB2.out; clear hlen hml hsn hP hll hwh hw2 hwx hmul; omega
          have HL2 : Hid ((Ti ++ maybe (steps p) E j hh ++ [(⟨6, ⟨#[]⟩, (x1 : Nat), (E : Nat)⟩ : Inst)]).length + (steps p x1).length ≤ 1000000) := by unfold Hid; rw [List.length_append, hll, hlen x1]; simp only [List.length_cons, List.length_nil]; have := HB2.out; clear hlen hml hsn hP hll hwh hw2 hwx hmul; omega
          have hwq : Hid (wrap64 ((q : Int) + 1) = ((q + 1 : Nat) : Int)) := by unfold Hid wrap64; have := hq.out; have := HTT.out; clear hlen hml hsn hP hll hwh hw2 hwx hmul; omega
          obtain ⟨Ao, co, rfl, hco1, hco2⟩ := S1.out.form
          rw [hll] at hco1 S1 ⊢
          have HJ2 := Lib.hid hj
          have hn1 := HCR.out.1
          have hn2 := HCR.out.2
          have HC := Lib.hid (fun w h => HIP.out w x1 h hK4 HB2.out.1)
          clear hlen hmul hml hsn hP hh2 hx1 hNN hll hj hwh hK4
          go_wp2_with (first
            | (refine slice_ins (r := ⟨6, ⟨#[]⟩, (x1 : Nat), (E : Nat)⟩) rfl (.tmp 202) rfl rfl ?_; intro w4 b4 e4 p4 l4 z4 o4; have R4 := Lib.hid p4; have S4 := Lib.hid (S1.out.below l4); clear e4 p4 l4 z4 o4)
            | (refine append_ins rfl (.tmp 198) (.tmp 203) rfl rfl rfl S4.out.own R4.out HL1.out S4.out.low.size ?_; intro v5 w5 o5 p5; have S5 := Lib.hid (S4.out.put o5 p5); clear o5 p5; clear a2 a4; have a2 := S5.out.box.c2; simp only at a2; have e5 := Lib.hid (cells_on C0.out HG1.out S5.out.low))
            | (refine load_at rfl (.tmp 208) rfl rfl (r := rk) e5.out ?_))
          refine (HC.out _ (Q0.out.below S5.out.low)).mono ?_
          rintro e w6 ⟨v6, rfl, o6, l6⟩
          have S6 := Lib.hid (S5.out.below l6)
          have R6 := Lib.hid (Recs.of_own insC_len rfl o6)
          clear o6 l6 a2 hwx hw2
          go_wp2_with (first
            | (refine append_ins rfl (.tmp 205) (.tmp 212) rfl rfl rfl S6.out.own R6.out HL2.out S6.out.low.size ?_; intro v7 w7 o7 p7; have S7 := Lib.hid (S6.out.put o7 p7); clear o7 p7))
          rw [← HX.out] at S7
          cases gk with
          | zero => exact absurd hjg.out (by have := HJ2.out; omega)
          | succ g =>
            go_wp2_with fail
            go_roundg g
            case measure => omega
            case rel => exact ⟨j + 1, q + 1, v7, rfl, by first | rfl | exact congrArg (Value.int .i64) hwq.out, by have := hq.out; unfold Hid; omega, by have := hjg.out; unfold Hid; omega, S7⟩
        · have tq : ¬ (q : Int) < (T : Int) := by have := hq.out; have := HTT.out; omega
          have hje : j = D := by have := hjg.out; omega
          subst hje
          rw [← HFIN.out] at S1
          clear hj
          go_wp2_with fail
          go_ret
          exact S1.out.gets
/-- the document's Steps of any piece -/
theorem rst_any {p : Piece} (h : M15.Good p) : RSt p := by
  induction h with
  | leaf k t h => exact rst_leaf h t
  | many k hk ks h2 hw ih =>
    intro w r a hl hz ha
    have IH : ∀ i (hi : i < ks.length), RSt ks[i] := fun i hi => ih ks[i] (List.getElem_mem hi)
    have hgd : M15.Good (.mk k no ks 0 0) := .many k hk ks h2 hw
    rcases hk with rfl | rfl
    · rw [M15.size_7] at hz ha
      have hs : ∀ q, q ∈ ks → ∀ a, (steps q a).length = size q := fun q hq => steps_len (hw q hq) (by have := M15.size_mem hq; omega)
      rw [steps_7]
      exact rst_seq IH hs hl (by omega) (by omega)
    · rw [steps_8]
      have hsz := M15.size_8 no ks 0 0
      obtain ⟨S, hS⟩ : ∃ S, size (.mk 8 no ks 0 0) = S := ⟨_, rfl⟩
      rw [hS] at hz ha hsz ⊢
      have hs : ∀ q, q ∈ ks → ∀ a, (steps q a).length = size q := fun q hq => steps_len (hw q hq) (by have := M15.size_mem hq; omega)
      obtain ⟨n, hn⟩ : ∃ n, ks.length = n + 1 := ⟨ks.length - 1, by omega⟩
      have hE : sizes ks + 2 * n = S := by
        rw [hn] at hsz
        omega
      exact rst_alt hgd hw IH hs hl hn hS hE hz rfl ha
  | rep p m t hm ht hw ih =>
    intro w r a hl hz ha
    have hgd : M15.Good (.mk 9 no [p] m t) := .rep p m t hm ht hw
    rw [steps_9]
    have hsz := M15.size_9 no p m t
    obtain ⟨S, hS⟩ : ∃ S, size (.mk 9 no [p] m t) = S := ⟨_, rfl⟩
    have hkid := fun hu => M15.rep_kid (p := p) (t := no) (m := m) (tp := t) (by rw [hS]; rw [hS] at hz; exact hz) hu hm.1
    rw [hS] at hz ha hsz ⊢
    obtain ⟨M, rfl⟩ : ∃ M : Nat, m = (M : Int) := ⟨m.toNat, by omega⟩
    unfold reps
    rw [Int.toNat_natCast] at hsz ⊢
    by_cases q : t = -1
    · subst q
      rw [if_pos rfl] at hsz ⊢
      exact rst_ever (by omega) hgd hw ih hl hS (by generalize M * size p = MK at *; omega) hz rfl ha
    · rw [if_neg q] at hsz ⊢
      obtain ⟨T, rfl⟩ : ∃ T : Nat, t = (T : Int) := ⟨t.toNat, by omega⟩
      obtain ⟨D, hD⟩ : ∃ D, M + D = T := ⟨T - M, by omega⟩
      have hTM : ((T : Int) - (M : Int)).toNat = D := by omega
      rw [hTM] at hsz ⊢
      exact rst_upto (by omega) ⟨hD, by omega⟩ hgd hw ih hl hS (by generalize M * size p = MK at *; generalize D * (size p + 1) = DK at *; omega) hz rfl ha (fun hu => hkid (by omega))
end Go.Proofs.YtmbibaccpeldoaaGreatDoor.W15
/-
  Layer 14 (pattern), steps of walks over what the document's own answers read (a piece, a place, an error and its place), in boxes. The conditions stand in the statements.
-/
namespace Go.Proofs.YtmbibaccpeldoaaGreatDoor.W14
set_option maxRecDepth 100000
open Go Go.RowKit Go.Proofs.YtmbibaccpeldoaaGreatDoor.Strs Go.Proofs.YtmbibaccpeldoaaGreatDoor.Recs Go.Proofs.YtmbibaccpeldoaaGreatDoor.M14
open Go.Proofs.YtmbibaccpeldoaaGreatDoor.Row256 (Beside)
open Go.Proofs.YtmbibaccpeldoaaGreatDoor.Kit (below_draws on)

def gotA (r : Raw) (to e bad : Int) : Array Value := #[.int .i64 r.kind, .string r.text, .slice r.ad r.len r.cap, .int .i64 r.least, .int .i64 r.top, .int .i64 to, .int .i64 e, .int .i64 bad]
theorem got_info : (Tryz.prog.info? 62).map (fun i => (i.zero, i.size, i.bytes)) = some (some (.agg #[.int .i64 0, .string ⟨#[]⟩, .slice none 0 0, .int .i64 0, .int .i64 0, .int .i64 0, .int .i64 0, .int .i64 0]), 8, 88) := by kernel_rfl
theorem got_size (r : Raw) (to e bad : Int) : (Tryz.prog.info? 62).map (·.size) = some (gotA r to e bad).size := by
  obtain ⟨i, hi, -, h2, -⟩ := info_parts got_info
  rw [hi]; simp [gotA, h2]
theorem gotA_one (r : Raw) (to e bad : Int) : (gotA r to e bad).all (·.oneCell') = true := by simp [gotA, Value.oneCell']
def GBox (w : World) (b : Nat) (r : Raw) (to e bad : Int) : Prop := w.heap[b]? = some (.cells (gotA r to e bad) 62 (0, 0))
section
variable {w w' : World} {b : Nat} {r : Raw} {to e bad : Int}
theorem GBox.lt (h : GBox w b r to e bad) : b < w.heap.size := (Array.getElem?_eq_some_iff.1 h).1
theorem GBox.below (h : GBox w b r to e bad) (k : Below w.heap.size w w') : GBox w' b r to e bad := (k.block b h.lt).trans h
theorem GBox.beside {c : Nat} (h : GBox w b r to e bad) (k : Beside c w w') (q : b ≠ c) : GBox w' b r to e bad := (k.block b h.lt q).trans h
theorem GBox.c5 (h : GBox w b r to e bad) : w.cell? ⟨b, 5, none⟩ = some (.int .i64 to) := cell_of_row w b 5 _ _ _ h
theorem GBox.c6 (h : GBox w b r to e bad) : w.cell? ⟨b, 6, none⟩ = some (.int .i64 e) := cell_of_row w b 6 _ _ _ h
theorem GBox.c7 (h : GBox w b r to e bad) : w.cell? ⟨b, 7, none⟩ = some (.int .i64 bad) := cell_of_row w b 7 _ _ _ h
theorem GBox.free (h : GBox w b r to e bad) (i : Nat) : w.frozen? ⟨b, i, none⟩ = false := frozen_of_row w b i _ _ h
theorem GBox.put (h : GBox w b r to e bad) (n : Int) : GBox (w.setCell ⟨b, 5, none⟩ (.int .i64 n)) b r n e bad := by
  unfold GBox at *
  rw [heap_setCell_same w b 5 _ _ _ h]; rfl
theorem GBox.raw (h : GBox w b r to e bad) (j : Nat) (hj : j < 5) : w.cell? ⟨b, 0 + j, none⟩ = (rawC r)[j]? := by
  rw [Nat.zero_add, cell_of_row w b j _ _ _ h]
  match j, hj with
  | 0, _ => rfl
  | 1, _ => rfl
  | 2, _ => rfl
  | 3, _ => rfl
  | 4, _ => rfl
end
theorem zero_got (w : World) : (zeroValue 62).run Tryz.prog w = .ok (.agg (gotA zeroR 0 0 0)) w := by
  obtain ⟨i, hi, h1, -, -⟩ := info_parts got_info
  simp [zeroValue, typeInfo, hi, h1]; rfl
theorem built_got (k : Int) (t : ByteArray) (A : Option Addr) (n c : Nat) (l tp to : Int) (w : World) : (Instr.build 62 #[(0, .agg #[.int .i64 k, .string t, .slice A n c, .int .i64 l, .int .i64 tp]), (1, .int .i64 to)]).run Tryz.prog w = .ok (.agg #[.int .i64 k, .string t, .slice A n c, .int .i64 l, .int .i64 tp, .int .i64 to, .int .i64 0, .int .i64 0]) w := by kernel_rfl
theorem built_bad (e bad : Int) (w : World) : (Instr.build 62 #[(2, .int .i64 e), (3, .int .i64 bad)]).run Tryz.prog w = .ok (.agg (gotA zeroR 0 e bad)) w := by kernel_rfl
section
variable {ops : Array Oper} {rest : List Oper} {o : Oper} {a : Act} {w : World} {Q : Exit → Act → World → Prop}
theorem alloc_got (hgd : o.guard = none) (ho : o.op = .alloc 62)
    (h : ∀ w' b, w.heap.size = b → GBox w' b zeroR 0 0 0 → Below w.heap.size w w' → w'.heap.size = w.heap.size + 1 → wpList Tryz.prog ops Q rest (a.put o.dst (.pointer (some ⟨b, 0, none⟩))) w') : wpList Tryz.prog ops Q (o :: rest) a w :=
  wpList_plain hgd fun _ hK => by
    unfold Oper.wp execOp
    simp only [ho, Instr.alloc, newVar, newRow, zero_got, Sem.run_bind, Sem.run_pure, Result.andThen_ok]
    exact hK _ _ (h _ _ rfl (heap_alloc_new w _) (below_new w _) (World.size_alloc w _))
theorem load_got (hgd : o.guard = none) (x : Operand) (ho : o.op = .load 62 x) {b : Nat} (hx : a.eval x = .pointer (some ⟨b, 0, none⟩)) {r : Raw} {to e bad : Int} (hr : GBox w b r to e bad) (h : wpList Tryz.prog ops Q rest (a.put o.dst (.agg (gotA r to e bad))) w) : wpList Tryz.prog ops Q (o :: rest) a w :=
  wpList_load_row hgd 62 x ho b hx 62 (gotA r to e bad) (0, 0) _ hr Tryz.underlying62 rfl (got_size r to e bad) h
theorem store_got (hgd : o.guard = none) (x y : Operand) (ho : o.op = .store 62 x y) {b : Nat} {r old : Raw} {to e bad to' e' bad' : Int} (hx : a.eval x = .pointer (some ⟨b, 0, none⟩)) (hy : a.eval y = .agg (gotA r to e bad)) (hr : GBox w b old to' e' bad')
    (h : ∀ w', GBox w' b r to e bad → Beside b w w' → w'.heap.size = w.heap.size → wpList Tryz.prog ops Q rest (a.put o.dst undef) w') : wpList Tryz.prog ops Q (o :: rest) a w :=
  wpList_store_row hgd 62 x y ho b (gotA r to e bad) hx hy 62 (gotA old to' e' bad') hr (got_size r to e bad) rfl (gotA_one r to e bad)
    (h _ (setRow_heap w b _ _ _ _ hr) ⟨rfl, rfl, rfl, by rw [setRow_size]; exact Nat.le_refl _, fun k _ e => setRow_other w b k _ e⟩ (setRow_size _ _ _))
/-- a piece and a place are put together -/
theorem build_got (hgd : o.guard = none) (x y : Operand) (ho : o.op = .build 62 #[(0, x), (1, y)]) {r : Raw} {to : Int} (hx : a.eval x = .agg (rawA r)) (hy : a.eval y = .int .i64 to) (h : wpList Tryz.prog ops Q rest (a.put o.dst (.agg (gotA r to 0 0))) w) : wpList Tryz.prog ops Q (o :: rest) a w :=
  wpList_plain hgd fun _ hK => by
    have := built_got r.kind r.text r.ad r.len r.cap r.least r.top to w
    unfold Oper.wp execOp
    simp only [ho, List.map_toArray, List.map_cons, List.map_nil, hx, hy, Sem.run_bind, rawA, this, Sem.run_pure, Result.andThen_ok]
    exact hK _ _ h
theorem build_bad (hgd : o.guard = none) (x y : Operand) (ho : o.op = .build 62 #[(2, x), (3, y)]) {e bad : Int} (hx : a.eval x = .int .i64 e) (hy : a.eval y = .int .i64 bad) (h : wpList Tryz.prog ops Q rest (a.put o.dst (.agg (gotA zeroR 0 e bad))) w) : wpList Tryz.prog ops Q (o :: rest) a w :=
  wpList_plain hgd fun _ hK => by
    unfold Oper.wp execOp
    simp only [ho, List.map_toArray, List.map_cons, List.map_nil, hx, hy, Sem.run_bind, built_bad, Sem.run_pure, Result.andThen_ok]
    exact hK _ _ h
end
/-- what the document's own answers read -/
def Gots (w : World) (g : Got) (e : Ending) (w' : World) : Prop :=
  Below w.heap.size w w' ∧ match g with
  | .ok p to => ∃ r, e = .returned (.agg (gotA r to 0 0)) ∧ PAt (In w.heap.size w'.heap.size) w' r p
  | .bad b er => er ≠ 0 ∧ ∃ t, e = .returned (.agg (gotA zeroR t er b))
theorem end_got {fn : Func} {R : Ending → World → Prop} {a : Act} {w : World} {p : Tmp} {b : Nat} {r : Raw} {to er bad : Int} (hf : fn.results = #[.cell p 62]) (hp : a.tmps.getD p undef = .pointer (some ⟨b, 0, none⟩)) (hr : GBox w b r to er bad) (hd : a.defers = [])
    (hR : R (.returned (.agg (gotA r to er bad))) w) : bodyPost Tryz.prog fn R .ret a w :=
  bodyPost_ret (results_cell_row hf a.tmps w b 62 (gotA r to er bad) (0, 0) _ hp hr Tryz.underlying62 rfl (got_size r to er bad)) hd hR
theorem refBad_any (b : Nat) (er : Int) (he : er ≠ 0) (w : World) : Calls Tryz.prog 96 #[.int .i64 b, .int .i64 er] w (Gots w (.bad b er)) := by
  have HE := Lib.hid he
  clear he
  go_enter Tryz.func96, Tryz.ntmps96
  go_wp2_with (first
    | (refine alloc_got rfl rfl ?_; intro w1 b1 e1 p1 l1 z1)
    | (refine build_bad rfl (.tmp 5) (.tmp 6) rfl rfl rfl ?_)
    | (refine store_got (r := zeroR) rfl (.tmp 4) (.tmp 7) rfl rfl rfl p1 ?_; intro w2 p2 l2 z2))
  exact end_got rfl rfl p2 rfl ⟨l1.trans (l2.below l1.size (by omega)), HE.out, 0, rfl⟩
theorem refLeaf_any (k : Int) (t : ByteArray) (to : Nat) (w : World) : Calls Tryz.prog 76 #[.int .i64 k, .string t, .int .i64 to] w (Gots w (.ok (M14.leaf k t) to)) := by
  go_enter Tryz.func76, Tryz.ntmps76
  go_wp2_with (first
    | (refine alloc_got rfl rfl ?_; intro w1 b1 e1 p1 l1 z1)
    | (refine build_got (r := ⟨k, t, none, 0, 0, 0, 0⟩) rfl (.tmp 9) (.tmp 10) rfl rfl rfl ?_)
    | (refine store_got (r := ⟨k, t, none, 0, 0, 0, 0⟩) rfl (.tmp 6) (.tmp 11) rfl rfl rfl p1 ?_; intro w2 p2 l2 z2))
  exact end_got rfl rfl p2 rfl ⟨l1.trans (l2.below l1.size (by omega)), _, rfl, PAt.leaf _ _ k t⟩
end Go.Proofs.YtmbibaccpeldoaaGreatDoor.W14
