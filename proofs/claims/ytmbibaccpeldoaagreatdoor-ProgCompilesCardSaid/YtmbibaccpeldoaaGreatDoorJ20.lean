/-
  Texts joined, in build order, each with its own comment and its own conditions: W15PParsed, W15Many, W15Made, W15LawC.
-/
import Derived.Test.YtmbibaccpeldoaaGreatDoorJ10
import Derived.Test.YtmbibaccpeldoaaGreatDoorJ17
import Derived.Test.YtmbibaccpeldoaaGreatDoorJ09
import Derived.Test.YtmbibaccpeldoaaGreatDoorJ02
import Derived.Test.YtmbibaccpeldoaaGreatDoorJ05
import Derived.Test.YtmbibaccpeldoaaGreatDoorJ19
/-
  Layer 15 (prog), walks of the program's isAlike, isParsed and Right of any piece. The conditions stand in the statements.
-/
namespace Go.Proofs.YtmbibaccpeldoaaGreatDoor.W15
set_option maxRecDepth 100000
open Go Go.RowKit Go.Proofs.YtmbibaccpeldoaaGreatDoor.Strs Go.Proofs.YtmbibaccpeldoaaGreatDoor.Recs Go.Proofs.YtmbibaccpeldoaaGreatDoor.M15
open Go.Proofs.YtmbibaccpeldoaaGreatDoor.M13 (good has)
open Go.Proofs.YtmbibaccpeldoaaGreatDoor.M14 (Piece)
open Go.Proofs.YtmbibaccpeldoaaGreatDoor.W14 (Raw rawA rawC PAt PBox PLow box_arg load_piece load_at alloc_piece store_piece two_new cell_block)
open Go.Proofs.YtmbibaccpeldoaaGreatDoor.Kit (below_draws on)

theorem two_not (t : ByteArray) : (W13.tx fun i => !has (W13.tx fun i => !has t.data.toList i).data.toList i) = (W13.tx fun i => has t.data.toList i || has t.data.toList i) :=
  W13.tx_congr fun i hi => by rw [W13.has_tx _ hi, Bool.not_not, Bool.or_self]
set_option maxHeartbeats 1000000 in
theorem isSet_gen (t : ByteArray) (w : World) : Calls Tryz.prog 64 #[.string t] w fun e w' => e = .returned (.bool (good t.data.toList)) ∧ Below w.heap.size w w' := by
  have h1 := W13.not_any t
  have h2 := W13.not_any (W13.tx fun i => !has t.data.toList i)
  rw [two_not] at h2
  obtain ⟨u, hu⟩ : ∃ u, (W13.tx fun i => has t.data.toList i || has t.data.toList i) = u := ⟨_, rfl⟩
  obtain ⟨g, hg⟩ : ∃ g, (W13.tx fun i => !has t.data.toList i) = g := ⟨_, rfl⟩
  have hv : ∃ b : Bool, good t.data.toList = b ∧ (u.toList == t.toList) = b := by
    cases hq : good t.data.toList with
    | true =>
      have := union_good hq
      rw [hu] at this
      exact ⟨true, rfl, by rw [this]; exact beq_self_eq_true _⟩
    | false =>
      have hne := union_bad hq
      rw [hu] at hne
      refine ⟨false, rfl, ?_⟩
      have : ¬ u.toList = t.toList := fun q => hne (Kit.ba_ext (by rw [← Lib.toList_data, ← Lib.toList_data, q]))
      simpa using this
  rw [hg] at h1
  rw [hg, hu] at h2
  obtain ⟨b, hb, te⟩ := hv
  rw [hb]
  have H1 := Lib.hid h1
  have H2 := Lib.hid h2
  clear h1 h2 hg hu hb
  go_enter Tryz.func64, Tryz.ntmps64
  go_wp2_with fail
  refine (H1.out _).mono ?_
  rintro e w2 ⟨rfl, l2⟩
  have L2 := Lib.hid l2
  clear l2
  go_wp2_with fail
  refine (H2.out _).mono ?_
  rintro e w3 ⟨rfl, l3⟩
  have L3 := Lib.hid (on L2.out l3)
  clear l3
  go_wp2_with fail
  go_ret
  exact ⟨by first | rfl | rw [te], L3.out⟩
set_option maxHeartbeats 4000000 in
theorem alike_1 {t : ByteArray} {A : Option Addr} {n c : Nat} (hr : n ≤ c ∧ c ≤ 9223372036854775807) {V : Bool} (hV : own 1 t n 0 0 = V) (w : World) : Calls Tryz.prog 47 #[.agg (rawA ⟨1, t, A, n, c, 0, 0⟩)] w fun e w' => e = .returned (.bool V) ∧ Below w.heap.size w w' := by
  have hc1 := hr.1
  have hc2 := hr.2
  clear hr
  by_cases hz : t.size = 0
  · have : t = ⟨#[]⟩ := no_of hz
    subst this
    by_cases hn : n = 0
    · obtain rfl : true = V := by rw [← hV]; simp [own, hz, hn]
      have tn : ((n : Int) == 0) = true := by simp [hn]
      clear hV hn hz
      go_enter Tryz.func47, Tryz.ntmps47
      go_wp2_with (first
        | (refine box_arg (r := ⟨1, ⟨#[]⟩, A, n, c, 0, 0⟩) rfl (.tmp 0) rfl rfl ?_; intro w1 b1 e1 p1 l1 z1; have P1 := Lib.hid p1; have a0 := p1.c0; have a1 := p1.c1; have a2 := p1.c2; have a3 := p1.c3; have a4 := p1.c4; have L1 := Lib.hid l1; clear e1 p1 l1 z1; simp only at a0 a1 a2 a3 a4)
        | (refine load_piece (r := ⟨1, ⟨#[]⟩, A, n, c, 0, 0⟩) rfl (.tmp 1) rfl rfl P1.out ?_))
      go_ret
      exact ⟨rfl, L1.out⟩
    · obtain rfl : false = V := by rw [← hV]; simp [own, hz, hn]
      have tn : ((n : Int) == 0) = false := by simpa using hn
      clear hV hn hz
      go_enter Tryz.func47, Tryz.ntmps47
      go_wp2_with (first
        | (refine box_arg (r := ⟨1, ⟨#[]⟩, A, n, c, 0, 0⟩) rfl (.tmp 0) rfl rfl ?_; intro w1 b1 e1 p1 l1 z1; have P1 := Lib.hid p1; have a0 := p1.c0; have a1 := p1.c1; have a2 := p1.c2; have a3 := p1.c3; have a4 := p1.c4; have L1 := Lib.hid l1; clear e1 p1 l1 z1; simp only at a0 a1 a2 a3 a4)
        | (refine load_piece (r := ⟨1, ⟨#[]⟩, A, n, c, 0, 0⟩) rfl (.tmp 1) rfl rfl P1.out ?_))
      go_ret
      exact ⟨rfl, L1.out⟩
  · obtain rfl : false = V := by rw [← hV]; simp [own, hz]
    have te := Kit.list_full (s := t) (by omega)
    have te2 := Kit.list_ne (s := t) (by omega)
    clear hV hz
    go_enter Tryz.func47, Tryz.ntmps47
    go_wp2_with (first
      | (refine box_arg (r := ⟨1, t, A, n, c, 0, 0⟩) rfl (.tmp 0) rfl rfl ?_; intro w1 b1 e1 p1 l1 z1; have P1 := Lib.hid p1; have a0 := p1.c0; have a1 := p1.c1; have a2 := p1.c2; have a3 := p1.c3; have a4 := p1.c4; have L1 := Lib.hid l1; clear e1 p1 l1 z1; simp only at a0 a1 a2 a3 a4)
      | (refine load_piece (r := ⟨1, t, A, n, c, 0, 0⟩) rfl (.tmp 1) rfl rfl P1.out ?_))
    go_ret
    exact ⟨rfl, L1.out⟩
set_option maxHeartbeats 4000000 in
theorem alike_2 {t : ByteArray} {A : Option Addr} {n c : Nat} (hr : n ≤ c ∧ c ≤ 9223372036854775807) {V : Bool} (hV : own 2 t n 0 0 = V) (w : World) : Calls Tryz.prog 47 #[.agg (rawA ⟨2, t, A, n, c, 0, 0⟩)] w fun e w' => e = .returned (.bool V) ∧ Below w.heap.size w w' := by
  have hc1 := hr.1
  have hc2 := hr.2
  clear hr
  by_cases hz : t.size = 1
  · have tz : ((t.size : Int) == 1) = true := by simp [hz]
    by_cases hn : n = 0
    · obtain rfl : true = V := by rw [← hV]; simp [own, hz, hn]
      have tn : ((n : Int) == 0) = true := by simp [hn]
      clear hV hn hz
      go_enter Tryz.func47, Tryz.ntmps47
      go_wp2_with (first
        | (refine box_arg (r := ⟨2, t, A, n, c, 0, 0⟩) rfl (.tmp 0) rfl rfl ?_; intro w1 b1 e1 p1 l1 z1; have P1 := Lib.hid p1; have a0 := p1.c0; have a1 := p1.c1; have a2 := p1.c2; have a3 := p1.c3; have a4 := p1.c4; have L1 := Lib.hid l1; clear e1 p1 l1 z1; simp only at a0 a1 a2 a3 a4)
        | (refine load_piece (r := ⟨2, t, A, n, c, 0, 0⟩) rfl (.tmp 1) rfl rfl P1.out ?_))
      go_ret
      exact ⟨rfl, L1.out⟩
    · obtain rfl : false = V := by rw [← hV]; simp [own, hz, hn]
      have tn : ((n : Int) == 0) = false := by simpa using hn
      clear hV hn hz
      go_enter Tryz.func47, Tryz.ntmps47
      go_wp2_with (first
        | (refine box_arg (r := ⟨2, t, A, n, c, 0, 0⟩) rfl (.tmp 0) rfl rfl ?_; intro w1 b1 e1 p1 l1 z1; have P1 := Lib.hid p1; have a0 := p1.c0; have a1 := p1.c1; have a2 := p1.c2; have a3 := p1.c3; have a4 := p1.c4; have L1 := Lib.hid l1; clear e1 p1 l1 z1; simp only at a0 a1 a2 a3 a4)
        | (refine load_piece (r := ⟨2, t, A, n, c, 0, 0⟩) rfl (.tmp 1) rfl rfl P1.out ?_))
      go_ret
      exact ⟨rfl, L1.out⟩
  · obtain rfl : false = V := by rw [← hV]; simp [own, hz]
    have tz : ((t.size : Int) == 1) = false := by simp; omega
    clear hV hz
    go_enter Tryz.func47, Tryz.ntmps47
    go_wp2_with (first
      | (refine box_arg (r := ⟨2, t, A, n, c, 0, 0⟩) rfl (.tmp 0) rfl rfl ?_; intro w1 b1 e1 p1 l1 z1; have P1 := Lib.hid p1; have a0 := p1.c0; have a1 := p1.c1; have a2 := p1.c2; have a3 := p1.c3; have a4 := p1.c4; have L1 := Lib.hid l1; clear e1 p1 l1 z1; simp only at a0 a1 a2 a3 a4)
      | (refine load_piece (r := ⟨2, t, A, n, c, 0, 0⟩) rfl (.tmp 1) rfl rfl P1.out ?_))
    go_ret
    exact ⟨rfl, L1.out⟩
set_option maxHeartbeats 4000000 in
theorem alike_3 {t : ByteArray} {A : Option Addr} {n c : Nat} (hr : n ≤ c ∧ c ≤ 9223372036854775807) {V : Bool} (hV : own 3 t n 0 0 = V) (w : World) : Calls Tryz.prog 47 #[.agg (rawA ⟨3, t, A, n, c, 0, 0⟩)] w fun e w' => e = .returned (.bool V) ∧ Below w.heap.size w w' := by
  have hc1 := hr.1
  have hc2 := hr.2
  clear hr
  by_cases hz : t.size = 0
  · have : t = ⟨#[]⟩ := no_of hz
    subst this
    by_cases hn : n = 0
    · obtain rfl : true = V := by rw [← hV]; simp [own, hz, hn]
      have tn : ((n : Int) == 0) = true := by simp [hn]
      clear hV hn hz
      go_enter Tryz.func47, Tryz.ntmps47
      go_wp2_with (first
        | (refine box_arg (r := ⟨3, ⟨#[]⟩, A, n, c, 0, 0⟩) rfl (.tmp 0) rfl rfl ?_; intro w1 b1 e1 p1 l1 z1; have P1 := Lib.hid p1; have a0 := p1.c0; have a1 := p1.c1; have a2 := p1.c2; have a3 := p1.c3; have a4 := p1.c4; have L1 := Lib.hid l1; clear e1 p1 l1 z1; simp only at a0 a1 a2 a3 a4)
        | (refine load_piece (r := ⟨3, ⟨#[]⟩, A, n, c, 0, 0⟩) rfl (.tmp 1) rfl rfl P1.out ?_))
      go_ret
      exact ⟨rfl, L1.out⟩
    · obtain rfl : false = V := by rw [← hV]; simp [own, hz, hn]
      have tn : ((n : Int) == 0) = false := by simpa using hn
      clear hV hn hz
      go_enter Tryz.func47, Tryz.ntmps47
      go_wp2_with (first
        | (refine box_arg (r := ⟨3, ⟨#[]⟩, A, n, c, 0, 0⟩) rfl (.tmp 0) rfl rfl ?_; intro w1 b1 e1 p1 l1 z1; have P1 := Lib.hid p1; have a0 := p1.c0; have a1 := p1.c1; have a2 := p1.c2; have a3 := p1.c3; have a4 := p1.c4; have L1 := Lib.hid l1; clear e1 p1 l1 z1; simp only at a0 a1 a2 a3 a4)
        | (refine load_piece (r := ⟨3, ⟨#[]⟩, A, n, c, 0, 0⟩) rfl (.tmp 1) rfl rfl P1.out ?_))
      go_ret
      exact ⟨rfl, L1.out⟩
  · obtain rfl : false = V := by rw [← hV]; simp [own, hz]
    have te := Kit.list_full (s := t) (by omega)
    have te2 := Kit.list_ne (s := t) (by omega)
    clear hV hz
    go_enter Tryz.func47, Tryz.ntmps47
    go_wp2_with (first
      | (refine box_arg (r := ⟨3, t, A, n, c, 0, 0⟩) rfl (.tmp 0) rfl rfl ?_; intro w1 b1 e1 p1 l1 z1; have P1 := Lib.hid p1; have a0 := p1.c0; have a1 := p1.c1; have a2 := p1.c2; have a3 := p1.c3; have a4 := p1.c4; have L1 := Lib.hid l1; clear e1 p1 l1 z1; simp only at a0 a1 a2 a3 a4)
      | (refine load_piece (r := ⟨3, t, A, n, c, 0, 0⟩) rfl (.tmp 1) rfl rfl P1.out ?_))
    go_ret
    exact ⟨rfl, L1.out⟩
set_option maxHeartbeats 4000000 in
theorem alike_4 {t : ByteArray} {A : Option Addr} {n c : Nat} (hr : n ≤ c ∧ c ≤ 9223372036854775807) {V : Bool} (hV : own 4 t n 0 0 = V) (w : World) : Calls Tryz.prog 47 #[.agg (rawA ⟨4, t, A, n, c, 0, 0⟩)] w fun e w' => e = .returned (.bool V) ∧ Below w.heap.size w w' := by
  have hc1 := hr.1
  have hc2 := hr.2
  clear hr
  have HS := Lib.hid (isSet_gen t)
  obtain ⟨g, hg⟩ : ∃ g, good t.data.toList = g := ⟨_, rfl⟩
  rw [hg] at HS
  cases g with
  | true =>
    by_cases hn : n = 0
    · obtain rfl : true = V := by rw [← hV]; simp [own, hg, hn]
      have tn : ((n : Int) == 0) = true := by simp [hn]
      clear hV hn hg
      go_enter Tryz.func47, Tryz.ntmps47
      go_wp2_with (first
        | (refine box_arg (r := ⟨4, t, A, n, c, 0, 0⟩) rfl (.tmp 0) rfl rfl ?_; intro w1 b1 e1 p1 l1 z1; have P1 := Lib.hid p1; have a0 := p1.c0; have a1 := p1.c1; have a2 := p1.c2; have a3 := p1.c3; have a4 := p1.c4; have L1 := Lib.hid l1; clear e1 p1 l1 z1; simp only at a0 a1 a2 a3 a4)
        | (refine load_piece (r := ⟨4, t, A, n, c, 0, 0⟩) rfl (.tmp 1) rfl rfl P1.out ?_))
      refine (HS.out _).mono ?_
      rintro e w2 ⟨rfl, l2⟩
      have PB2 := Lib.hid (P1.out.below l2)
      have L1 := Lib.hid (on L1.out l2)
      have d2 := PB2.out.c2
      simp only at d2
      clear l2
      go_wp2_with fail
      go_ret
      exact ⟨rfl, L1.out⟩
    · obtain rfl : false = V := by rw [← hV]; simp [own, hg, hn]
      have tn : ((n : Int) == 0) = false := by simpa using hn
      clear hV hn hg
      go_enter Tryz.func47, Tryz.ntmps47
      go_wp2_with (first
        | (refine box_arg (r := ⟨4, t, A, n, c, 0, 0⟩) rfl (.tmp 0) rfl rfl ?_; intro w1 b1 e1 p1 l1 z1; have P1 := Lib.hid p1; have a0 := p1.c0; have a1 := p1.c1; have a2 := p1.c2; have a3 := p1.c3; have a4 := p1.c4; have L1 := Lib.hid l1; clear e1 p1 l1 z1; simp only at a0 a1 a2 a3 a4)
        | (refine load_piece (r := ⟨4, t, A, n, c, 0, 0⟩) rfl (.tmp 1) rfl rfl P1.out ?_))
      refine (HS.out _).mono ?_
      rintro e w2 ⟨rfl, l2⟩
      have PB2 := Lib.hid (P1.out.below l2)
      have L1 := Lib.hid (on L1.out l2)
      have d2 := PB2.out.c2
      simp only at d2
      clear l2
      go_wp2_with fail
      go_ret
      exact ⟨rfl, L1.out⟩
  | false =>
    obtain rfl : false = V := by rw [← hV]; simp [own, hg]
    clear hV hg
    go_enter Tryz.func47, Tryz.ntmps47
    go_wp2_with (first
      | (refine box_arg (r := ⟨4, t, A, n, c, 0, 0⟩) rfl (.tmp 0) rfl rfl ?_; intro w1 b1 e1 p1 l1 z1; have P1 := Lib.hid p1; have a0 := p1.c0; have a1 := p1.c1; have a2 := p1.c2; have a3 := p1.c3; have a4 := p1.c4; have L1 := Lib.hid l1; clear e1 p1 l1 z1; simp only at a0 a1 a2 a3 a4)
      | (refine load_piece (r := ⟨4, t, A, n, c, 0, 0⟩) rfl (.tmp 1) rfl rfl P1.out ?_))
    refine (HS.out _).mono ?_
    rintro e w2 ⟨rfl, l2⟩
    have PB2 := Lib.hid (P1.out.below l2)
    have L1 := Lib.hid (on L1.out l2)
    have d2 := PB2.out.c2
    simp only at d2
    clear l2
    go_wp2_with fail
    go_ret
    exact ⟨rfl, L1.out⟩
set_option maxHeartbeats 4000000 in
theorem alike_5 {t : ByteArray} {A : Option Addr} {n c : Nat} (hr : n ≤ c ∧ c ≤ 9223372036854775807) {V : Bool} (hV : own 5 t n 0 0 = V) (w : World) : Calls Tryz.prog 47 #[.agg (rawA ⟨5, t, A, n, c, 0, 0⟩)] w fun e w' => e = .returned (.bool V) ∧ Below w.heap.size w w' := by
  have hc1 := hr.1
  have hc2 := hr.2
  clear hr
  by_cases hz : t.size = 0
  · have : t = ⟨#[]⟩ := no_of hz
    subst this
    by_cases hn : n = 0
    · obtain rfl : true = V := by rw [← hV]; simp [own, hz, hn]
      have tn : ((n : Int) == 0) = true := by simp [hn]
      clear hV hn hz
      go_enter Tryz.func47, Tryz.ntmps47
      go_wp2_with (first
        | (refine box_arg (r := ⟨5, ⟨#[]⟩, A, n, c, 0, 0⟩) rfl (.tmp 0) rfl rfl ?_; intro w1 b1 e1 p1 l1 z1; have P1 := Lib.hid p1; have a0 := p1.c0; have a1 := p1.c1; have a2 := p1.c2; have a3 := p1.c3; have a4 := p1.c4; have L1 := Lib.hid l1; clear e1 p1 l1 z1; simp only at a0 a1 a2 a3 a4)
        | (refine load_piece (r := ⟨5, ⟨#[]⟩, A, n, c, 0, 0⟩) rfl (.tmp 1) rfl rfl P1.out ?_))
      go_ret
      exact ⟨rfl, L1.out⟩
    · obtain rfl : false = V := by rw [← hV]; simp [own, hz, hn]
      have tn : ((n : Int) == 0) = false := by simpa using hn
      clear hV hn hz
      go_enter Tryz.func47, Tryz.ntmps47
      go_wp2_with (first
        | (refine box_arg (r := ⟨5, ⟨#[]⟩, A, n, c, 0, 0⟩) rfl (.tmp 0) rfl rfl ?_; intro w1 b1 e1 p1 l1 z1; have P1 := Lib.hid p1; have a0 := p1.c0; have a1 := p1.c1; have a2 := p1.c2; have a3 := p1.c3; have a4 := p1.c4; have L1 := Lib.hid l1; clear e1 p1 l1 z1; simp only at a0 a1 a2 a3 a4)
        | (refine load_piece (r := ⟨5, ⟨#[]⟩, A, n, c, 0, 0⟩) rfl (.tmp 1) rfl rfl P1.out ?_))
      go_ret
      exact ⟨rfl, L1.out⟩
  · obtain rfl : false = V := by rw [← hV]; simp [own, hz]
    have te := Kit.list_full (s := t) (by omega)
    have te2 := Kit.list_ne (s := t) (by omega)
    clear hV hz
    go_enter Tryz.func47, Tryz.ntmps47
    go_wp2_with (first
      | (refine box_arg (r := ⟨5, t, A, n, c, 0, 0⟩) rfl (.tmp 0) rfl rfl ?_; intro w1 b1 e1 p1 l1 z1; have P1 := Lib.hid p1; have a0 := p1.c0; have a1 := p1.c1; have a2 := p1.c2; have a3 := p1.c3; have a4 := p1.c4; have L1 := Lib.hid l1; clear e1 p1 l1 z1; simp only at a0 a1 a2 a3 a4)
      | (refine load_piece (r := ⟨5, t, A, n, c, 0, 0⟩) rfl (.tmp 1) rfl rfl P1.out ?_))
    go_ret
    exact ⟨rfl, L1.out⟩
set_option maxHeartbeats 4000000 in
theorem alike_6 {t : ByteArray} {A : Option Addr} {n c : Nat} (hr : n ≤ c ∧ c ≤ 9223372036854775807) {V : Bool} (hV : own 6 t n 0 0 = V) (w : World) : Calls Tryz.prog 47 #[.agg (rawA ⟨6, t, A, n, c, 0, 0⟩)] w fun e w' => e = .returned (.bool V) ∧ Below w.heap.size w w' := by
  have hc1 := hr.1
  have hc2 := hr.2
  clear hr
  by_cases hz : t.size = 0
  · have : t = ⟨#[]⟩ := no_of hz
    subst this
    by_cases hn : n = 0
    · obtain rfl : true = V := by rw [← hV]; simp [own, hz, hn]
      have tn : ((n : Int) == 0) = true := by simp [hn]
      clear hV hn hz
      go_enter Tryz.func47, Tryz.ntmps47
      go_wp2_with (first
        | (refine box_arg (r := ⟨6, ⟨#[]⟩, A, n, c, 0, 0⟩) rfl (.tmp 0) rfl rfl ?_; intro w1 b1 e1 p1 l1 z1; have P1 := Lib.hid p1; have a0 := p1.c0; have a1 := p1.c1; have a2 := p1.c2; have a3 := p1.c3; have a4 := p1.c4; have L1 := Lib.hid l1; clear e1 p1 l1 z1; simp only at a0 a1 a2 a3 a4)
        | (refine load_piece (r := ⟨6, ⟨#[]⟩, A, n, c, 0, 0⟩) rfl (.tmp 1) rfl rfl P1.out ?_))
      go_ret
      exact ⟨rfl, L1.out⟩
    · obtain rfl : false = V := by rw [← hV]; simp [own, hz, hn]
      have tn : ((n : Int) == 0) = false := by simpa using hn
      clear hV hn hz
      go_enter Tryz.func47, Tryz.ntmps47
      go_wp2_with (first
        | (refine box_arg (r := ⟨6, ⟨#[]⟩, A, n, c, 0, 0⟩) rfl (.tmp 0) rfl rfl ?_; intro w1 b1 e1 p1 l1 z1; have P1 := Lib.hid p1; have a0 := p1.c0; have a1 := p1.c1; have a2 := p1.c2; have a3 := p1.c3; have a4 := p1.c4; have L1 := Lib.hid l1; clear e1 p1 l1 z1; simp only at a0 a1 a2 a3 a4)
        | (refine load_piece (r := ⟨6, ⟨#[]⟩, A, n, c, 0, 0⟩) rfl (.tmp 1) rfl rfl P1.out ?_))
      go_ret
      exact ⟨rfl, L1.out⟩
  · obtain rfl : false = V := by rw [← hV]; simp [own, hz]
    have te := Kit.list_full (s := t) (by omega)
    have te2 := Kit.list_ne (s := t) (by omega)
    clear hV hz
    go_enter Tryz.func47, Tryz.ntmps47
    go_wp2_with (first
      | (refine box_arg (r := ⟨6, t, A, n, c, 0, 0⟩) rfl (.tmp 0) rfl rfl ?_; intro w1 b1 e1 p1 l1 z1; have P1 := Lib.hid p1; have a0 := p1.c0; have a1 := p1.c1; have a2 := p1.c2; have a3 := p1.c3; have a4 := p1.c4; have L1 := Lib.hid l1; clear e1 p1 l1 z1; simp only at a0 a1 a2 a3 a4)
      | (refine load_piece (r := ⟨6, t, A, n, c, 0, 0⟩) rfl (.tmp 1) rfl rfl P1.out ?_))
    go_ret
    exact ⟨rfl, L1.out⟩
set_option maxHeartbeats 4000000 in
theorem alike_7 {t : ByteArray} {A : Option Addr} {n c : Nat} (hr : n ≤ c ∧ c ≤ 9223372036854775807) {V : Bool} (hV : own 7 t n 0 0 = V) (w : World) : Calls Tryz.prog 47 #[.agg (rawA ⟨7, t, A, n, c, 0, 0⟩)] w fun e w' => e = .returned (.bool V) ∧ Below w.heap.size w w' := by
  have hc1 := hr.1
  have hc2 := hr.2
  clear hr
  by_cases hz : t.size = 0
  · have : t = ⟨#[]⟩ := no_of hz
    subst this
    by_cases hn : 2 ≤ n
    · obtain rfl : true = V := by rw [← hV]; simp [own, hz, show 1 < n by omega]
      have tn : (2 : Int) ≤ (n : Int) := by omega
      clear hV hn hz
      go_enter Tryz.func47, Tryz.ntmps47
      go_wp2_with (first
        | (refine box_arg (r := ⟨7, ⟨#[]⟩, A, n, c, 0, 0⟩) rfl (.tmp 0) rfl rfl ?_; intro w1 b1 e1 p1 l1 z1; have P1 := Lib.hid p1; have a0 := p1.c0; have a1 := p1.c1; have a2 := p1.c2; have a3 := p1.c3; have a4 := p1.c4; have L1 := Lib.hid l1; clear e1 p1 l1 z1; simp only at a0 a1 a2 a3 a4)
        | (refine load_piece (r := ⟨7, ⟨#[]⟩, A, n, c, 0, 0⟩) rfl (.tmp 1) rfl rfl P1.out ?_))
      go_ret
      exact ⟨rfl, L1.out⟩
    · obtain rfl : false = V := by rw [← hV]; simp [own, hz, show ¬ 1 < n by omega]
      have tn : ¬ (2 : Int) ≤ (n : Int) := by omega
      clear hV hn hz
      go_enter Tryz.func47, Tryz.ntmps47
      go_wp2_with (first
        | (refine box_arg (r := ⟨7, ⟨#[]⟩, A, n, c, 0, 0⟩) rfl (.tmp 0) rfl rfl ?_; intro w1 b1 e1 p1 l1 z1; have P1 := Lib.hid p1; have a0 := p1.c0; have a1 := p1.c1; have a2 := p1.c2; have a3 := p1.c3; have a4 := p1.c4; have L1 := Lib.hid l1; clear e1 p1 l1 z1; simp only at a0 a1 a2 a3 a4)
        | (refine load_piece (r := ⟨7, ⟨#[]⟩, A, n, c, 0, 0⟩) rfl (.tmp 1) rfl rfl P1.out ?_))
      go_ret
      exact ⟨rfl, L1.out⟩
  · obtain rfl : false = V := by rw [← hV]; simp [own, hz]
    have te := Kit.list_full (s := t) (by omega)
    have te2 := Kit.list_ne (s := t) (by omega)
    clear hV hz
    go_enter Tryz.func47, Tryz.ntmps47
    go_wp2_with (first
      | (refine box_arg (r := ⟨7, t, A, n, c, 0, 0⟩) rfl (.tmp 0) rfl rfl ?_; intro w1 b1 e1 p1 l1 z1; have P1 := Lib.hid p1; have a0 := p1.c0; have a1 := p1.c1; have a2 := p1.c2; have a3 := p1.c3; have a4 := p1.c4; have L1 := Lib.hid l1; clear e1 p1 l1 z1; simp only at a0 a1 a2 a3 a4)
      | (refine load_piece (r := ⟨7, t, A, n, c, 0, 0⟩) rfl (.tmp 1) rfl rfl P1.out ?_))
    go_ret
    exact ⟨rfl, L1.out⟩
set_option maxHeartbeats 4000000 in
theorem alike_8 {t : ByteArray} {A : Option Addr} {n c : Nat} (hr : n ≤ c ∧ c ≤ 9223372036854775807) {V : Bool} (hV : own 8 t n 0 0 = V) (w : World) : Calls Tryz.prog 47 #[.agg (rawA ⟨8, t, A, n, c, 0, 0⟩)] w fun e w' => e = .returned (.bool V) ∧ Below w.heap.size w w' := by
  have hc1 := hr.1
  have hc2 := hr.2
  clear hr
  by_cases hz : t.size = 0
  · have : t = ⟨#[]⟩ := no_of hz
    subst this
    by_cases hn : 2 ≤ n
    · obtain rfl : true = V := by rw [← hV]; simp [own, hz, show 1 < n by omega]
      have tn : (2 : Int) ≤ (n : Int) := by omega
      clear hV hn hz
      go_enter Tryz.func47, Tryz.ntmps47
      go_wp2_with (first
        | (refine box_arg (r := ⟨8, ⟨#[]⟩, A, n, c, 0, 0⟩) rfl (.tmp 0) rfl rfl ?_; intro w1 b1 e1 p1 l1 z1; have P1 := Lib.hid p1; have a0 := p1.c0; have a1 := p1.c1; have a2 := p1.c2; have a3 := p1.c3; have a4 := p1.c4; have L1 := Lib.hid l1; clear e1 p1 l1 z1; simp only at a0 a1 a2 a3 a4)
        | (refine load_piece (r := ⟨8, ⟨#[]⟩, A, n, c, 0, 0⟩) rfl (.tmp 1) rfl rfl P1.out ?_))
      go_ret
      exact ⟨rfl, L1.out⟩
    · obtain rfl : false = V := by rw [← hV]; simp [own, hz, show ¬ 1 < n by omega]
      have tn : ¬ (2 : Int) ≤ (n : Int) := by omega
      clear hV hn hz
      go_enter Tryz.func47, Tryz.ntmps47
      go_wp2_with (first
        | (refine box_arg (r := ⟨8, ⟨#[]⟩, A, n, c, 0, 0⟩) rfl (.tmp 0) rfl rfl ?_; intro w1 b1 e1 p1 l1 z1; have P1 := Lib.hid p1; have a0 := p1.c0; have a1 := p1.c1; have a2 := p1.c2; have a3 := p1.c3; have a4 := p1.c4; have L1 := Lib.hid l1; clear e1 p1 l1 z1; simp only at a0 a1 a2 a3 a4)
        | (refine load_piece (r := ⟨8, ⟨#[]⟩, A, n, c, 0, 0⟩) rfl (.tmp 1) rfl rfl P1.out ?_))
      go_ret
      exact ⟨rfl, L1.out⟩
  · obtain rfl : false = V := by rw [← hV]; simp [own, hz]
    have te := Kit.list_full (s := t) (by omega)
    have te2 := Kit.list_ne (s := t) (by omega)
    clear hV hz
    go_enter Tryz.func47, Tryz.ntmps47
    go_wp2_with (first
      | (refine box_arg (r := ⟨8, t, A, n, c, 0, 0⟩) rfl (.tmp 0) rfl rfl ?_; intro w1 b1 e1 p1 l1 z1; have P1 := Lib.hid p1; have a0 := p1.c0; have a1 := p1.c1; have a2 := p1.c2; have a3 := p1.c3; have a4 := p1.c4; have L1 := Lib.hid l1; clear e1 p1 l1 z1; simp only at a0 a1 a2 a3 a4)
      | (refine load_piece (r := ⟨8, t, A, n, c, 0, 0⟩) rfl (.tmp 1) rfl rfl P1.out ?_))
    go_ret
    exact ⟨rfl, L1.out⟩
set_option maxHeartbeats 4000000 in
theorem alike_not {k : Int} (hk : ¬ (1 ≤ k ∧ k ≤ 9)) {t : ByteArray} {A : Option Addr} {n c : Nat} (w : World) : Calls Tryz.prog 47 #[.agg (rawA ⟨k, t, A, n, c, 0, 0⟩)] w fun e w' => e = .returned (.bool false) ∧ Below w.heap.size w w' := by
  have t1 : (k == 1) = false := by simp; omega
  have t2 : (k == 2) = false := by simp; omega
  have t3 : (k == 3) = false := by simp; omega
  have t4 : (k == 4) = false := by simp; omega
  have t5 : (k == 5) = false := by simp; omega
  have t6 : (k == 6) = false := by simp; omega
  have t7 : (k == 7) = false := by simp; omega
  have t8 : (k == 8) = false := by simp; omega
  have t9 : (k == 9) = false := by simp; omega
  clear hk
  go_enter Tryz.func47, Tryz.ntmps47
  go_wp2_with (first
    | (refine box_arg (r := ⟨k, t, A, n, c, 0, 0⟩) rfl (.tmp 0) rfl rfl ?_; intro w1 b1 e1 p1 l1 z1; have P1 := Lib.hid p1; have a0 := p1.c0; have a1 := p1.c1; have a2 := p1.c2; have a3 := p1.c3; have a4 := p1.c4; have L1 := Lib.hid l1; clear e1 p1 l1 z1; simp only at a0 a1 a2 a3 a4)
    | (refine load_piece (r := ⟨k, t, A, n, c, 0, 0⟩) rfl (.tmp 1) rfl rfl P1.out ?_))
  go_ret
  exact ⟨rfl, L1.out⟩
set_option maxHeartbeats 4000000 in
theorem alike_odd {k : Int} (hk : k ≠ 9) {t : ByteArray} {A : Option Addr} {n c : Nat} {m tp : Int} (ho : ¬ (m = 0 ∧ tp = 0)) (w : World) : Calls Tryz.prog 47 #[.agg (rawA ⟨k, t, A, n, c, m, tp⟩)] w fun e w' => e = .returned (.bool false) ∧ Below w.heap.size w w' := by
  have t9 : (k == 9) = false := by simpa using hk
  by_cases hm : m = 0
  · have ht : ¬ tp = 0 := fun q => ho ⟨hm, q⟩
    subst hm
    have tt : (tp != 0) = true := by simpa using ht
    clear hk ho ht
    go_enter Tryz.func47, Tryz.ntmps47
    go_wp2_with (first
      | (refine box_arg (r := ⟨k, t, A, n, c, 0, tp⟩) rfl (.tmp 0) rfl rfl ?_; intro w1 b1 e1 p1 l1 z1; have P1 := Lib.hid p1; have a0 := p1.c0; have a1 := p1.c1; have a2 := p1.c2; have a3 := p1.c3; have a4 := p1.c4; have L1 := Lib.hid l1; clear e1 p1 l1 z1; simp only at a0 a1 a2 a3 a4)
      | (refine load_piece (r := ⟨k, t, A, n, c, 0, tp⟩) rfl (.tmp 1) rfl rfl P1.out ?_))
    go_ret
    exact ⟨rfl, L1.out⟩
  · have tm : (m != 0) = true := by simpa using hm
    clear hk ho hm
    go_enter Tryz.func47, Tryz.ntmps47
    go_wp2_with (first
      | (refine box_arg (r := ⟨k, t, A, n, c, m, tp⟩) rfl (.tmp 0) rfl rfl ?_; intro w1 b1 e1 p1 l1 z1; have P1 := Lib.hid p1; have a0 := p1.c0; have a1 := p1.c1; have a2 := p1.c2; have a3 := p1.c3; have a4 := p1.c4; have L1 := Lib.hid l1; clear e1 p1 l1 z1; simp only at a0 a1 a2 a3 a4)
      | (refine load_piece (r := ⟨k, t, A, n, c, m, tp⟩) rfl (.tmp 1) rfl rfl P1.out ?_))
    go_ret
    exact ⟨rfl, L1.out⟩
set_option maxHeartbeats 4000000 in
theorem alike_9 {t : ByteArray} {A : Option Addr} {n c : Nat} (hr : n ≤ c ∧ c ≤ 9223372036854775807) {m tp : Int} (w : World) : Calls Tryz.prog 47 #[.agg (rawA ⟨9, t, A, n, c, m, tp⟩)] w fun e w' => e = .returned (.bool (oft t n m tp)) ∧ Below w.heap.size w w' := by
  have HO := isRepeat_gen 9 t A n c m tp hr
  unfold Asks at HO
  obtain ⟨b, hb⟩ : ∃ b, oft t n m tp = b := ⟨_, rfl⟩
  rw [hb] at HO ⊢
  replace HO := Lib.hid HO
  clear hr hb
  go_enter Tryz.func47, Tryz.ntmps47
  go_wp2_with (first
    | (refine box_arg (r := ⟨9, t, A, n, c, m, tp⟩) rfl (.tmp 0) rfl rfl ?_; intro w1 b1 e1 p1 l1 z1; have P1 := Lib.hid p1; have a0 := p1.c0; have a1 := p1.c1; have a2 := p1.c2; have a3 := p1.c3; have a4 := p1.c4; have L1 := Lib.hid l1; clear e1 p1 l1 z1; simp only at a0 a1 a2 a3 a4)
    | (refine load_piece (r := ⟨9, t, A, n, c, m, tp⟩) rfl (.tmp 1) rfl rfl P1.out ?_))
  refine (HO.out _).mono ?_
  rintro e w2 ⟨rfl, l2⟩
  have L1 := Lib.hid (on L1.out l2)
  clear l2
  go_wp2_with fail
  go_ret
  exact ⟨rfl, L1.out⟩
theorem alike_gen (k : Int) (t : ByteArray) (A : Option Addr) (n c : Nat) (m tp : Int) (hr : n ≤ c ∧ c ≤ 9223372036854775807) : Asks 47 ⟨k, t, A, n, c, m, tp⟩ (own k t n m tp) := by
  intro w
  by_cases h9 : k = 9
  · subst h9
    rw [show own 9 t n m tp = oft t n m tp by unfold own; rw [if_pos rfl]]
    exact alike_9 hr w
  by_cases ho : m = 0 ∧ tp = 0
  · obtain ⟨rfl, rfl⟩ := ho
    by_cases hk : 1 ≤ k ∧ k ≤ 9
    · have : k = 1 ∨ k = 2 ∨ k = 3 ∨ k = 4 ∨ k = 5 ∨ k = 6 ∨ k = 7 ∨ k = 8 := by omega
      rcases this with rfl | rfl | rfl | rfl | rfl | rfl | rfl | rfl
      · exact alike_1 hr rfl w
      · exact alike_2 hr rfl w
      · exact alike_3 hr rfl w
      · exact alike_4 hr rfl w
      · exact alike_5 hr rfl w
      · exact alike_6 hr rfl w
      · exact alike_7 hr rfl w
      · exact alike_8 hr rfl w
    · rw [show own k t n 0 0 = false by unfold own; rw [if_neg h9, if_neg (by omega), if_neg (by omega), if_neg (by omega), decide_eq_false (show ¬ (k = 1 ∨ k = 3 ∨ k = 5 ∨ k = 6) by omega)]; simp]
      exact alike_not hk w
  · rw [show own k t n m tp = false by unfold own; rw [if_neg h9]; by_cases hm : m = 0 <;> by_cases ht : tp = 0 <;> simp [hm, ht] <;> exact absurd ⟨hm, ht⟩ ho]
    exact alike_odd h9 ho w
def PD (p : Piece) : Prop := ∀ (w : World) (r : Raw), PLow w r p → Calls Tryz.prog 28 #[.agg (rawA r)] w fun e w' => e = .returned (.bool (gwhole p)) ∧ Below w.heap.size w w'
theorem take_all {ks : List Piece} {i : Nat} (hi : i < ks.length) : (ks.take (i + 1)).all gwhole = ((ks.take i).all gwhole && gwhole ks[i]) := by
  rw [List.take_succ_eq_append_getElem hi, List.all_append]
  simp
theorem all_not {ks : List Piece} {i : Nat} (hi : i < ks.length) (h : gwhole ks[i] = false) : ks.all gwhole = false :=
  List.all_eq_false.2 ⟨ks[i], List.getElem_mem hi, by simp [h]⟩
set_option maxHeartbeats 4000000 in
theorem pd_mk {k : Int} {t : ByteArray} {ks : List Piece} {l tp : Int} (IH : ∀ i (hi : i < ks.length), PD ks[i]) : PD (.mk k t ks l tp) := by
  intro w r h
  rw [gwhole_mk]
  have HI := Lib.hid IH
  have HL := Lib.hid h
  obtain ⟨A, c, raws, rfl, k1⟩ := h.parts
  have K1 := Lib.hid k1
  have HR := Lib.hid k1.room
  have HA := alike_gen k t A ks.length c l tp k1.room
  unfold Asks at HA
  obtain ⟨o, ho⟩ : ∃ o, own k t ks.length l tp = o := ⟨_, rfl⟩
  rw [ho] at HA ⊢
  replace HA := Lib.hid HA
  obtain ⟨V, hV⟩ : ∃ V, (ks.all gwhole && o) = V := ⟨_, rfl⟩
  rw [hV]
  have HV := Lib.hid hV
  clear h k1 IH ho hV
  go_enter Tryz.func28, Tryz.ntmps28
  go_wp2_with (first
    | (refine box_arg (r := ⟨k, t, A, ks.length, c, l, tp⟩) rfl (.tmp 0) rfl rfl ?_; intro w1 b1 e1 p1 l1 z1; have P1 := Lib.hid p1; have L1 := Lib.hid l1; clear e1 p1 l1 z1)
    | (refine load_piece (r := ⟨k, t, A, ks.length, c, l, tp⟩) rfl (.tmp 1) rfl rfl P1.out ?_))
  refine (HA.out _).mono ?_
  rintro e w2 ⟨rfl, l2⟩
  have PB2 := Lib.hid (P1.out.below l2)
  have L2 := Lib.hid (L1.out.trans (l2.mono L1.out.size))
  have K2 := Lib.hid (K1.out.below L2.out)
  have a2 := PB2.out.c2
  simp only at a2
  have hr1 := HR.out.1
  have hr2 := HR.out.2
  clear l2
  cases o with
  | false =>
    have HF : Hid (V = false) := by unfold Hid; rw [← HV.out, Bool.and_false]
    clear a2 hr1 hr2
    go_wp2_with fail
    go_ret
    exact ⟨by rw [HF.out]; rfl, L2.out⟩
  | true =>
  replace HV : Hid (ks.all gwhole = V) := by have := HV.out; rw [Bool.and_true] at this; exact this
  go_wp2_with fail
  clear a2 hr1 hr2
  go_loopg [11] ks.length (fun gk s11 wr => ∃ i : Nat, s11 = .int .i64 i ∧ Hid (i + gk = ks.length) ∧ Hid ((ks.take i).all gwhole = true) ∧ Hid (Kids wr A c raws ks) ∧ Hid (Below w.heap.size w wr))
  case atStart => exact ⟨0, rfl, by unfold Hid; omega, by unfold Hid; simp, K2, L2⟩
  case round =>
    obtain ⟨i, rfl, hig, HT, K1, HB⟩ := hrel
    have hn1 := HR.out.1
    have hn2 := HR.out.2
    by_cases hi : i < ks.length
    · have ti : (i : Int) < (ks.length : Int) := by omega
      obtain ⟨g1, o1, rfl, C1⟩ := K1.out.at_ (Nat.lt_of_le_of_lt (Nat.zero_le _) hi)
      obtain ⟨hr1, q1⟩ := K1.out.kid hi
      have E1 := Lib.hid (C1 i hr1)
      have Q1 := Lib.hid q1
      have HI2 := Lib.hid hi
      obtain ⟨rk, hrk⟩ : ∃ rk, raws[i]'hr1 = rk := ⟨_, rfl⟩
      rw [hrk] at E1 Q1
      obtain ⟨g, hg⟩ : ∃ g, gwhole (ks[i]'hi) = g := ⟨_, rfl⟩
      have HC : Hid (∀ (w : World), PLow w rk (ks[i]'hi) → Calls Tryz.prog 28 #[.agg (rawA rk)] w fun e w' => e = .returned (.bool g) ∧ Below w.heap.size w w') := fun w h => by
        have := HI.out i hi w rk h
        rw [hg] at this
        exact this
      have HG := Lib.hid hg
      have hwi : Hid (wrap64 ((i : Int) + 1) = ((i + 1 : Nat) : Int)) := by unfold Hid wrap64; omega
      clear C1 q1 hrk hg
      go_wp2_with (first
        | (refine load_at rfl (.tmp 13) rfl rfl (r := rk) E1.out ?_)
        | (refine alloc_piece rfl rfl ?_; intro w3 b3 e3 p3 l3 z3)
        | (refine store_piece (r := rk) rfl (.tmp 4) (.tmp 14) rfl rfl rfl p3 ?_; intro w4 p4 l4 z4; have L4 := Lib.hid (two_new l3 l4 e3); have P4 := Lib.hid p4; clear e3 p3 l3 z3 p4 l4 z4)
        | (refine load_piece (r := rk) rfl (.tmp 4) rfl rfl P4.out ?_))
      refine (HC.out _ (Q1.out.below L4.out)).mono ?_
      rintro e w5 ⟨rfl, l5⟩
      have K5 := Lib.hid ((K1.out.below L4.out).below l5)
      have B5 := Lib.hid (HB.out.trans ((L4.out.trans (l5.mono L4.out.size)).mono HB.out.size))
      clear l5
      cases g with
      | false =>
        have HF : Hid (V = false) := by unfold Hid; rw [← HV.out]; exact all_not hi HG.out
        go_wp2_with fail
        go_ret
        exact ⟨by rw [HF.out]; rfl, B5.out⟩
      | true =>
      have HT2 : Hid ((ks.take (i + 1)).all gwhole = true) := by unfold Hid; rw [take_all hi, HT.out, HG.out]; rfl
      cases gk with
      | zero => exact absurd hig.out (by have := HI2.out; omega)
      | succ g =>
        go_wp2_with fail
        go_roundg g
        case measure => omega
        case rel => exact ⟨i + 1, by first | rfl | exact congrArg (Value.int .i64) hwi.out, by have := hig.out; unfold Hid; omega, HT2, K5, B5⟩
    · have ti : ¬ (i : Int) < (ks.length : Int) := by omega
      have HF : Hid (V = true) := by
        have hie : i = ks.length := by have := hig.out; omega
        have := HT.out
        rw [hie, List.take_length] at this
        unfold Hid; rw [← HV.out, this]
      go_wp2_with fail
      go_ret
      exact ⟨by rw [HF.out]; rfl, HB.out⟩
theorem pd_any (p : Piece) : PD p := by
  induction p using M15.ind with
  | h k t ks m tp ih => exact pd_mk fun i hi => ih ks[i] (List.getElem_mem hi)
set_option maxHeartbeats 1000000 in
/-- the program's Right of any piece -/
theorem pright_any {p : Piece} (h : Small p) {w : World} {r : Raw} (hl : PLow w r p) : Calls Tryz.prog 16 #[.agg (rawA r)] w fun e w' => e = .returned (.bool (gwhole p && decide (gsize p ≤ 4000))) ∧ Below w.heap.size w w' := by
  have hs := pg_any p h
  unfold PG GTo at hs
  have hp := pd_any p
  unfold PD at hp
  have HL := Lib.hid hl
  obtain ⟨n, hn⟩ : ∃ n, gsize p = n := ⟨_, rfl⟩
  obtain ⟨g, hg⟩ : ∃ g, gwhole p = g := ⟨_, rfl⟩
  rw [hn] at hs ⊢
  rw [hg] at hp ⊢
  have HS := Lib.hid hs
  have HP := Lib.hid hp
  clear h hl hn hg hs hp
  by_cases hb : n ≤ 4000
  · have td : (n : Int) ≤ 4000 := by omega
    rw [decide_eq_true hb, Bool.and_true]
    clear hb
    go_enter Tryz.func16, Tryz.ntmps16
    go_wp2_with (first
      | (refine box_arg (r := r) rfl (.tmp 0) rfl rfl ?_; intro w1 b1 e1 p1 l1 z1; have P1 := Lib.hid p1; have L1 := Lib.hid l1; clear e1 p1 l1 z1)
      | (refine load_piece (r := r) rfl (.tmp 1) rfl rfl P1.out ?_))
    refine (HS.out _ _ (HL.out.below L1.out)).mono ?_
    rintro e w2 ⟨rfl, l2⟩
    have PB2 := Lib.hid (P1.out.below l2)
    have L2 := Lib.hid (L1.out.trans (l2.mono L1.out.size))
    have a0 := PB2.out.c0
    have a1 := PB2.out.c1
    have a2 := PB2.out.c2
    have a3 := PB2.out.c3
    have a4 := PB2.out.c4
    clear l2
    go_wp2_with fail
    refine (HP.out _ _ (HL.out.below L2.out)).mono ?_
    rintro e w3 ⟨rfl, l3⟩
    have L3 := Lib.hid (L2.out.trans (l3.mono L2.out.size))
    clear l3
    go_wp2_with fail
    go_ret
    exact ⟨rfl, L3.out⟩
  · have td : ¬ (n : Int) ≤ 4000 := by omega
    rw [decide_eq_false hb, Bool.and_false]
    clear hb
    go_enter Tryz.func16, Tryz.ntmps16
    go_wp2_with (first
      | (refine box_arg (r := r) rfl (.tmp 0) rfl rfl ?_; intro w1 b1 e1 p1 l1 z1; have P1 := Lib.hid p1; have L1 := Lib.hid l1; clear e1 p1 l1 z1)
      | (refine load_piece (r := r) rfl (.tmp 1) rfl rfl P1.out ?_))
    refine (HS.out _ _ (HL.out.below L1.out)).mono ?_
    rintro e w2 ⟨rfl, l2⟩
    have L2 := Lib.hid (L1.out.trans (l2.mono L1.out.size))
    clear l2
    go_wp2_with fail
    go_ret
    exact ⟨rfl, L2.out⟩
end Go.Proofs.YtmbibaccpeldoaaGreatDoor.W15
/-
  Layer 15 (prog), walk of layer 14's own Many of any piece: it comes to an end. The conditions stand in the statements.
-/
namespace Go.Proofs.YtmbibaccpeldoaaGreatDoor.W15
set_option maxRecDepth 100000
open Go Go.RowKit Go.Proofs.YtmbibaccpeldoaaGreatDoor.Strs Go.Proofs.YtmbibaccpeldoaaGreatDoor.Recs Go.Proofs.YtmbibaccpeldoaaGreatDoor.M15
open Go.Proofs.YtmbibaccpeldoaaGreatDoor.M14 (Piece)
open Go.Proofs.YtmbibaccpeldoaaGreatDoor.W14 (Raw rawA rawC PAt PBox PLow box_arg load_piece load_at cell_block)
open Go.Proofs.YtmbibaccpeldoaaGreatDoor.Kit (below_draws on)

def MTo (w : World) (e : Ending) (w' : World) : Prop := ∃ m : Int, e = .returned (.int .i64 m) ∧ Below w.heap.size w w'
set_option maxHeartbeats 4000000 in
theorem rmany_mk {k : Int} {t : ByteArray} {ks : List Piece} {l tp : Int} (IH : ∀ i (hi : i < ks.length) (w : World) (r : Raw), PLow w r ks[i] → Calls Tryz.prog 6 #[.agg (rawA r)] w (MTo w)) {w : World} {r : Raw} (h : PLow w r (.mk k t ks l tp)) :
    Calls Tryz.prog 6 #[.agg (rawA r)] w (MTo w) := by
  have HI := Lib.hid IH
  obtain ⟨A, c, raws, rfl, k1⟩ := h.parts
  have K1 := Lib.hid k1
  have HR := Lib.hid k1.room
  clear h k1 IH
  go_enter Tryz.func6, Tryz.ntmps6
  go_wp2_with (first
    | (refine box_arg (r := ⟨k, t, A, ks.length, c, l, tp⟩) rfl (.tmp 0) rfl rfl ?_; intro w1 b1 e1 p1 l1 z1; have P1 := Lib.hid p1; have L1 := Lib.hid l1; clear e1 p1 l1 z1))
  have K1 := Lib.hid (K1.out.below L1.out)
  go_loopg [3, 4] ks.length (fun gk s3 s4 wr => ∃ (i : Nat) (N : Int), s3 = .int .i64 N ∧ s4 = .int .i64 i ∧ Hid (i + gk = ks.length) ∧ Hid (PBox wr b1 ⟨k, t, A, ks.length, c, l, tp⟩) ∧ Hid (Kids wr A c raws ks) ∧ Hid (Below w.heap.size w wr))
  case atStart => exact ⟨0, 1, rfl, rfl, by unfold Hid; omega, P1, K1, L1⟩
  case round =>
    obtain ⟨i, N, rfl, rfl, hig, P1, K1, HB⟩ := hrel
    have a2 := P1.out.c2
    simp only at a2
    have hn1 := HR.out.1
    have hn2 := HR.out.2
    by_cases hi : i < ks.length
    · have ti : (i : Int) < (ks.length : Int) := by omega
      by_cases tN : N < 2000
      · obtain ⟨g1, o1, rfl, C1⟩ := K1.out.at_ (Nat.lt_of_le_of_lt (Nat.zero_le _) hi)
        obtain ⟨hr1, q1⟩ := K1.out.kid hi
        have E1 := Lib.hid (C1 i hr1)
        have Q1 := Lib.hid q1
        have HI2 := Lib.hid hi
        obtain ⟨rk, hrk⟩ : ∃ rk, raws[i]'hr1 = rk := ⟨_, rfl⟩
        rw [hrk] at E1 Q1
        have HC := Lib.hid (fun (w : World) (h : PLow w rk (ks[i]'hi)) => HI.out i hi w rk h)
        have hwi : Hid (wrap64 ((i : Int) + 1) = ((i + 1 : Nat) : Int)) := by unfold Hid wrap64; omega
        clear C1 q1 hrk
        go_wp2_with (first
          | (refine load_at rfl (.tmp 20) rfl rfl (r := rk) E1.out ?_))
        refine (HC.out _ Q1.out).mono ?_
        rintro e w5 ⟨m, rfl, l5⟩
        have K5 := Lib.hid (K1.out.below l5)
        have P5 := Lib.hid (P1.out.below l5)
        have B5 := Lib.hid (on HB.out l5)
        clear l5
        cases gk with
        | zero => exact absurd hig.out (by have := HI2.out; omega)
        | succ g =>
          go_wp2_with fail
          go_roundg g
          case measure => omega
          case rel => exact ⟨i + 1, _, rfl, by first | rfl | exact congrArg (Value.int .i64) hwi.out, by have := hig.out; unfold Hid; omega, P5, K5, B5⟩
      · go_wp2_with fail
        go_ret
        exact ⟨_, rfl, HB.out⟩
    · have ti : ¬ (i : Int) < (ks.length : Int) := by omega
      go_wp2_with fail
      go_ret
      exact ⟨_, rfl, HB.out⟩
theorem rmany_any (p : Piece) : ∀ (w : World) (r : Raw), PLow w r p → Calls Tryz.prog 6 #[.agg (rawA r)] w (MTo w) := by
  induction p using M15.ind with
  | h k t ks m tp ih => exact fun w r h => rmany_mk (fun i hi => ih ks[i] (List.getElem_mem hi)) h
end Go.Proofs.YtmbibaccpeldoaaGreatDoor.W15
/-
  Layer 15 (prog), plain mathematics: the program of a piece that may be is one that may be. No condition but those that each theorem bears.
-/
namespace Go.Proofs.YtmbibaccpeldoaaGreatDoor.M15
open Go Go.Proofs.YtmbibaccpeldoaaGreatDoor.M14
open Go.Proofs.YtmbibaccpeldoaaGreatDoor.M13 (good)

theorem times_of {f : Nat → List Inst} {x : Inst} : ∀ (n a : Nat), x ∈ times f n a → ∃ b, x ∈ f b
  | 0, _, h => by simp [times] at h
  | n + 1, a, h => by
    rw [times] at h
    rcases List.mem_append.1 h with h | h
    · exact ⟨_, h⟩
    · exact times_of n _ h
def Txt (x : Inst) : Prop := txtOk x.kind x.text = true
theorem txt_split (x y : Nat) : Txt (split x y) := rfl
theorem txt_jump (x : Nat) : Txt (jump x) := rfl
theorem maybe_txt {f : Nat → List Inst} {e : Nat} (hf : ∀ a x, x ∈ f a → Txt x) {x : Inst} : ∀ (n a : Nat), x ∈ maybe f e n a → Txt x
  | 0, _, h => by simp [maybe] at h
  | n + 1, a, h => by
    rw [maybe] at h
    rcases List.mem_cons.1 h with h | h
    · rw [h]; exact txt_split _ _
    · rcases List.mem_append.1 h with h | h
      · exact hf _ _ h
      · exact maybe_txt hf n _ h
theorem star_txt {f : Nat → List Inst} {e a : Nat} (hf : ∀ a x, x ∈ f a → Txt x) {x : Inst} (h : x ∈ star f e a) : Txt x := by
  unfold star at h
  rcases List.mem_cons.1 h with h | h
  · rw [h]; exact txt_split _ _
  · rcases List.mem_append.1 h with h | h
    · exact hf _ _ h
    · rw [List.mem_singleton.1 h]; exact txt_jump _
theorem seqs_txt {x : Inst} : ∀ {ks : List Piece}, (∀ p, p ∈ ks → ∀ a x, x ∈ steps p a → Txt x) → ∀ a, x ∈ seqs ks a → Txt x
  | [], _, a, h => by simp [seqs] at h
  | p :: l, hk, a, h => by
    rw [seqs] at h
    rcases List.mem_append.1 h with h | h
    · exact hk p (by simp) _ _ h
    · exact seqs_txt (fun q hq => hk q (by simp [hq])) _ h
theorem alts_txt {x : Inst} {e : Nat} : ∀ {ks : List Piece}, (∀ p, p ∈ ks → ∀ a x, x ∈ steps p a → Txt x) → ∀ a, x ∈ alts ks a e → Txt x
  | [], _, a, h => by simp [alts] at h
  | p :: l, hk, a, h => by
    rw [alts] at h
    split at h
    · exact hk p (by simp) _ _ h
    · rcases List.mem_cons.1 h with h | h
      · rw [h]; exact txt_split _ _
      · rcases List.mem_append.1 h with h | h
        · exact hk p (by simp) _ _ h
        · rcases List.mem_cons.1 h with h | h
          · rw [h]; exact txt_jump _
          · exact alts_txt (fun q hq => hk q (by simp [hq])) _ h
theorem first_txt {x : Inst} {ks : List Piece} (hk : ∀ p, p ∈ ks → ∀ a x, x ∈ steps p a → Txt x) {a : Nat} (h : x ∈ first ks a) : Txt x := by
  match ks, hk, h with
  | [], _, h => simp [first] at h
  | p :: l, hk, h => exact hk p (by simp) a x h
theorem steps_txt (p : Piece) : gwhole p = true → ∀ a x, x ∈ steps p a → Txt x := by
  induction p using ind with
  | h k t ks m tp ih =>
    intro h a x hx
    rw [gwhole_mk, Bool.and_eq_true] at h
    have hk : ∀ p, p ∈ ks → ∀ a x, x ∈ steps p a → Txt x := fun p hp => ih p hp (List.all_eq_true.1 h.1 p hp)
    have h2 := h.2
    unfold steps at hx
    have h0 : txtOk 2 no = true ∧ txtOk 4 no = true ∧ txtOk 5 no = true := ⟨rfl, rfl, rfl⟩
    by_cases c2 : k = 2
    · rw [if_pos c2] at hx
      rw [List.mem_singleton.1 hx]
      subst c2
      unfold own at h2
      rw [if_neg (by decide), if_neg (by decide), if_pos rfl] at h2
      simp only [Bool.and_eq_true] at h2
      exact h2.2.2.2
    rw [if_neg c2] at hx
    by_cases c3 : k = 3
    · rw [if_pos c3] at hx
      rw [List.mem_singleton.1 hx]; exact h0.1
    rw [if_neg c3] at hx
    by_cases c4 : k = 4
    · rw [if_pos c4] at hx
      rw [List.mem_singleton.1 hx]
      subst c4
      unfold own at h2
      rw [if_neg (by decide), if_neg (by decide), if_neg (by decide), if_pos rfl] at h2
      simp only [Bool.and_eq_true] at h2
      exact h2.2.2.2
    rw [if_neg c4] at hx
    by_cases c5 : k = 5
    · rw [if_pos c5] at hx
      rw [List.mem_singleton.1 hx]; exact h0.2.1
    rw [if_neg c5] at hx
    by_cases c6 : k = 6
    · rw [if_pos c6] at hx
      rw [List.mem_singleton.1 hx]; exact h0.2.2
    rw [if_neg c6] at hx
    by_cases c7 : k = 7
    · rw [if_pos c7] at hx; exact seqs_txt hk a hx
    rw [if_neg c7] at hx
    by_cases c8 : k = 8
    · rw [if_pos c8] at hx; exact alts_txt hk a hx
    rw [if_neg c8] at hx
    by_cases c9 : k = 9
    · rw [if_pos c9] at hx
      have hf : ∀ a x, x ∈ first ks a → Txt x := fun a x q => first_txt hk q
      unfold reps at hx
      rcases List.mem_append.1 hx with hx | hx
      · obtain ⟨b, hb⟩ := times_of _ _ hx
        exact hf _ _ hb
      · split at hx
        · exact star_txt hf hx
        · exact maybe_txt hf _ _ hx
    rw [if_neg c9] at hx
    simp at hx
theorem prog_len {p : Piece} (hg : Good p) (hs : size p ≤ 4000) : (prog p).length = size p + 1 := by
  unfold prog
  rw [List.length_append, steps_len hg hs]; rfl
/-- the program of a piece that may be is one that may be -/
theorem prog_right {p : Piece} (h : gwhole p = true) (hs : size p ≤ 4000) : rightP (prog p) = true := by
  have hg := good_of h
  have hl := prog_len hg hs
  unfold rightP
  rw [hl, decide_eq_true (Nat.succ_pos _), Bool.and_true]
  refine List.all_eq_true.2 fun x hx => ?_
  unfold prog at hx
  rcases List.mem_append.1 hx with hx | hx
  · have hi := steps_in hg hs 0 x hx
    have ht := steps_txt p h 0 x hx
    unfold okI
    rw [show txtOk x.kind x.text = true from ht, Bool.true_and]
    obtain ⟨q1, q2, q3, q4, q5⟩ := hi
    unfold goes place
    by_cases c6 : x.kind = 6
    · have := q3 c6
      rw [if_pos c6]
      simp only [Bool.and_eq_true, decide_eq_true_eq]
      omega
    · have := q4 c6
      rw [if_neg c6, if_neg q5.2.2, if_pos ⟨q5.1, q5.2.1⟩]
      simp only [Bool.and_eq_true, decide_eq_true_eq]
      omega
  · rw [List.mem_singleton.1 hx]
    rfl
end Go.Proofs.YtmbibaccpeldoaaGreatDoor.M15
/-
  The law ProgCompiles of layer 15 (prog): it returns true whatever it is given. The conditions stand in the statements.
-/
namespace Go.Proofs.YtmbibaccpeldoaaGreatDoor.W15
set_option maxRecDepth 100000
open Go Go.RowKit Go.Proofs.YtmbibaccpeldoaaGreatDoor.Strs Go.Proofs.YtmbibaccpeldoaaGreatDoor.Recs Go.Proofs.YtmbibaccpeldoaaGreatDoor.M15
open Go.Proofs.YtmbibaccpeldoaaGreatDoor.M14 (Piece)
open Go.Proofs.YtmbibaccpeldoaaGreatDoor.W14 (Raw rawA rawC PAt PBox PLow box_arg load_piece)
open Go.Proofs.YtmbibaccpeldoaaGreatDoor.Kit (below_draws on)

section
variable {w : World} {r : Raw} {p : Piece}
theorem pcompile_ok (hb : (gwhole p && decide (gsize p ≤ 4000)) = true) (hs : Small p) (hl : PLow w r p) : Calls Tryz.prog 8 #[.agg (rawA r)] w (Gives w (prog p)) := by
  have hbb := hb
  rw [Bool.and_eq_true, decide_eq_true_eq] at hbb
  have hg := good_of hbb.1
  refine compile_ok (fun w1 l1 => ?_) hg (by rw [← gsize_eq hg]; exact hbb.2) hl
  have := pright_any hs (hl.below l1)
  rw [hb] at this
  exact this
theorem pcompile_bad (hb : (gwhole p && decide (gsize p ≤ 4000)) = false) (hs : Small p) (hl : PLow w r p) : Calls Tryz.prog 8 #[.agg (rawA r)] w (Fails w 2) := by
  refine compile_bad fun w1 l1 => ?_
  have := pright_any hs (hl.below l1)
  rw [hb] at this
  exact this
set_option maxHeartbeats 4000000 in
theorem progCompiles_ok (hb : (gwhole p && decide (gsize p ≤ 4000)) = true) (hs : Small p) (hl : PLow w r p) : Calls Tryz.prog 3 #[.agg (rawA r)] w (YesTo w) := by
  unfold YesTo
  have HV := Lib.hid lives_any
  unfold YesTo at HV
  have HM : Hid (∀ w, PLow w r p → Calls Tryz.prog 6 #[.agg (rawA r)] w (MTo w)) := fun w h => rmany_any p w r h
  have H1 : Hid (∀ w, PLow w r p → Calls Tryz.prog 8 #[.agg (rawA r)] w (Gives w (prog p))) := fun w h => pcompile_ok hb hs h
  have H2 : Hid (∀ w, PLow w r p → Calls Tryz.prog 9 #[.agg (rawA r)] w (Gives w (prog p))) := fun w h => rcompile_ok hb h
  have hz : Hid (∀ w, PLow w r p → Calls Tryz.prog 12 #[.agg (rawA r)] w (GTo w p)) := fun w h => rgsize_any p w r h
  unfold GTo at hz
  have HL := Lib.hid hl
  have hbb := hb
  rw [Bool.and_eq_true, decide_eq_true_eq] at hbb
  have hg := good_of hbb.1
  have hs4 : M14.size p ≤ 4000 := by rw [← gsize_eq hg]; exact hbb.2
  have hR := prog_right hbb.1 hs4
  have hN := prog_len hg hs4
  rw [← gsize_eq hg] at hN
  obtain ⟨P, hP⟩ : ∃ P, prog p = P := ⟨_, rfl⟩
  rw [hP] at H1 H2 hR hN
  have HRP := Lib.hid hR
  obtain ⟨n, hn⟩ : ∃ n, gsize p = n := ⟨_, rfl⟩
  rw [hn] at hz hN hbb
  obtain ⟨N, hNN⟩ : ∃ N, P.length = N := ⟨_, rfl⟩
  rw [hNN] at hN
  have HNN := Lib.hid hNN
  have te1 : ((N : Int) == (n : Int) + 1) = true := by simp; omega
  have te2 : ((N : Int) == wrap64 ((n : Int) + 1)) = true := by
    rw [show wrap64 ((n : Int) + 1) = (N : Int) by unfold wrap64; omega]; exact beq_self_eq_true _
  have TE := Lib.hid (show _ ∧ _ from ⟨te1, te2⟩)
  clear te1 te2 hb hs hl hbb hg hs4 hR hN hP hn hNN
  go_enter Tryz.func3, Tryz.ntmps3
  go_wp2_with (first
    | (refine box_arg (r := r) rfl (.tmp 0) rfl rfl ?_; intro w1 b1 e1 p1 l1 z1; have P1 := Lib.hid p1; have L1 := Lib.hid l1; clear e1 p1 l1 z1)
    | (refine load_piece (r := r) rfl (.tmp 1) rfl rfl P1.out ?_))
  refine (HM.out _ (HL.out.below L1.out)).mono ?_
  rintro e w2 ⟨m, rfl, l2⟩
  have P2 := Lib.hid (P1.out.below l2)
  have L2 := Lib.hid (on L1.out l2)
  clear l2
  by_cases tm : (2000 : Int) ≤ m
  · go_wp2_with fail
    refine (HV.out _).mono ?_
    rintro e w3 ⟨rfl, l3⟩
    have L3 := Lib.hid (on L2.out l3)
    clear l3
    go_wp2_with fail
    go_ret
    exact ⟨rfl, L3.out⟩
  · go_wp2_with (first | (refine load_piece (r := r) rfl (.tmp 1) rfl rfl P2.out ?_))
    clear tm
    refine (H1.out _ (HL.out.below L2.out)).mono ?_
    rintro e w3 ⟨v1, rfl, o3, l3⟩
    have R3 := Lib.hid (Recs.of_own insC_len rfl o3)
    have P3 := Lib.hid (P2.out.below l3)
    have L3 := Lib.hid (on L2.out l3)
    clear o3 l3
    go_wp2_with (first | (refine load_piece (r := r) rfl (.tmp 1) rfl rfl P3.out ?_))
    refine (H2.out _ (HL.out.below L3.out)).mono ?_
    rintro e w4 ⟨v2, rfl, o4, l4⟩
    have RR := Lib.hid (Recs.of_own insC_len rfl o4)
    have R4 := Lib.hid (Recs.more (R3.out.below l4) l4.size)
    have P4 := Lib.hid (P3.out.below l4)
    have L4 := Lib.hid (on L3.out l4)
    clear o4 l4
    go_wp2_with fail
    refine (same_any R4.out RR.out).mono ?_
    rintro e w5 ⟨rfl, l5⟩
    have R5 := Lib.hid (Recs.more (R4.out.below l5) l5.size)
    have P5 := Lib.hid (P4.out.below l5)
    have L5 := Lib.hid (on L4.out l5)
    clear l5
    obtain ⟨A, c, rfl, hc1, hc2⟩ := R5.out.form
    unfold maxLen at hc2
    rw [HNN.out] at *
    go_wp2_with fail
    refine (right_any R5.out (Nat.le_refl _)).mono ?_
    rintro e w6 ⟨rfl, l6⟩
    rw [HRP.out]
    have P6 := Lib.hid (P5.out.below l6)
    have L6 := Lib.hid (on L5.out l6)
    have a0 := P6.out.c0
    have a1 := P6.out.c1
    have a2 := P6.out.c2
    have a3 := P6.out.c3
    have a4 := P6.out.c4
    clear l6
    go_wp2_with fail
    refine (hz.out _ (HL.out.below L6.out)).mono ?_
    rintro e w7 ⟨rfl, l7⟩
    have L7 := Lib.hid (on L6.out l7)
    have te1 := TE.out.1
    have te2 := TE.out.2
    clear l7
    go_wp2_with fail
    refine (HV.out _).mono ?_
    rintro e w8 ⟨rfl, l8⟩
    have L8 := Lib.hid (on L7.out l8)
    clear l8
    go_wp2_with fail
    go_ret
    exact ⟨rfl, L8.out⟩
set_option maxHeartbeats 4000000 in
theorem progCompiles_bad (hb : (gwhole p && decide (gsize p ≤ 4000)) = false) (hs : Small p) (hl : PLow w r p) : Calls Tryz.prog 3 #[.agg (rawA r)] w (YesTo w) := by
  unfold YesTo
  have HV := Lib.hid lives_any
  unfold YesTo at HV
  have HM : Hid (∀ w, PLow w r p → Calls Tryz.prog 6 #[.agg (rawA r)] w (MTo w)) := fun w h => rmany_any p w r h
  have H1 : Hid (∀ w, PLow w r p → Calls Tryz.prog 8 #[.agg (rawA r)] w (Fails w 2)) := fun w h => pcompile_bad hb hs h
  have H2 : Hid (∀ w, PLow w r p → Calls Tryz.prog 9 #[.agg (rawA r)] w (Fails w 2)) := fun w h => rcompile_bad hb h
  have HL := Lib.hid hl
  clear hb hs hl
  go_enter Tryz.func3, Tryz.ntmps3
  go_wp2_with (first
    | (refine box_arg (r := r) rfl (.tmp 0) rfl rfl ?_; intro w1 b1 e1 p1 l1 z1; have P1 := Lib.hid p1; have L1 := Lib.hid l1; clear e1 p1 l1 z1)
    | (refine load_piece (r := r) rfl (.tmp 1) rfl rfl P1.out ?_))
  refine (HM.out _ (HL.out.below L1.out)).mono ?_
  rintro e w2 ⟨m, rfl, l2⟩
  have P2 := Lib.hid (P1.out.below l2)
  have L2 := Lib.hid (on L1.out l2)
  clear l2
  by_cases tm : (2000 : Int) ≤ m
  · go_wp2_with fail
    refine (HV.out _).mono ?_
    rintro e w3 ⟨rfl, l3⟩
    have L3 := Lib.hid (on L2.out l3)
    clear l3
    go_wp2_with fail
    go_ret
    exact ⟨rfl, L3.out⟩
  · go_wp2_with (first | (refine load_piece (r := r) rfl (.tmp 1) rfl rfl P2.out ?_))
    clear tm
    refine (H1.out _ (HL.out.below L2.out)).mono ?_
    rintro e w3 ⟨rfl, l3⟩
    have P3 := Lib.hid (P2.out.below l3)
    have L3 := Lib.hid (on L2.out l3)
    clear l3
    go_wp2_with (first | (refine load_piece (r := r) rfl (.tmp 1) rfl rfl P3.out ?_))
    refine (H2.out _ (HL.out.below L3.out)).mono ?_
    rintro e w4 ⟨rfl, l4⟩
    have L4 := Lib.hid (on L3.out l4)
    clear l4
    go_wp2_with fail
    refine (same_any (P := []) (recs_nil insC 4 0 w4) (recs_nil insC 4 0 w4)).mono ?_
    rintro e w5 ⟨rfl, l5⟩
    have L5 := Lib.hid (on L4.out l5)
    clear l5
    go_wp2_with fail
    refine (HV.out _).mono ?_
    rintro e w8 ⟨rfl, l8⟩
    have L8 := Lib.hid (on L5.out l8)
    clear l8
    go_wp2_with fail
    go_ret
    exact ⟨rfl, L8.out⟩
theorem progCompiles_law {w : World} (r : Raw) (p : Piece) (hl : PLow w r p) (hs : Small p) : Calls Tryz.prog 3 #[.agg (rawA r)] w (YesTo w) := by
  cases hb : (gwhole p && decide (gsize p ≤ 4000)) with
  | true => exact progCompiles_ok hb hs hl
  | false => exact progCompiles_bad hb hs hl
end
end Go.Proofs.YtmbibaccpeldoaaGreatDoor.W15
