/-
  Texts joined, in build order, each with its own comment and its own conditions: W14Atom, W14Part, W14Row.
-/
import Derived.Test.YtehdnbidgphecaaGreatDoorJ09
import Derived.Deep.LoopGhost
/-
  Layer 14 (pattern), walk of the program's atom. The conditions stand in the statements.
-/
namespace Go.Proofs.YtehdnbidgphecaaGreatDoor.W14
set_option maxRecDepth 100000
open Go Go.RowKit Go.Proofs.YtehdnbidgphecaaGreatDoor.M14
open Go.Proofs.YtehdnbidgphecaaGreatDoor.Row256 (Beside)
open Go.Proofs.YtehdnbidgphecaaGreatDoor.Kit (ret_str ret_bool ret_int mk_of mk_bytes ba_ext below_draws on list_full list_ne list_none list_nil)

theorem reads_form {b : Nat} {s : ByteArray} {deep : Nat} {w w' : World} {g : Got} {e : Ending} (h : Reads b s deep w g e w') : ∃ r er, e = .returned (.tuple #[.agg (rawA r), .int .i64 er]) := by
  match g, h with
  | .ok p to, h => obtain ⟨_, r, e, _⟩ := h; exact ⟨r, 0, e⟩
  | .bad q er, h => obtain ⟨_, _, e, _⟩ := h; exact ⟨zeroR, er, e⟩
/-- what was read, told in a box of the caller's -/
theorem reads_more {b c : Nat} {s : ByteArray} {deep : Nat} {w w1 w' w'' : World} {g : Got} {e : Ending} (h : Reads b s deep w1 g e w') (l : Below w.heap.size w w1) (k : Beside c w' w'') (h1 : w.heap.size ≤ c) (h2 : c < w1.heap.size) (hb : b ≠ c) : Reads b s deep w g e w'' := by
  refine ⟨beside_fresh ((Beside.of l).trans h.1) k h1, ?_⟩
  match g, h with
  | .ok p to, h =>
    obtain ⟨_, r, e, hr, hp⟩ := h
    exact ⟨r, e, hr.beside k hb, (hp.by_beside k h2).by_less l.size⟩
  | .bad q er, h =>
    obtain ⟨_, he, e, d, hr⟩ := h
    exact ⟨he, e, d, hr.beside k hb⟩
/-- an atom that begins at a place: what the text of R says -/
def AtomOk (R : Nat → Nat → Option Got) (s : ByteArray) (at_ deep : Nat) : Prop :=
  ∃ g, atom R s.data.toList at_ deep = some g ∧ Fine s.data.toList (at_ + 1) g ∧ ∀ w b, Reader w b s at_ deep → Calls Tryz.prog 96 #[.pointer (some ⟨b, 0, none⟩)] w (Reads b s deep w g)
section
variable {w : World} {b : Nat} {s : ByteArray} {at_ deep : Nat}
set_option maxHeartbeats 1000000 in
theorem atom_brackets (h : Reader w b s at_ deep) (hat : at_ < s.size) (hs : s.size ≤ 900) (h40 : s[at_] = 40) {g : Got}
    (hC : ∀ w b, Reader w b s at_ deep → Calls Tryz.prog 111 #[.pointer (some ⟨b, 0, none⟩)] w (Reads b s deep w g)) :
    Calls Tryz.prog 96 #[.pointer (some ⟨b, 0, none⟩)] w (Reads b s deep w g) := by
  have hlt := h.lt
  have H := Lib.hid h
  have h1 : (at_ : Int) ≤ (s.size : Int) := by omega
  have hz : (s.extract at_ s.size).size = s.size - at_ := by rw [ByteArray.size_extract]; omega
  have hz0 : 0 < (s.extract at_ s.size).size := by omega
  have hz1 : (1 : Int) ≤ ((s.extract at_ s.size).size : Int) := by omega
  have hz2 : (0 : Int) < ((s.extract at_ s.size).size : Int) := by omega
  have hcc : (s.extract at_ s.size)[0] = s[at_] := by
    have := Kit.byte_get (s.extract at_ s.size) 0 hz0
    rw [Kit.drop_bytes, Kit.drop_next s at_ hat] at this
    exact this.symm
  have hw1 : wrap64 ((at_ : Int) + 1) = ((at_ + 1 : Nat) : Int) := by unfold wrap64; omega
  have t40 : (((s.extract at_ s.size)[0].toNat : Int) == 40) = true := by rw [hcc]; exact u8y h40
  have HC := Lib.hid hC
  clear hC hcc hw1 h40
  clear h
  go_enter Tryz.func96, Tryz.ntmps96
  go_wp2_with (first | (refine alloc_piece rfl rfl ?_; intro w1 b1 e1 p1 l1 z1))
  have H1 := Lib.hid (H.out.below l1)
  have P1 := Lib.hid p1
  have L1 := Lib.hid l1
  have c0 := H1.out.c0
  have c1 := H1.out.c1
  clear p1 l1
  go_quiet (fail)
  have P2 : Hid (PBox (w1.drewN nq) b1 zeroR) := P1
  have H2 : Hid (Reader (w1.drewN nq) b s at_ deep) := H1
  have L2 := Lib.hid (L1.out.trans ((below_draws w1 nq).mono L1.out.size))
  have hzz : w1.heap.size ≤ (w1.drewN nq).heap.size := Nat.le_refl _
  have d1 := H2.out.c1
  have f1 := H2.out.free 1
  have hne : b1 ≠ b := by omega
  generalize w1.drewN nq = w2 at *
  go_wp2_with fail
  refine (HC.out _ _ H2.out).mono ?_
  rintro e w3 hr
  obtain ⟨r, er, rfl⟩ := reads_form hr
  have R3 := Lib.hid hr
  have P3 := Lib.hid (P2.out.beside hr.1 hne)
  clear hr
  go_wp2_with (first | (refine store_piece (r := r) rfl (.tmp 2) (.tmp 20) rfl rfl rfl P3.out ?_; intro w4 p4 l4 z4))
  refine end_piece2 rfl rfl p4 rfl ?_
  exact reads_more R3.out L2.out l4 (by omega) (by omega) hne.symm
set_option maxHeartbeats 1000000 in
theorem atom_set (h : Reader w b s at_ deep) (hat : at_ < s.size) (hs : s.size ≤ 900) (h40 : ¬ s[at_] = 40) (h91 : s[at_] = 91) {g : Got}
    (hC : ∀ w b, Reader w b s at_ deep → Calls Tryz.prog 112 #[.pointer (some ⟨b, 0, none⟩)] w (Reads b s deep w g)) :
    Calls Tryz.prog 96 #[.pointer (some ⟨b, 0, none⟩)] w (Reads b s deep w g) := by
  have hlt := h.lt
  have H := Lib.hid h
  have h1 : (at_ : Int) ≤ (s.size : Int) := by omega
  have hz : (s.extract at_ s.size).size = s.size - at_ := by rw [ByteArray.size_extract]; omega
  have hz0 : 0 < (s.extract at_ s.size).size := by omega
  have hz1 : (1 : Int) ≤ ((s.extract at_ s.size).size : Int) := by omega
  have hz2 : (0 : Int) < ((s.extract at_ s.size).size : Int) := by omega
  have hcc : (s.extract at_ s.size)[0] = s[at_] := by
    have := Kit.byte_get (s.extract at_ s.size) 0 hz0
    rw [Kit.drop_bytes, Kit.drop_next s at_ hat] at this
    exact this.symm
  have hw1 : wrap64 ((at_ : Int) + 1) = ((at_ + 1 : Nat) : Int) := by unfold wrap64; omega
  have t40 : (((s.extract at_ s.size)[0].toNat : Int) == 40) = false := by rw [hcc]; exact u8n h40
  have t91 : (((s.extract at_ s.size)[0].toNat : Int) == 91) = true := by rw [hcc]; exact u8y h91
  have HC := Lib.hid hC
  clear hC hcc hw1 h40 h91
  clear h
  go_enter Tryz.func96, Tryz.ntmps96
  go_wp2_with (first | (refine alloc_piece rfl rfl ?_; intro w1 b1 e1 p1 l1 z1))
  have H1 := Lib.hid (H.out.below l1)
  have P1 := Lib.hid p1
  have L1 := Lib.hid l1
  have c0 := H1.out.c0
  have c1 := H1.out.c1
  clear p1 l1
  go_quiet (fail)
  have P2 : Hid (PBox (w1.drewN nq) b1 zeroR) := P1
  have H2 : Hid (Reader (w1.drewN nq) b s at_ deep) := H1
  have L2 := Lib.hid (L1.out.trans ((below_draws w1 nq).mono L1.out.size))
  have hzz : w1.heap.size ≤ (w1.drewN nq).heap.size := Nat.le_refl _
  have d1 := H2.out.c1
  have f1 := H2.out.free 1
  have hne : b1 ≠ b := by omega
  generalize w1.drewN nq = w2 at *
  go_wp2_with fail
  refine (HC.out _ _ H2.out).mono ?_
  rintro e w3 hr
  obtain ⟨r, er, rfl⟩ := reads_form hr
  have R3 := Lib.hid hr
  have P3 := Lib.hid (P2.out.beside hr.1 hne)
  clear hr
  go_wp2_with (first | (refine store_piece (r := r) rfl (.tmp 2) (.tmp 26) rfl rfl rfl P3.out ?_; intro w4 p4 l4 z4))
  refine end_piece2 rfl rfl p4 rfl ?_
  exact reads_more R3.out L2.out l4 (by omega) (by omega) hne.symm
set_option maxHeartbeats 1000000 in
theorem atom_escaped (h : Reader w b s at_ deep) (hat : at_ < s.size) (hs : s.size ≤ 900) (h40 : ¬ s[at_] = 40) (h91 : ¬ s[at_] = 91) (h92 : s[at_] = 92) {g : Got}
    (hC : ∀ w b, Reader w b s at_ deep → Calls Tryz.prog 113 #[.pointer (some ⟨b, 0, none⟩)] w (Reads b s deep w g)) :
    Calls Tryz.prog 96 #[.pointer (some ⟨b, 0, none⟩)] w (Reads b s deep w g) := by
  have hlt := h.lt
  have H := Lib.hid h
  have h1 : (at_ : Int) ≤ (s.size : Int) := by omega
  have hz : (s.extract at_ s.size).size = s.size - at_ := by rw [ByteArray.size_extract]; omega
  have hz0 : 0 < (s.extract at_ s.size).size := by omega
  have hz1 : (1 : Int) ≤ ((s.extract at_ s.size).size : Int) := by omega
  have hz2 : (0 : Int) < ((s.extract at_ s.size).size : Int) := by omega
  have hcc : (s.extract at_ s.size)[0] = s[at_] := by
    have := Kit.byte_get (s.extract at_ s.size) 0 hz0
    rw [Kit.drop_bytes, Kit.drop_next s at_ hat] at this
    exact this.symm
  have hw1 : wrap64 ((at_ : Int) + 1) = ((at_ + 1 : Nat) : Int) := by unfold wrap64; omega
  have t40 : (((s.extract at_ s.size)[0].toNat : Int) == 40) = false := by rw [hcc]; exact u8n h40
  have t91 : (((s.extract at_ s.size)[0].toNat : Int) == 91) = false := by rw [hcc]; exact u8n h91
  have t92 : (((s.extract at_ s.size)[0].toNat : Int) == 92) = true := by rw [hcc]; exact u8y h92
  have HC := Lib.hid hC
  clear hC hcc hw1 h40 h91 h92
  clear h
  go_enter Tryz.func96, Tryz.ntmps96
  go_wp2_with (first | (refine alloc_piece rfl rfl ?_; intro w1 b1 e1 p1 l1 z1))
  have H1 := Lib.hid (H.out.below l1)
  have P1 := Lib.hid p1
  have L1 := Lib.hid l1
  have c0 := H1.out.c0
  have c1 := H1.out.c1
  clear p1 l1
  go_quiet (fail)
  have P2 : Hid (PBox (w1.drewN nq) b1 zeroR) := P1
  have H2 : Hid (Reader (w1.drewN nq) b s at_ deep) := H1
  have L2 := Lib.hid (L1.out.trans ((below_draws w1 nq).mono L1.out.size))
  have hzz : w1.heap.size ≤ (w1.drewN nq).heap.size := Nat.le_refl _
  have d1 := H2.out.c1
  have f1 := H2.out.free 1
  have hne : b1 ≠ b := by omega
  generalize w1.drewN nq = w2 at *
  go_wp2_with fail
  refine (HC.out _ _ H2.out).mono ?_
  rintro e w3 hr
  obtain ⟨r, er, rfl⟩ := reads_form hr
  have R3 := Lib.hid hr
  have P3 := Lib.hid (P2.out.beside hr.1 hne)
  clear hr
  go_wp2_with (first | (refine store_piece (r := r) rfl (.tmp 2) (.tmp 32) rfl rfl rfl P3.out ?_; intro w4 p4 l4 z4))
  refine end_piece2 rfl rfl p4 rfl ?_
  exact reads_more R3.out L2.out l4 (by omega) (by omega) hne.symm
set_option maxHeartbeats 1000000 in
theorem atom_point (h : Reader w b s at_ deep) (hat : at_ < s.size) (hs : s.size ≤ 900) (h40 : ¬ s[at_] = 40) (h91 : ¬ s[at_] = 91) (h92 : ¬ s[at_] = 92) (h46 : s[at_] = 46) :
    Calls Tryz.prog 96 #[.pointer (some ⟨b, 0, none⟩)] w (Reads b s deep w (.ok (leaf 3 ⟨#[]⟩) (at_ + 1))) := by
  have hlt := h.lt
  have H := Lib.hid h
  have h1 : (at_ : Int) ≤ (s.size : Int) := by omega
  have hz : (s.extract at_ s.size).size = s.size - at_ := by rw [ByteArray.size_extract]; omega
  have hz0 : 0 < (s.extract at_ s.size).size := by omega
  have hz1 : (1 : Int) ≤ ((s.extract at_ s.size).size : Int) := by omega
  have hz2 : (0 : Int) < ((s.extract at_ s.size).size : Int) := by omega
  have hcc : (s.extract at_ s.size)[0] = s[at_] := by
    have := Kit.byte_get (s.extract at_ s.size) 0 hz0
    rw [Kit.drop_bytes, Kit.drop_next s at_ hat] at this
    exact this.symm
  have hw1 : wrap64 ((at_ : Int) + 1) = ((at_ + 1 : Nat) : Int) := by unfold wrap64; omega
  have t40 : (((s.extract at_ s.size)[0].toNat : Int) == 40) = false := by rw [hcc]; exact u8n h40
  have t91 : (((s.extract at_ s.size)[0].toNat : Int) == 91) = false := by rw [hcc]; exact u8n h91
  have t92 : (((s.extract at_ s.size)[0].toNat : Int) == 92) = false := by rw [hcc]; exact u8n h92
  have t46 : (((s.extract at_ s.size)[0].toNat : Int) == 46) = true := by rw [hcc]; exact u8y h46
  clear hcc h40 h91 h92 h46
  clear h
  go_enter Tryz.func96, Tryz.ntmps96
  go_wp2_with (first | (refine alloc_piece rfl rfl ?_; intro w1 b1 e1 p1 l1 z1))
  have H1 := Lib.hid (H.out.below l1)
  have P1 := Lib.hid p1
  have L1 := Lib.hid l1
  have c0 := H1.out.c0
  have c1 := H1.out.c1
  clear p1 l1
  go_quiet (fail)
  have P2 : Hid (PBox (w1.drewN nq) b1 zeroR) := P1
  have H2 : Hid (Reader (w1.drewN nq) b s at_ deep) := H1
  have L2 := Lib.hid (L1.out.trans ((below_draws w1 nq).mono L1.out.size))
  have hzz : w1.heap.size ≤ (w1.drewN nq).heap.size := Nat.le_refl _
  have d1 := H2.out.c1
  have f1 := H2.out.free 1
  have hne : b1 ≠ b := by omega
  generalize w1.drewN nq = w2 at *
  go_wp2_with (first | (refine store_piece (r := ⟨3, ⟨#[]⟩, none, 0, 0, 0, 0⟩) rfl (.tmp 2) (.tmp 45) rfl rfl rfl (PBox.beside P2.out (beside_put _ _ _ _) hne) ?_; intro w4 p4 l4 z4))
  refine end_piece2 rfl rfl p4 rfl ?_
  have B := beside_fresh ((Beside.of (b := b) L2.out).trans (beside_put w2 b 1 (.int .i64 ((at_ + 1 : Nat) : Int)))) l4 (by omega)
  exact ⟨B, _, rfl, (H2.out.put1 (at_ + 1)).beside l4 hne.symm, PAt.leaf _ _ 3 _⟩
set_option maxHeartbeats 1000000 in
theorem atom_begin (h : Reader w b s at_ deep) (hat : at_ < s.size) (hs : s.size ≤ 900) (h40 : ¬ s[at_] = 40) (h91 : ¬ s[at_] = 91) (h92 : ¬ s[at_] = 92) (h46 : ¬ s[at_] = 46) (h94 : s[at_] = 94) :
    Calls Tryz.prog 96 #[.pointer (some ⟨b, 0, none⟩)] w (Reads b s deep w (.ok (leaf 5 ⟨#[]⟩) (at_ + 1))) := by
  have hlt := h.lt
  have H := Lib.hid h
  have h1 : (at_ : Int) ≤ (s.size : Int) := by omega
  have hz : (s.extract at_ s.size).size = s.size - at_ := by rw [ByteArray.size_extract]; omega
  have hz0 : 0 < (s.extract at_ s.size).size := by omega
  have hz1 : (1 : Int) ≤ ((s.extract at_ s.size).size : Int) := by omega
  have hz2 : (0 : Int) < ((s.extract at_ s.size).size : Int) := by omega
  have hcc : (s.extract at_ s.size)[0] = s[at_] := by
    have := Kit.byte_get (s.extract at_ s.size) 0 hz0
    rw [Kit.drop_bytes, Kit.drop_next s at_ hat] at this
    exact this.symm
  have hw1 : wrap64 ((at_ : Int) + 1) = ((at_ + 1 : Nat) : Int) := by unfold wrap64; omega
  have t40 : (((s.extract at_ s.size)[0].toNat : Int) == 40) = false := by rw [hcc]; exact u8n h40
  have t91 : (((s.extract at_ s.size)[0].toNat : Int) == 91) = false := by rw [hcc]; exact u8n h91
  have t92 : (((s.extract at_ s.size)[0].toNat : Int) == 92) = false := by rw [hcc]; exact u8n h92
  have t46 : (((s.extract at_ s.size)[0].toNat : Int) == 46) = false := by rw [hcc]; exact u8n h46
  have t94 : (((s.extract at_ s.size)[0].toNat : Int) == 94) = true := by rw [hcc]; exact u8y h94
  clear hcc h40 h91 h92 h46 h94
  clear h
  go_enter Tryz.func96, Tryz.ntmps96
  go_wp2_with (first | (refine alloc_piece rfl rfl ?_; intro w1 b1 e1 p1 l1 z1))
  have H1 := Lib.hid (H.out.below l1)
  have P1 := Lib.hid p1
  have L1 := Lib.hid l1
  have c0 := H1.out.c0
  have c1 := H1.out.c1
  clear p1 l1
  go_quiet (fail)
  have P2 : Hid (PBox (w1.drewN nq) b1 zeroR) := P1
  have H2 : Hid (Reader (w1.drewN nq) b s at_ deep) := H1
  have L2 := Lib.hid (L1.out.trans ((below_draws w1 nq).mono L1.out.size))
  have hzz : w1.heap.size ≤ (w1.drewN nq).heap.size := Nat.le_refl _
  have d1 := H2.out.c1
  have f1 := H2.out.free 1
  have hne : b1 ≠ b := by omega
  generalize w1.drewN nq = w2 at *
  go_wp2_with (first | (refine store_piece (r := ⟨5, ⟨#[]⟩, none, 0, 0, 0, 0⟩) rfl (.tmp 2) (.tmp 48) rfl rfl rfl (PBox.beside P2.out (beside_put _ _ _ _) hne) ?_; intro w4 p4 l4 z4))
  refine end_piece2 rfl rfl p4 rfl ?_
  have B := beside_fresh ((Beside.of (b := b) L2.out).trans (beside_put w2 b 1 (.int .i64 ((at_ + 1 : Nat) : Int)))) l4 (by omega)
  exact ⟨B, _, rfl, (H2.out.put1 (at_ + 1)).beside l4 hne.symm, PAt.leaf _ _ 5 _⟩
set_option maxHeartbeats 1000000 in
theorem atom_end (h : Reader w b s at_ deep) (hat : at_ < s.size) (hs : s.size ≤ 900) (h40 : ¬ s[at_] = 40) (h91 : ¬ s[at_] = 91) (h92 : ¬ s[at_] = 92) (h46 : ¬ s[at_] = 46) (h94 : ¬ s[at_] = 94) (h36 : s[at_] = 36) :
    Calls Tryz.prog 96 #[.pointer (some ⟨b, 0, none⟩)] w (Reads b s deep w (.ok (leaf 6 ⟨#[]⟩) (at_ + 1))) := by
  have hlt := h.lt
  have H := Lib.hid h
  have h1 : (at_ : Int) ≤ (s.size : Int) := by omega
  have hz : (s.extract at_ s.size).size = s.size - at_ := by rw [ByteArray.size_extract]; omega
  have hz0 : 0 < (s.extract at_ s.size).size := by omega
  have hz1 : (1 : Int) ≤ ((s.extract at_ s.size).size : Int) := by omega
  have hz2 : (0 : Int) < ((s.extract at_ s.size).size : Int) := by omega
  have hcc : (s.extract at_ s.size)[0] = s[at_] := by
    have := Kit.byte_get (s.extract at_ s.size) 0 hz0
    rw [Kit.drop_bytes, Kit.drop_next s at_ hat] at this
    exact this.symm
  have hw1 : wrap64 ((at_ : Int) + 1) = ((at_ + 1 : Nat) : Int) := by unfold wrap64; omega
  have t40 : (((s.extract at_ s.size)[0].toNat : Int) == 40) = false := by rw [hcc]; exact u8n h40
  have t91 : (((s.extract at_ s.size)[0].toNat : Int) == 91) = false := by rw [hcc]; exact u8n h91
  have t92 : (((s.extract at_ s.size)[0].toNat : Int) == 92) = false := by rw [hcc]; exact u8n h92
  have t46 : (((s.extract at_ s.size)[0].toNat : Int) == 46) = false := by rw [hcc]; exact u8n h46
  have t94 : (((s.extract at_ s.size)[0].toNat : Int) == 94) = false := by rw [hcc]; exact u8n h94
  have t36 : (((s.extract at_ s.size)[0].toNat : Int) == 36) = true := by rw [hcc]; exact u8y h36
  clear hcc h40 h91 h92 h46 h94 h36
  clear h
  go_enter Tryz.func96, Tryz.ntmps96
  go_wp2_with (first | (refine alloc_piece rfl rfl ?_; intro w1 b1 e1 p1 l1 z1))
  have H1 := Lib.hid (H.out.below l1)
  have P1 := Lib.hid p1
  have L1 := Lib.hid l1
  have c0 := H1.out.c0
  have c1 := H1.out.c1
  clear p1 l1
  go_quiet (fail)
  have P2 : Hid (PBox (w1.drewN nq) b1 zeroR) := P1
  have H2 : Hid (Reader (w1.drewN nq) b s at_ deep) := H1
  have L2 := Lib.hid (L1.out.trans ((below_draws w1 nq).mono L1.out.size))
  have hzz : w1.heap.size ≤ (w1.drewN nq).heap.size := Nat.le_refl _
  have d1 := H2.out.c1
  have f1 := H2.out.free 1
  have hne : b1 ≠ b := by omega
  generalize w1.drewN nq = w2 at *
  go_wp2_with (first | (refine store_piece (r := ⟨6, ⟨#[]⟩, none, 0, 0, 0, 0⟩) rfl (.tmp 2) (.tmp 51) rfl rfl rfl (PBox.beside P2.out (beside_put _ _ _ _) hne) ?_; intro w4 p4 l4 z4))
  refine end_piece2 rfl rfl p4 rfl ?_
  have B := beside_fresh ((Beside.of (b := b) L2.out).trans (beside_put w2 b 1 (.int .i64 ((at_ + 1 : Nat) : Int)))) l4 (by omega)
  exact ⟨B, _, rfl, (H2.out.put1 (at_ + 1)).beside l4 hne.symm, PAt.leaf _ _ 6 _⟩
set_option maxHeartbeats 1000000 in
theorem atom_char (h : Reader w b s at_ deep) (hat : at_ < s.size) (hs : s.size ≤ 900) (h40 : ¬ s[at_] = 40) (h91 : ¬ s[at_] = 91) (h92 : ¬ s[at_] = 92) (h46 : ¬ s[at_] = 46) (h94 : ¬ s[at_] = 94) (h36 : ¬ s[at_] = 36) :
    Calls Tryz.prog 96 #[.pointer (some ⟨b, 0, none⟩)] w (Reads b s deep w (.ok (leaf 2 (chr s[at_])) (at_ + 1))) := by
  have hlt := h.lt
  have H := Lib.hid h
  have h1 : (at_ : Int) ≤ (s.size : Int) := by omega
  have hz : (s.extract at_ s.size).size = s.size - at_ := by rw [ByteArray.size_extract]; omega
  have hz0 : 0 < (s.extract at_ s.size).size := by omega
  have hz1 : (1 : Int) ≤ ((s.extract at_ s.size).size : Int) := by omega
  have hz2 : (0 : Int) < ((s.extract at_ s.size).size : Int) := by omega
  have hcc : (s.extract at_ s.size)[0] = s[at_] := by
    have := Kit.byte_get (s.extract at_ s.size) 0 hz0
    rw [Kit.drop_bytes, Kit.drop_next s at_ hat] at this
    exact this.symm
  have hw1 : wrap64 ((at_ : Int) + 1) = ((at_ + 1 : Nat) : Int) := by unfold wrap64; omega
  have t40 : (((s.extract at_ s.size)[0].toNat : Int) == 40) = false := by rw [hcc]; exact u8n h40
  have t91 : (((s.extract at_ s.size)[0].toNat : Int) == 91) = false := by rw [hcc]; exact u8n h91
  have t92 : (((s.extract at_ s.size)[0].toNat : Int) == 92) = false := by rw [hcc]; exact u8n h92
  have t46 : (((s.extract at_ s.size)[0].toNat : Int) == 46) = false := by rw [hcc]; exact u8n h46
  have t94 : (((s.extract at_ s.size)[0].toNat : Int) == 94) = false := by rw [hcc]; exact u8n h94
  have t36 : (((s.extract at_ s.size)[0].toNat : Int) == 36) = false := by rw [hcc]; exact u8n h36
  have HCH := Lib.hid (chr_at hat)
  clear hcc h40 h91 h92 h46 h94 h36
  clear h
  go_enter Tryz.func96, Tryz.ntmps96
  go_wp2_with (first | (refine alloc_piece rfl rfl ?_; intro w1 b1 e1 p1 l1 z1))
  have H1 := Lib.hid (H.out.below l1)
  have P1 := Lib.hid p1
  have L1 := Lib.hid l1
  have c0 := H1.out.c0
  have c1 := H1.out.c1
  clear p1 l1
  go_quiet (fail)
  have P2 : Hid (PBox (w1.drewN nq) b1 zeroR) := P1
  have H2 : Hid (Reader (w1.drewN nq) b s at_ deep) := H1
  have L2 := Lib.hid (L1.out.trans ((below_draws w1 nq).mono L1.out.size))
  have hzz : w1.heap.size ≤ (w1.drewN nq).heap.size := Nat.le_refl _
  have d1 := H2.out.c1
  have f1 := H2.out.free 1
  have hne : b1 ≠ b := by omega
  generalize w1.drewN nq = w2 at *
  go_wp2_with (first | (refine store_piece (r := ⟨2, (s.extract at_ s.size).extract 0 1, none, 0, 0, 0, 0⟩) rfl (.tmp 2) (.tmp 54) rfl rfl rfl (PBox.beside P2.out (beside_put _ _ _ _) hne) ?_; intro w4 p4 l4 z4))
  refine end_piece2 rfl rfl p4 rfl ?_
  have B := beside_fresh ((Beside.of (b := b) L2.out).trans (beside_put w2 b 1 (.int .i64 ((at_ + 1 : Nat) : Int)))) l4 (by omega)
  rw [HCH.out]
  exact ⟨B, _, rfl, (H2.out.put1 (at_ + 1)).beside l4 hne.symm, PAt.leaf _ _ 2 _⟩
theorem atom_is40 {R : Nat → Nat → Option Got} {S : List UInt8} (h : S.getD at_ 0 = 40) (hR : deep ≠ 64 → ∃ g, R (at_ + 1) (deep + 1) = some g) : atom R S at_ deep = some (bracketsR R S at_ deep) := by
  unfold atom bracketsR
  rw [if_pos h]
  by_cases h64 : deep = 64
  · rw [if_pos h64, if_pos h64]
  · rw [if_neg h64, if_neg h64]
    obtain ⟨g, e⟩ := hR h64
    rw [e]
    cases g with
    | bad q er => rfl
    | ok p to =>
      simp only
      by_cases ht : to = S.length
      · rw [if_pos ht, if_pos ht]
      · rw [if_neg ht, if_neg ht]
theorem atom_is91 {R : Nat → Nat → Option Got} {S : List UInt8} (h : S.getD at_ 0 = 91) : atom R S at_ deep = some (if (M13.parse (S.drop at_)).2.2 ≠ 0 then .bad at_ (M13.parse (S.drop at_)).2.2 else .ok (leaf 4 (txt (M13.parse (S.drop at_)).1)) (at_ + (M13.parse (S.drop at_)).2.1)) := by
  unfold atom
  rw [if_neg (by rw [h]; decide), if_pos h]
  split <;> rfl
theorem atom_is92 {R : Nat → Nat → Option Got} {S : List UInt8} (h : S.getD at_ 0 = 92) : atom R S at_ deep = some (escapedR S at_) := by
  unfold atom escapedR
  rw [h, if_neg (by decide), if_neg (by decide), if_neg (by decide), if_neg (by decide), if_neg (by decide), if_neg (by decide), if_neg (by decide)]
  split
  · rfl
  · split <;> rfl
theorem atom_any {R : Nat → Nat → Option Got} (hR : PatOk s R (at_ + 1)) (hat : at_ < s.size) (hs : s.size ≤ 900) (hd : deep ≤ 64) (h42 : ¬ s[at_] = 42) (h43 : ¬ s[at_] = 43) (h63 : ¬ s[at_] = 63) (h123 : ¬ s[at_] = 123) : AtomOk R s at_ deep := by
  have hlen : s.data.toList.length = s.size := (Lib.size_eq s).symm
  have hc : s.data.toList.getD at_ 0 = s[at_] := Kit.byte_get s at_ hat
  have hg : deep ≠ 64 → at_ + 1 ≤ s.data.toList.length → ∃ g, R (at_ + 1) (deep + 1) = some g ∧ Fine s.data.toList (at_ + 1) g := fun h q => by
    obtain ⟨g, e, hf, -⟩ := hR (at_ + 1) (deep + 1) (Nat.le_refl _) (by omega) (by omega)
    exact ⟨g, e, hf⟩
  obtain ⟨g, e, hf⟩ := atom_fine (R := R) (deep := deep) (S := s.data.toList) (at_ := at_) (by omega) hg
  refine ⟨g, e, hf, fun w b h => ?_⟩
  by_cases h40 : s[at_] = 40
  · rw [atom_is40 (by rw [hc]; exact h40) (fun q => by obtain ⟨g, e, -⟩ := hg q (by omega); exact ⟨g, e⟩)] at e
    injection e with e
    subst e
    exact atom_brackets h hat hs h40 fun w b h => brackets_any hR hat hs hd h
  · by_cases h91 : s[at_] = 91
    · rw [atom_is91 (by rw [hc]; exact h91)] at e
      injection e with e
      subst e
      exact atom_set h hat hs h40 h91 fun w b h => set_any h hat hs
    · by_cases h92 : s[at_] = 92
      · rw [atom_is92 (by rw [hc]; exact h92)] at e
        injection e with e
        subst e
        exact atom_escaped h hat hs h40 h91 h92 fun w b h => escaped_any h hat hs
      · unfold atom at e
        rw [hc, if_neg h40, if_neg h91] at e
        by_cases h46 : s[at_] = 46
        · rw [if_pos h46] at e
          injection e with e
          subst e
          exact atom_point h hat hs h40 h91 h92 h46
        · rw [if_neg h46] at e
          by_cases h94 : s[at_] = 94
          · rw [if_pos h94] at e
            injection e with e
            subst e
            exact atom_begin h hat hs h40 h91 h92 h46 h94
          · rw [if_neg h94] at e
            by_cases h36 : s[at_] = 36
            · rw [if_pos h36] at e
              injection e with e
              subst e
              exact atom_end h hat hs h40 h91 h92 h46 h94 h36
            · rw [if_neg h36, if_neg (by rintro (q | q | q | q) <;> contradiction), if_pos h92] at e
              injection e with e
              subst e
              exact atom_char h hat hs h40 h91 h92 h46 h94 h36
end
end Go.Proofs.YtehdnbidgphecaaGreatDoor.W14
/-
  Layer 14 (pattern), walk of the program's part. The conditions stand in the statements.
-/
namespace Go.Proofs.YtehdnbidgphecaaGreatDoor.W14
set_option maxRecDepth 100000
open Go Go.RowKit Go.Proofs.YtehdnbidgphecaaGreatDoor.Recs Go.Proofs.YtehdnbidgphecaaGreatDoor.M14
open Go.Proofs.YtehdnbidgphecaaGreatDoor.Row256 (Beside)
open Go.Proofs.YtehdnbidgphecaaGreatDoor.Kit (ret_str ret_bool ret_int mk_of mk_bytes ba_ext below_draws on list_full list_ne list_none list_nil)

section
variable {w : World} {b : Nat} {s : ByteArray} {at_ deep : Nat}
set_option maxHeartbeats 1000000 in
theorem part_bad (h : Reader w b s at_ deep) {q : Nat} {er : Int}
    (hC : ∀ w b, Reader w b s at_ deep → Calls Tryz.prog 96 #[.pointer (some ⟨b, 0, none⟩)] w (Reads b s deep w (.bad q er))) :
    Calls Tryz.prog 76 #[.pointer (some ⟨b, 0, none⟩)] w (Reads b s deep w (.bad q er)) := by
  have hlt := h.lt
  have H := Lib.hid h
  have HC := Lib.hid hC
  clear h hC
  go_enter Tryz.func76, Tryz.ntmps76
  go_wp2_with (first | (refine alloc_piece rfl rfl ?_; intro w1 b1 e1 p1 l1 z1))
  have hne : b1 ≠ b := by omega
  refine (HC.out _ _ (H.out.below l1)).mono ?_
  rintro e w2 ⟨b4, he, rfl, d, hr⟩
  have B2 := Lib.hid b4
  have P2 := Lib.hid (PBox.beside p1 B2.out hne)
  have H2 := Lib.hid hr
  have te : (er != 0) = true := by simpa using he
  have HE := Lib.hid he
  have hz := B2.out.size
  clear b4 hr he
  go_wp2_with (first
    | (refine alloc_piece rfl rfl ?_; intro w5 b2 e5 p5 l5 z5)
    | (refine store_piece (r := zeroR) rfl (.tmp 4) (.tmp 12) rfl rfl rfl p5 ?_; intro w6 p6 l6 z6; have L6 := Lib.hid (two_new l5 l6 e5); have P6 := Lib.hid (P2.out.below L6.out))
    | (refine store_piece (r := zeroR) rfl (.tmp 2) (.tmp 16) rfl rfl rfl P6.out ?_; intro w7 p7 l7 z7))
  refine end_piece2 rfl rfl p7 rfl ?_
  exact ⟨beside_fresh ((Beside.of (b := b) l1).trans (beside_onto B2.out L6.out)) l7 (by omega), HE.out, rfl, _, (H2.out.below L6.out).beside l7 hne.symm⟩
set_option maxHeartbeats 1000000 in
theorem part_times (h : Reader w b s at_ deep) (hs : s.size ≤ 900) {p : Piece} {to : Nat} (hto : to ≤ s.size) {er m t : Int} {n : Nat} (hT : timesR (s.data.toList.drop to) = (er, m, t, n)) (he : er ≠ 0)
    (hC : ∀ w b, Reader w b s at_ deep → Calls Tryz.prog 96 #[.pointer (some ⟨b, 0, none⟩)] w (Reads b s deep w (.ok p to))) :
    Calls Tryz.prog 76 #[.pointer (some ⟨b, 0, none⟩)] w (Reads b s deep w (.bad to er)) := by
  have hlt := h.lt
  have H := Lib.hid h
  have HC := Lib.hid hC
  have h1 : (to : Int) ≤ (s.size : Int) := by omega
  have HT : Hid (∀ w, Calls Tryz.prog 97 #[.string (s.extract to s.size)] w fun e w' => e = .returned (.tuple #[.int .i64 m, .int .i64 t, .int .i64 n, .int .i64 er]) ∧ Below w.heap.size w w') := by
    intro w
    have := times_any (s.extract to s.size) (by rw [ByteArray.size_extract]; omega) w
    rw [Kit.drop_bytes, hT] at this
    exact this
  have te : (er != 0) = true := by simpa using he
  have HE := Lib.hid he
  clear he
  clear h hC hT
  go_enter Tryz.func76, Tryz.ntmps76
  go_wp2_with (first | (refine alloc_piece rfl rfl ?_; intro w1 b1 e1 p1 l1 z1))
  have hne : b1 ≠ b := by omega
  refine (HC.out _ _ (H.out.below l1)).mono ?_
  rintro e w2 ⟨b4, r, rfl, hr, hp⟩
  have B2 := Lib.hid b4
  have P2 := Lib.hid (PBox.beside p1 B2.out hne)
  have H2 := Lib.hid hr
  have A2 := Lib.hid hp
  have hz := B2.out.size
  clear b4 hr hp
  go_wp2_with (first
    | (refine alloc_piece rfl rfl ?_; intro w5 b2 e5 p5 l5 z5)
    | (refine store_piece (r := r) rfl (.tmp 4) (.tmp 12) rfl rfl rfl p5 ?_; intro w6 p6 l6 z6; have L6 := Lib.hid (two_new l5 l6 e5); have P6 := Lib.hid (P2.out.below L6.out); have H6 := Lib.hid (H2.out.below L6.out); have A6 := Lib.hid (A2.out.by_below L6.out); have Q6 := Lib.hid p6))
  have hlt6 := H6.out.lt
  have d0 := H6.out.c0
  have d1 := H6.out.c1
  have B6 := Lib.hid ((Beside.of (b := b) l1).trans (beside_onto B2.out L6.out))
  clear p6
  go_region_held3 (fun w' => w'.cell? ⟨b, 0, none⟩ = some (.string s) ∧ w'.cell? ⟨b, 1, none⟩ = some (.int .i64 to) ∧ Below w6.heap.size w6 w')
    (first | exact rs_on hlt6 (by assumption) hb7 | exact rs_start H6.out | exact rs_draw (by assumption) | go_keep)
    (first | (go_at_call 97; refine (HT.out _).mono ?_; rintro e w7 ⟨rfl, hb7⟩))
  have hS : RS w6 b s to w7 := by assumption
  have L7 := Lib.hid (rs_below hS)
  have H7 := Lib.hid (H6.out.below L7.out)
  have P7 := Lib.hid (P6.out.below L7.out)
  have Q7 := Lib.hid (Q6.out.below L7.out)
  have A7 := Lib.hid (A6.out.by_below L7.out)
  have B7 := Lib.hid (beside_onto B6.out L7.out)
  have hz7 : w2.heap.size ≤ w7.heap.size := Nat.le_trans L6.out.size L7.out.size
  clear hS d0 d1
  go_wp2_with (first
    | (refine store_piece (r := zeroR) rfl (.tmp 2) (.tmp 35) rfl rfl rfl P7.out ?_; intro w8 p8 l8 z8))
  refine end_piece2 rfl rfl p8 rfl ?_
  exact ⟨beside_fresh B7.out l8 (by omega), HE.out, rfl, _, H7.out.beside l8 hne.symm⟩
set_option maxHeartbeats 1000000 in
theorem part_plain (h : Reader w b s at_ deep) (hs : s.size ≤ 900) {p : Piece} {to : Nat} (hto : to ≤ s.size) {er m t : Int} {n : Nat} (hT : timesR (s.data.toList.drop to) = (er, m, t, n)) (he : er = 0) (hn : n = 0)
    (hC : ∀ w b, Reader w b s at_ deep → Calls Tryz.prog 96 #[.pointer (some ⟨b, 0, none⟩)] w (Reads b s deep w (.ok p to))) :
    Calls Tryz.prog 76 #[.pointer (some ⟨b, 0, none⟩)] w (Reads b s deep w (.ok p to)) := by
  have hlt := h.lt
  have H := Lib.hid h
  have HC := Lib.hid hC
  have h1 : (to : Int) ≤ (s.size : Int) := by omega
  have HT : Hid (∀ w, Calls Tryz.prog 97 #[.string (s.extract to s.size)] w fun e w' => e = .returned (.tuple #[.int .i64 m, .int .i64 t, .int .i64 n, .int .i64 er]) ∧ Below w.heap.size w w') := by
    intro w
    have := times_any (s.extract to s.size) (by rw [ByteArray.size_extract]; omega) w
    rw [Kit.drop_bytes, hT] at this
    exact this
  subst he hn
  clear h hC hT
  go_enter Tryz.func76, Tryz.ntmps76
  go_wp2_with (first | (refine alloc_piece rfl rfl ?_; intro w1 b1 e1 p1 l1 z1))
  have hne : b1 ≠ b := by omega
  refine (HC.out _ _ (H.out.below l1)).mono ?_
  rintro e w2 ⟨b4, r, rfl, hr, hp⟩
  have B2 := Lib.hid b4
  have P2 := Lib.hid (PBox.beside p1 B2.out hne)
  have H2 := Lib.hid hr
  have A2 := Lib.hid hp
  have hz := B2.out.size
  clear b4 hr hp
  go_wp2_with (first
    | (refine alloc_piece rfl rfl ?_; intro w5 b2 e5 p5 l5 z5)
    | (refine store_piece (r := r) rfl (.tmp 4) (.tmp 12) rfl rfl rfl p5 ?_; intro w6 p6 l6 z6; have L6 := Lib.hid (two_new l5 l6 e5); have P6 := Lib.hid (P2.out.below L6.out); have H6 := Lib.hid (H2.out.below L6.out); have A6 := Lib.hid (A2.out.by_below L6.out); have Q6 := Lib.hid p6))
  have hlt6 := H6.out.lt
  have d0 := H6.out.c0
  have d1 := H6.out.c1
  have B6 := Lib.hid ((Beside.of (b := b) l1).trans (beside_onto B2.out L6.out))
  clear p6
  go_region_held3 (fun w' => w'.cell? ⟨b, 0, none⟩ = some (.string s) ∧ w'.cell? ⟨b, 1, none⟩ = some (.int .i64 to) ∧ Below w6.heap.size w6 w')
    (first | exact rs_on hlt6 (by assumption) hb7 | exact rs_start H6.out | exact rs_draw (by assumption) | go_keep)
    (first | (go_at_call 97; refine (HT.out _).mono ?_; rintro e w7 ⟨rfl, hb7⟩))
  have hS : RS w6 b s to w7 := by assumption
  have L7 := Lib.hid (rs_below hS)
  have H7 := Lib.hid (H6.out.below L7.out)
  have P7 := Lib.hid (P6.out.below L7.out)
  have Q7 := Lib.hid (Q6.out.below L7.out)
  have A7 := Lib.hid (A6.out.by_below L7.out)
  have B7 := Lib.hid (beside_onto B6.out L7.out)
  have hz7 : w2.heap.size ≤ w7.heap.size := Nat.le_trans L6.out.size L7.out.size
  clear hS d0 d1
  go_wp2_with (first
    | (refine load_piece rfl (.tmp 4) rfl rfl Q7.out ?_)
    | (refine store_piece (r := r) rfl (.tmp 2) (.tmp 39) rfl rfl rfl P7.out ?_; intro w8 p8 l8 z8))
  refine end_piece2 rfl rfl p8 rfl ?_
  exact ⟨beside_fresh B7.out l8 (by omega), _, rfl, H7.out.beside l8 hne.symm, (A7.out.by_beside l8 (by omega)).by_less l1.size⟩
set_option maxHeartbeats 1000000 in
theorem part_rep (h : Reader w b s at_ deep) (hs : s.size ≤ 900) {p : Piece} {to : Nat} (hto : to ≤ s.size) {er m t : Int} {n : Nat} (hT : timesR (s.data.toList.drop to) = (er, m, t, n)) (he : er = 0) (hn : n ≠ 0) (hn2 : n ≤ 900)
    (hC : ∀ w b, Reader w b s at_ deep → Calls Tryz.prog 96 #[.pointer (some ⟨b, 0, none⟩)] w (Reads b s deep w (.ok p to))) :
    Calls Tryz.prog 76 #[.pointer (some ⟨b, 0, none⟩)] w (Reads b s deep w (.ok (.mk 9 ⟨#[]⟩ [p] m t) (to + n))) := by
  have hlt := h.lt
  have H := Lib.hid h
  have HC := Lib.hid hC
  have h1 : (to : Int) ≤ (s.size : Int) := by omega
  have HT : Hid (∀ w, Calls Tryz.prog 97 #[.string (s.extract to s.size)] w fun e w' => e = .returned (.tuple #[.int .i64 m, .int .i64 t, .int .i64 n, .int .i64 er]) ∧ Below w.heap.size w w') := by
    intro w
    have := times_any (s.extract to s.size) (by rw [ByteArray.size_extract]; omega) w
    rw [Kit.drop_bytes, hT] at this
    exact this
  subst he
  have tn : ((n : Int) == 0) = false := by simpa using (by omega : ¬ (n : Int) = 0)
  have hw : wrap64 ((to : Int) + (n : Int)) = ((to + n : Nat) : Int) := by unfold wrap64; omega
  clear h hC hT
  go_enter Tryz.func76, Tryz.ntmps76
  go_wp2_with (first | (refine alloc_piece rfl rfl ?_; intro w1 b1 e1 p1 l1 z1))
  have hne : b1 ≠ b := by omega
  refine (HC.out _ _ (H.out.below l1)).mono ?_
  rintro e w2 ⟨b4, r, rfl, hr, hp⟩
  have B2 := Lib.hid b4
  have P2 := Lib.hid (PBox.beside p1 B2.out hne)
  have H2 := Lib.hid hr
  have A2 := Lib.hid hp
  have hz := B2.out.size
  clear b4 hr hp
  go_wp2_with (first
    | (refine alloc_piece rfl rfl ?_; intro w5 b2 e5 p5 l5 z5)
    | (refine store_piece (r := r) rfl (.tmp 4) (.tmp 12) rfl rfl rfl p5 ?_; intro w6 p6 l6 z6; have L6 := Lib.hid (two_new l5 l6 e5); have P6 := Lib.hid (P2.out.below L6.out); have H6 := Lib.hid (H2.out.below L6.out); have A6 := Lib.hid (A2.out.by_below L6.out); have Q6 := Lib.hid p6))
  have hlt6 := H6.out.lt
  have d0 := H6.out.c0
  have d1 := H6.out.c1
  have B6 := Lib.hid ((Beside.of (b := b) l1).trans (beside_onto B2.out L6.out))
  clear p6
  go_region_held3 (fun w' => w'.cell? ⟨b, 0, none⟩ = some (.string s) ∧ w'.cell? ⟨b, 1, none⟩ = some (.int .i64 to) ∧ Below w6.heap.size w6 w')
    (first | exact rs_on hlt6 (by assumption) hb7 | exact rs_start H6.out | exact rs_draw (by assumption) | go_keep)
    (first | (go_at_call 97; refine (HT.out _).mono ?_; rintro e w7 ⟨rfl, hb7⟩))
  have hS : RS w6 b s to w7 := by assumption
  have L7 := Lib.hid (rs_below hS)
  have H7 := Lib.hid (H6.out.below L7.out)
  have P7 := Lib.hid (P6.out.below L7.out)
  have Q7 := Lib.hid (Q6.out.below L7.out)
  have A7 := Lib.hid (A6.out.by_below L7.out)
  have B7 := Lib.hid (beside_onto B6.out L7.out)
  have hz7 : w2.heap.size ≤ w7.heap.size := Nat.le_trans L6.out.size L7.out.size
  clear hS d0 d1
  have k1 := H7.out.c1
  have g1 := H7.out.free 1
  have B8 : Hid (Beside b w7 (w7.setCell ⟨b, 1, none⟩ (.int .i64 ((to + n : Nat) : Int)))) := beside_put _ _ _ _
  have H8 := Lib.hid (H7.out.put1 (to + n))
  have A8 := Lib.hid (A7.out.by_beside B8.out (by omega))
  have hz8 := B8.out.size
  go_wp2_with (first
    | (refine load_piece rfl (.tmp 4) rfl rfl (Q7.out.beside B8.out (by omega)) ?_)
    | (refine slice_piece rfl (.tmp 48) rfl (r := r) rfl ?_; intro w9 b3 e9 r9 l9 z9; have P9 := Lib.hid ((P7.out.beside B8.out hne).below l9))
    | (refine store_piece (r := ⟨9, ⟨#[]⟩, some ⟨b3, 0, none⟩, 1, 1, m, t⟩) rfl (.tmp 2) (.tmp 52) rfl rfl rfl P9.out ?_; intro w10 p10 l10 z10))
  refine end_piece2 rfl rfl p10 rfl ?_
  simp only [World.size_setCell] at e9 z9
  have hb3 : b3 < w9.heap.size := by omega
  have hb31 : b3 ≠ b1 := by omega
  have hin : In w.heap.size w10.heap.size b3 := ⟨by omega, by omega⟩
  refine ⟨beside_fresh (beside_onto (B7.out.trans B8.out) l9) l10 (by omega), _, rfl, (H8.out.below l9).beside l10 hne.symm, .mk _ _ _ _ _ _ _ [r] [p] w10.heap.size ?_ ?_ rfl ?_⟩
  · have r10 : Raws w9.heap.size w10 (.slice (some ⟨b3, 0, none⟩) 1 1) [r] := raws_keep r9 fun ad e _ q hq => by
      cases e
      exact cell_block (l10.block _ (by rw [hq]; exact hb3) (by rw [hq]; exact hb31))
    rw [z10]; exact r10
  · intro ad e _
    cases e
    exact hin
  · intro i i1 i2
    have i0 : i = 0 := by simp at i1; omega
    subst i0
    exact ((A8.out.by_below l9).by_beside l10 (by omega)).by_less l1.size
theorem part_any {R : Nat → Nat → Option Got} (hA : AtomOk R s at_ deep) (hs : s.size ≤ 900) : ∃ g, M14.part R s.data.toList at_ deep = some g ∧ Fine s.data.toList (at_ + 1) g ∧ ∀ w b, Reader w b s at_ deep → Calls Tryz.prog 76 #[.pointer (some ⟨b, 0, none⟩)] w (Reads b s deep w g) := by
  have hlen : s.data.toList.length = s.size := (Lib.size_eq s).symm
  obtain ⟨g, e, hf, hC⟩ := hA
  match g, hf, hC with
  | .bad q er, hf, hC => exact ⟨.bad q er, by unfold M14.part; rw [e], hf, fun w b h => part_bad h hC⟩
  | .ok p to, hf, hC =>
    have hto := hf.2.1
    refine ⟨often s.data.toList p to, by unfold M14.part; rw [e], often_fine hf.1 hf.2.1 hf.2.2, fun w b h => ?_⟩
    rw [often_times _ _ hto]
    have hle := timesR_ok (l := s.data.toList.drop to)
    obtain ⟨⟨er, m, t, n⟩, hT⟩ : ∃ r, timesR (s.data.toList.drop to) = r := ⟨_, rfl⟩
    rw [hT] at hle ⊢
    rw [List.length_drop] at hle
    simp only at hle ⊢
    by_cases he : er ≠ 0
    · rw [if_pos he]; exact part_times h hs (by omega) hT he hC
    · rw [if_neg he]
      have he0 : er = 0 := by simpa using he
      by_cases hn : n = 0
      · rw [if_pos hn]; exact part_plain h hs (by omega) hT he0 hn hC
      · rw [if_neg hn]; exact part_rep h hs (by omega) hT he0 hn (by have := hle he0; omega) hC
end
end Go.Proofs.YtehdnbidgphecaaGreatDoor.W14
/-
  Layer 14 (pattern), walk of the program's row. The conditions stand in the statements.
-/
namespace Go.Proofs.YtehdnbidgphecaaGreatDoor.W14
set_option maxRecDepth 100000
open Go Go.RowKit Go.Proofs.YtehdnbidgphecaaGreatDoor.Recs Go.Proofs.YtehdnbidgphecaaGreatDoor.M14
open Go.Proofs.YtehdnbidgphecaaGreatDoor.Row256 (Beside)
open Go.Proofs.YtehdnbidgphecaaGreatDoor.Kit (ret_str ret_bool ret_int mk_of mk_bytes ba_ext below_draws on list_full list_ne list_none list_nil)

theorem noAtom_cases (S : List UInt8) (at_ deep : Nat) : noAtom S at_ deep = (true, 0) ∨ noAtom S at_ deep = (true, 3) ∨ noAtom S at_ deep = (false, 0) := by
  unfold noAtom
  split
  · exact .inl rfl
  · split
    · split
      · exact .inl rfl
      · exact .inr (.inl rfl)
    · split
      · exact .inr (.inl rfl)
      · split
        · exact .inl rfl
        · exact .inr (.inr rfl)
section
variable {R : Nat → Nat → Option Got} {S : List UInt8} {deep k at_ : Nat} {acc : List Piece} {g : Got}
theorem row_end (h : stop S at_) (hr : row R S deep (k + 1) at_ acc = some g) : g = .ok (together 7 acc) at_ := by
  unfold row at hr
  rw [if_pos h] at hr
  injection hr with hr
  exact hr.symm
theorem row_on_bad (h : ¬ stop S at_) {q : Nat} {er : Int} (hp : M14.part R S at_ deep = some (.bad q er)) (hr : row R S deep (k + 1) at_ acc = some g) : g = .bad q er := by
  unfold row at hr
  rw [if_neg h, hp] at hr
  injection hr with hr
  exact hr.symm
theorem row_on_ok (h : ¬ stop S at_) {p : Piece} {to : Nat} (hp : M14.part R S at_ deep = some (.ok p to)) (hr : row R S deep (k + 1) at_ acc = some g) : row R S deep k to (acc ++ [p]) = some g := by
  unfold row at hr
  rw [if_neg h, hp] at hr
  exact hr
theorem row_stop (h : noAtom S at_ deep = (true, 0)) (hr : row R S deep (k + 1) at_ acc = some g) : fix S deep g = .ok (together 7 acc) at_ := by
  unfold noAtom at h
  by_cases h0 : at_ = S.length
  · rw [row_end (Or.inl (by omega)) hr]
    exact if_neg (by omega)
  · rw [if_neg h0] at h
    by_cases h41 : S.getD at_ 0 = 41
    · rw [if_pos h41] at h
      by_cases hd : 0 < deep
      · rw [row_end (Or.inr (Or.inr h41)) hr]
        exact if_neg (by omega)
      · rw [if_neg hd] at h; simp at h
    · rw [if_neg h41] at h
      split at h
      · simp at h
      · split at h
        · rename_i h124
          rw [row_end (Or.inr (Or.inl h124)) hr]
          exact if_neg (fun q => h41 q.2.2)
        · simp at h
theorem row_bad (ha : at_ ≤ S.length) (h : noAtom S at_ deep = (true, 3)) (hr : row R S deep (k + 1) at_ acc = some g) : fix S deep g = .bad at_ 3 := by
  unfold noAtom at h
  by_cases h0 : at_ = S.length
  · rw [if_pos h0] at h; simp at h
  · rw [if_neg h0] at h
    by_cases h41 : S.getD at_ 0 = 41
    · rw [if_pos h41] at h
      by_cases hd : 0 < deep
      · rw [if_pos hd] at h; simp at h
      · rw [row_end (Or.inr (Or.inr h41)) hr]
        exact if_pos ⟨by omega, by omega, h41⟩
    · rw [if_neg h41] at h
      by_cases hq : S.getD at_ 0 = 42 ∨ S.getD at_ 0 = 43 ∨ S.getD at_ 0 = 63 ∨ S.getD at_ 0 = 123
      · have hst : ¬ stop S at_ := by
          rintro (q | q | q)
          · omega
          · rcases hq with e | e | e | e <;> (rw [e] at q; exact absurd q (by decide))
          · exact h41 q
        have hp : M14.part R S at_ deep = some (.bad at_ 3) := by
          unfold M14.part atom
          have n : ∀ c : UInt8, c = 40 ∨ c = 91 ∨ c = 46 ∨ c = 94 ∨ c = 36 → ¬ S.getD at_ 0 = c := by
            rintro c (e | e | e | e | e) q <;> rcases hq with f | f | f | f <;> (rw [q, e] at f; exact absurd f (by decide))
          rw [if_neg (n 40 (by simp)), if_neg (n 91 (by simp)), if_neg (n 46 (by simp)), if_neg (n 94 (by simp)), if_neg (n 36 (by simp)), if_pos hq]
        rw [row_on_bad hst hp hr]; rfl
      · rw [if_neg hq] at h
        split at h <;> simp at h
theorem row_go (ha : at_ ≤ S.length) (h : noAtom S at_ deep = (false, 0)) : at_ < S.length ∧ ¬ stop S at_ ∧ ¬ S.getD at_ 0 = 42 ∧ ¬ S.getD at_ 0 = 43 ∧ ¬ S.getD at_ 0 = 63 ∧ ¬ S.getD at_ 0 = 123 := by
  unfold noAtom at h
  by_cases h0 : at_ = S.length
  · rw [if_pos h0] at h; simp at h
  · rw [if_neg h0] at h
    by_cases h41 : S.getD at_ 0 = 41
    · rw [if_pos h41] at h
      split at h <;> simp at h
    · rw [if_neg h41] at h
      by_cases hq : S.getD at_ 0 = 42 ∨ S.getD at_ 0 = 43 ∨ S.getD at_ 0 = 63 ∨ S.getD at_ 0 = 123
      · rw [if_pos hq] at h; simp at h
      · rw [if_neg hq] at h
        by_cases h124 : S.getD at_ 0 = 124
        · rw [if_pos h124] at h; simp at h
        · refine ⟨by omega, ?_, fun q => hq (.inl q), fun q => hq (.inr (.inl q)), fun q => hq (.inr (.inr (.inl q))), fun q => hq (.inr (.inr (.inr q)))⟩
          rintro (q | q | q)
          · omega
          · exact h124 q
          · exact h41 q
end
theorem PatOk.more {s : ByteArray} {R : Nat → Nat → Option Got} {lo lo' : Nat} (h : PatOk s R lo) (k : lo ≤ lo') : PatOk s R lo' := fun a d h1 h2 h3 => h a d (Nat.le_trans k h1) h2 h3
section
variable {e : TypeId} {base : Nat} {u w' w'' : World} {v : Value} {ks : List Piece} {b : Nat}
theorem grown_beside (hb : Build e base w' v ks) (hg : w'.grownBy w'' v.ownBlock) (h0 : u.heap.size ≤ base) (k : Beside b u w') : Beside b u w'' := by
  have hs := grown_below hb hg
  obtain ⟨g1, g2, g3, g4, -⟩ := hg
  exact ⟨g1.trans k.os, g2.trans k.tape, g3.trans k.output, Nat.le_trans k.size g4, fun i hi e => (hs i (by omega) (Nat.lt_of_lt_of_le hi k.size)).trans (k.block i hi e)⟩
theorem grown_reader {s : ByteArray} {at_ deep : Nat} (hb : Build e base w' v ks) (hg : w'.grownBy w'' v.ownBlock) (h0 : b < base) (h : Reader w' b s at_ deep) : Reader w'' b s at_ deep := (grown_below hb hg b h0 h.lt).trans h
theorem grown_box {r : Raw} (hb : Build e base w' v ks) (hg : w'.grownBy w'' v.ownBlock) (h0 : b < base) (h : PBox w' b r) : PBox w'' b r := (grown_below hb hg b h0 h.lt).trans h
end
section
variable {w : World} {b : Nat} {s : ByteArray} {at_ deep : Nat}
set_option maxHeartbeats 4000000 in
theorem row_any {R : Nat → Nat → Option Got} (hR : PatOk s R (at_ + 1)) (hat : at_ ≤ s.size) (hs : s.size ≤ 900) (hd : deep ≤ 64) {g : Got} (hg : row R s.data.toList deep (s.data.toList.length + 1) at_ [] = some g) (h : Reader w b s at_ deep) :
    Calls Tryz.prog 56 #[.pointer (some ⟨b, 0, none⟩)] w (Reads b s deep w (fix s.data.toList deep g)) := by
  have hlen : s.data.toList.length = s.size := (Lib.size_eq s).symm
  have hlt := h.lt
  have H := Lib.hid h
  have HG := Lib.hid hg
  have HR := Lib.hid hR
  obtain ⟨G, hG⟩ : ∃ G, fix s.data.toList deep g = G := ⟨_, rfl⟩
  rw [hG]
  have HFX := Lib.hid hG
  have HLEN := Lib.hid hlen
  clear h hg hR hG hlen
  go_enter Tryz.func56, Tryz.ntmps56
  go_wp2_with (first | (refine alloc_piece rfl rfl ?_; intro w1 b1 e1 p1 l1 z1))
  have hne : b1 ≠ b := by omega
  have hb1 : b < w1.heap.size := by omega
  have hb2 : b1 < w1.heap.size := by omega
  go_loopg [4] s.size (fun gk s4 wr => ∃ (a : Nat) (acc : List Piece), at_ ≤ a ∧ a ≤ s.size ∧ acc.length ≤ a ∧ Hid (row R s.data.toList deep (gk + 1) a acc = some g) ∧ Hid (Build 25 w1.heap.size wr s4 acc) ∧ Hid (Reader wr b s a deep) ∧ Hid (PBox wr b1 zeroR) ∧ Hid (Beside b w wr) ∧ w1.heap.size ≤ wr.heap.size)
  case atStart =>
    refine ⟨at_, [], Nat.le_refl _, hat, Nat.zero_le _, ?_, Build.nil _ _ _, H.out.below l1, p1, .of l1, Nat.le_refl _⟩
    show row R _ _ _ _ _ = _
    rw [← HLEN.out]; exact HG.out
  case round =>
    obtain ⟨a, acc, ha0, ha1, hacc, hrow, hbuild, hrd, hbox, hbes, hsz⟩ := hrel
    have hna := noAtom_any hrd.out ha1
    obtain ⟨A, c, rfl, hA1, hA2⟩ := hbuild.out.len
    unfold maxLen at hA2
    rcases noAtom_cases s.data.toList a deep with hq | hq | hq
    · -- the row ends
      rw [hq] at hna
      have HX : Hid (G = .ok (together 7 acc) a) := by
        unfold Hid
        rw [← HFX.out]
        exact row_stop hq hrow.out
      have HN := Lib.hid hna
      clear hna hq
      go_wp2_with fail
      refine HN.out.mono ?_
      rintro e w2 ⟨rfl, q, rfl⟩
      have hbuild2 : Hid (Build 25 w1.heap.size (wr.drewN q) (.slice A acc.length c) acc) := hbuild.out.same (Nat.le_refl _) fun _ _ _ => rfl
      have hrd2 : Hid (Reader (wr.drewN q) b s a deep) := hrd
      have hbox2 : Hid (PBox (wr.drewN q) b1 zeroR) := hbox
      have hbes2 : Hid (Beside b w (wr.drewN q)) := beside_onto hbes.out (below_draws wr q)
      have hsz2 : w1.heap.size ≤ (wr.drewN q).heap.size := hsz
      clear hbuild hrd hbox hbes
      generalize wr.drewN q = w2 at *
      go_wp2_with fail
      refine (together_any 7 (by omega) hbuild2.out).mono ?_
      rintro e w3 ⟨r, rfl, hp, l3⟩
      have A3 := Lib.hid hp
      have L3 := Lib.hid l3
      have P3 := Lib.hid (hbox2.out.below l3)
      clear hp l3
      go_wp2_with (first
        | (refine store_piece (r := r) rfl (.tmp 2) (.tmp 19) rfl rfl rfl P3.out ?_; intro w8 p8 l8 z8))
      refine end_piece2 rfl rfl p8 rfl ?_
      rw [HX.out]
      exact ⟨beside_fresh (beside_onto hbes2.out L3.out) l8 (by omega), _, rfl, (hrd2.out.below L3.out).beside l8 hne.symm, (A3.out.by_beside l8 hb2).by_less l1.size⟩
    · -- no row may end here
      rw [hq] at hna
      have HX : Hid (G = .bad a 3) := by
        unfold Hid
        rw [← HFX.out]
        exact row_bad (by rw [HLEN.out]; exact ha1) hq hrow.out
      have HN := Lib.hid hna
      clear hna hq
      go_wp2_with fail
      refine HN.out.mono ?_
      rintro e w2 ⟨rfl, q, rfl⟩
      have hrd2 : Hid (Reader (wr.drewN q) b s a deep) := hrd
      have hbox2 : Hid (PBox (wr.drewN q) b1 zeroR) := hbox
      have hbes2 : Hid (Beside b w (wr.drewN q)) := beside_onto hbes.out (below_draws wr q)
      clear hbuild hrd hbox hbes
      generalize wr.drewN q = w2 at *
      go_wp2_with (first
        | (refine store_piece (r := zeroR) rfl (.tmp 2) (.tmp 15) rfl rfl rfl hbox2.out ?_; intro w8 p8 l8 z8))
      refine end_piece2 rfl rfl p8 rfl ?_
      rw [HX.out]
      exact ⟨beside_fresh hbes2.out l8 (by omega), by decide, rfl, _, hrd2.out.beside l8 hne.symm⟩
    · -- a part
      rw [hq] at hna
      obtain ⟨ha2, hst, n42, n43, n63, n123⟩ := row_go (by rw [HLEN.out]; exact ha1) hq
      have ha3 : a < s.size := by rw [HLEN.out] at ha2; exact ha2
      rw [getD_at ha3] at n42 n43 n63 n123
      obtain ⟨g0, hp0, hf0, hC⟩ := part_any (atom_any (HR.out.more (by omega)) ha3 hs hd n42 n43 n63 n123) hs
      have HN := Lib.hid hna
      have HC := Lib.hid hC
      clear hna hq n42 n43 n63 n123 hC ha2
      match g0, hf0, HC, hp0 with
      | .bad qb er, hf0, HC, hp0 =>
        have HX : Hid (G = .bad qb er) := by
          unfold Hid
          rw [← HFX.out, row_on_bad hst hp0 hrow.out]; rfl
        clear hf0 hp0 hst
        go_wp2_with fail
        refine HN.out.mono ?_
        rintro e w2 ⟨rfl, q, rfl⟩
        have hrd2 : Hid (Reader (wr.drewN q) b s a deep) := hrd
        have hbox2 : Hid (PBox (wr.drewN q) b1 zeroR) := hbox
        have hbes2 : Hid (Beside b w (wr.drewN q)) := beside_onto hbes.out (below_draws wr q)
        have hsz2 : w1.heap.size ≤ (wr.drewN q).heap.size := hsz
        clear hbuild hrd hbox hbes
        generalize wr.drewN q = w2 at *
        go_wp2_with fail
        refine (HC.out _ _ hrd2.out).mono ?_
        rintro e w4 ⟨b4, he, rfl, d, hr⟩
        have B4 := Lib.hid b4
        have P4 := Lib.hid (hbox2.out.beside b4 hne)
        have H4 := Lib.hid hr
        have te : (er != 0) = true := by simpa using he
        have HE := Lib.hid he
        have hz := B4.out.size
        clear b4 hr he
        go_wp2_with (first
          | (refine alloc_piece rfl rfl ?_; intro w5 c2 e5 p5 l5 z5)
          | (refine store_piece (r := zeroR) rfl (.tmp 7) (.tmp 23) rfl rfl rfl p5 ?_; intro w6 p6 l6 z6; have L6 := Lib.hid (two_new l5 l6 e5); have P6 := Lib.hid (P4.out.below L6.out))
          | (refine store_piece (r := zeroR) rfl (.tmp 2) (.tmp 27) rfl rfl rfl P6.out ?_; intro w7 p7 l7 z7))
        refine end_piece2 rfl rfl p7 rfl ?_
        rw [HX.out]
        exact ⟨beside_fresh (hbes2.out.trans (beside_onto B4.out L6.out)) l7 (by omega), HE.out, rfl, _, (H4.out.below L6.out).beside l7 hne.symm⟩
      | .ok p to, hf0, HC, hp0 =>
        have HON := Lib.hid (row_on_ok hst hp0 hrow.out)
        have hto1 : a + 1 ≤ to := hf0.1
        have hto2 : to ≤ s.size := by have := hf0.2.1; rw [HLEN.out] at this; exact this
        clear hf0 hp0 hst hrow
        go_wp2_with fail
        refine HN.out.mono ?_
        rintro e w2 ⟨rfl, q, rfl⟩
        have hbuild2 : Hid (Build 25 w1.heap.size (wr.drewN q) (.slice A acc.length c) acc) := hbuild.out.same (Nat.le_refl _) fun _ _ _ => rfl
        have hrd2 : Hid (Reader (wr.drewN q) b s a deep) := hrd
        have hbox2 : Hid (PBox (wr.drewN q) b1 zeroR) := hbox
        have hbes2 : Hid (Beside b w (wr.drewN q)) := beside_onto hbes.out (below_draws wr q)
        have hsz2 : w1.heap.size ≤ (wr.drewN q).heap.size := hsz
        clear hbuild hrd hbox hbes
        generalize wr.drewN q = w2 at *
        go_wp2_with fail
        refine (HC.out _ _ hrd2.out).mono ?_
        rintro e w4 ⟨b4, r, rfl, hr, hp⟩
        have B4 := Lib.hid b4
        have P4 := Lib.hid (hbox2.out.beside b4 hne)
        have U4 := Lib.hid (hbuild2.out.beside b4 hb1)
        have H4 := Lib.hid hr
        have A4 := Lib.hid hp
        have hz := B4.out.size
        clear b4 hr hp
        go_wp2_with (first
          | (refine alloc_piece rfl rfl ?_; intro w5 c2 e5 p5 l5 z5)
          | (refine store_piece (r := r) rfl (.tmp 7) (.tmp 23) rfl rfl rfl p5 ?_; intro w6 p6 l6 z6; have L6 := Lib.hid (two_new l5 l6 e5))
          | (refine load_piece rfl (.tmp 7) rfl rfl p6 ?_)
          | (refine slice_piece rfl (.tmp 30) rfl (r := r) rfl ?_; intro w7 b3 e7 r7 l7 z7; have L7 := Lib.hid (L6.out.trans (l7.mono L6.out.size)); have U7 := Lib.hid (U4.out.below L7.out); have A7 := Lib.hid (A4.out.by_below L7.out); have hz7 := L7.out.size)
          | (refine append_piece rfl (.tmp 29) (.tmp 31) rfl rfl rfl U7.out hbuild2.out.own_lt hsz2 (by omega) r7 A7.out (by omega) ?_; intro v' w8 U8 g8))
        have HU := Lib.hid U8
        have HR8 := Lib.hid (grown_reader U7.out g8 hb1 (H4.out.below L7.out))
        have HP8 := Lib.hid (grown_box U7.out g8 hb2 (P4.out.below L7.out))
        have HB8 := Lib.hid (grown_beside U7.out g8 l1.size (hbes2.out.trans (beside_onto B4.out L7.out)))
        have hz8 : w7.heap.size ≤ w8.heap.size := by obtain ⟨_, _, _, g, _⟩ := g8; exact g
        clear g8 U8
        cases gk with
        | zero => exact absurd HON.out (by simp [row])
        | succ gk2 =>
          try go_wp2_with fail
          go_roundg gk2
          case measure => omega
          case rel => exact ⟨to, acc ++ [p], by omega, hto2, by simp only [List.length_append, List.length_cons, List.length_nil]; omega, HON, HU, HR8, HP8, HB8, by omega⟩
end
end Go.Proofs.YtehdnbidgphecaaGreatDoor.W14
