/-
  Layer 7 (tree): plain mathematics of the landed code's Move: which case is which; what is kept of each node when another one makes room. Lists alone. No condition but those that each theorem bears.
-/
import Derived.Test.YtelphegeeiocnaaW07Check
namespace Go.Proofs.Ytelphegeeiocnaa.W07
open Go Go.Proofs.Ytelphegeeiocnaa.M07 Go.Proofs.Ytelphegeeiocnaa.Maps
open Go.Proofs.Ytelphegeeiocnaa.M06 (Ent)
open Go.Proofs.Ytelphegeeiocnaa.M03 (check lt)
section
variable {t : Tr}
theorem room_plain (h : Right t) {n dst src th : Int} {s : Bytes} {al : Bytes} (hst : Stands t src s n) (hd : (nodeAt t.L dst).kind = 1) (hne : dst ≠ n) (e0 : inDir t.L dst al = th) (h0 : th ≠ 0) (hv : listDir t.L th = []) (hth : th ≠ n) (hin : (nodeAt t.L n).kind = 1 → ¬ Inside t.L n dst) :
    plainN (placed ⟨t.L.filter (fun a => decide (a.num ≠ th)), t.last⟩ (nodeAt t.L n) dst al) = hangN (unhangN (upd (plainN t) th nod0) src s) dst al n ∧ Right (placed ⟨t.L.filter (fun a => decide (a.num ≠ th)), t.last⟩ (nodeAt t.L n) dst al) := by
  have hto : Stands t dst al th := by rw [← e0]; exact in_stands h hd (by rw [e0]; exact h0)
  have hr := cut_right h (d := dst) (name := al)
  have hw : (cut t dst al).1 = ⟨t.L.filter (fun a => decide (a.num ≠ th)), t.last⟩ := by
    unfold M07.cut
    rw [e0, if_neg (by unfold dirErr; rw [hd]; decide), if_neg h0, if_neg (by rw [hv]; simp)]
  have hcp := cut_plain h (s := al) hd (by rw [e0]; exact h0) (by rw [e0]; exact hv)
  rw [hw] at hr
  rw [e0] at hcp
  have hvd := list_void hv
  have hmn := at_some hst.2.2.1
  have hmt := at_some hto.2.2.1
  have h1 : th ≠ src := by
    intro e
    exact hvd _ hmn.1 (by rw [hmn.2]; exact hst.2.1) (by rw [hst.2.2.2.1]; exact e.symm)
  have h2 : th ≠ dst := by
    intro e
    exact hvd _ hmt.1 (by rw [hmt.2]; exact hto.2.1) (by rw [hto.2.2.2.1]; exact e.symm)
  have an : nodeAt (t.L.filter (fun a => decide (a.num ≠ th))) n = nodeAt t.L n := at_filter (Ne.symm hth)
  have ad : nodeAt (t.L.filter (fun a => decide (a.num ≠ th))) dst = nodeAt t.L dst := at_filter (Ne.symm h2)
  have as' : nodeAt (t.L.filter (fun a => decide (a.num ≠ th))) src = nodeAt t.L src := at_filter (Ne.symm h1)
  have hst1 : Stands ⟨t.L.filter (fun a => decide (a.num ≠ th)), t.last⟩ src s n := by
    unfold Stands
    show (nodeAt (t.L.filter _) src).kind = 1 ∧ _ ∧ (nodeAt (t.L.filter _) n).kind ≠ 0 ∧ (nodeAt (t.L.filter _) n).up = src ∧ (nodeAt (t.L.filter _) n).name = s
    rw [an, as']
    exact hst
  have hmem : ∀ {a : Nd}, a ∈ t.L.filter (fun a => decide (a.num ≠ th)) ↔ a ∈ t.L ∧ a.num ≠ th := by
    intro a; rw [List.mem_filter]; simp
  have hno : inDir (t.L.filter (fun a => decide (a.num ≠ th))) dst al = 0 := by
    by_cases hz : inDir (t.L.filter (fun a => decide (a.num ≠ th))) dst al = 0
    · exact hz
    · obtain ⟨b, hb, _, bu, bn, b1⟩ := in_found hz
      obtain ⟨hb, hbo⟩ := hmem.1 hb
      have := h.once b hb _ hmt.1 b1 (by rw [hmt.2]; exact hto.2.1) (by rw [bu, hto.2.2.2.1]) (by rw [bn, hto.2.2.2.2])
      exact absurd (by rw [this]; exact hmt.2) hbo
  have hin1 : (nodeAt (t.L.filter (fun a => decide (a.num ≠ th))) n).kind = 1 → ¬ Inside (t.L.filter (fun a => decide (a.num ≠ th))) n dst := by
    rw [an]
    intro hk hi
    refine hin hk ?_
    have way : ∀ (k : Nat) {m : Int}, (∃ a ∈ t.L, a.num = m ∧ a.num ≠ th) → upN (t.L.filter (fun a => decide (a.num ≠ th))) k m = upN t.L k m := by
      intro k
      induction k with
      | zero => intro m _; rfl
      | succ k ih =>
        rintro m ⟨a, ha, em, ho2⟩
        have e1 : upOf (t.L.filter (fun a => decide (a.num ≠ th))) m = upOf t.L m := by
          unfold upOf; rw [← em, at_filter ho2]
        show upN _ k (upOf _ m) = upN t.L k (upOf t.L m)
        rw [e1]
        obtain ⟨b, hb, eb, _⟩ := h.up_mem ha
        refine ih ⟨b, hb, by rw [← em, h.upOf_ ha, eb], ?_⟩
        rw [eb]
        by_cases ha1 : a.num = 1
        · rw [root_is h ha ha1]; exact fun e => hto.2.1 e.symm
        · exact hvd a ha ha1
    obtain ⟨j, hj, hb⟩ := hi
    have hds := at_some (L := t.L) (n := dst) (by rw [hd]; decide)
    have md : ∃ a ∈ t.L, a.num = dst ∧ a.num ≠ th := ⟨_, hds.1, hds.2, by rw [hds.2]; exact Ne.symm h2⟩
    rw [way j md] at hj
    exact ⟨j, hj, fun i hi => by have := hb i hi; rw [way i md] at this; exact this⟩
  have hp := placed_plain hr (dst := dst) (al := al) hst1 (by show (nodeAt (t.L.filter _) dst).kind = 1; rw [ad]; exact hd) hne hno hin1
  have hpr : Right (placed ⟨t.L.filter (fun a => decide (a.num ≠ th)), t.last⟩ (nodeAt t.L n) dst al) := placed_right hr (x := nodeAt t.L n) (hmem.2 ⟨hmn.1, by rw [hmn.2]; exact Ne.symm hth⟩) (by rw [hmn.2]; exact hst.2.1) (by show (nodeAt (t.L.filter _) dst).kind = 1; rw [ad]; exact hd) hno (by rw [hmn.2]; intro hk; exact hin1 (by rw [an]; exact hk))
  refine ⟨?_, hpr⟩
  rw [show nodeAt (⟨t.L.filter (fun a => decide (a.num ≠ th)), t.last⟩ : Tr).L n = nodeAt t.L n from an, hcp] at hp
  rw [hp]
  exact replace_plain (plain_right t) h1 h2 hth hne
/-- a node in whose place a directory stands is a directory -/
theorem inside_dir (h : Right t) {n dst : Int} (hd : (nodeAt t.L dst).kind = 1) (hi : Inside t.L n dst) : (nodeAt t.L n).kind = 1 := by
  obtain ⟨j, e, -⟩ := hi
  have hds := at_some (L := t.L) (n := dst) (by rw [hd]; decide)
  cases j with
  | zero => rw [← show dst = n from e]; exact hd
  | succ j =>
    obtain ⟨a, ha, e1, e2⟩ := up_member h (j + 1) ⟨_, hds.1, hds.2⟩
    rw [← e, ← e1, h.at_ ha]
    exact e2 (by omega)
/-! Move, case by case -/
section
variable {src dst : Int} {s : Bytes} {al : Bytes}
theorem move_src (h1 : dirErr t.L src ≠ 0) : M07.move t src s dst al = (t, dirErr t.L src) := by
  have e : moveErr t.L src s dst al = dirErr t.L src := if_pos h1
  unfold M07.move; rw [e, if_pos h1]
theorem move_dst (h1 : dirErr t.L src = 0) (h2 : dirErr t.L dst ≠ 0) : M07.move t src s dst al = (t, dirErr t.L dst) := by
  have e : moveErr t.L src s dst al = dirErr t.L dst := (if_neg (by simpa using h1)).trans (if_pos h2)
  unfold M07.move; rw [e, if_pos h2]
theorem move_gone (h1 : dirErr t.L src = 0) (h2 : dirErr t.L dst = 0) (h3 : inDir t.L src s = 0) : M07.move t src s dst al = (t, 5) := by
  have e : moveErr t.L src s dst al = 5 := (if_neg (by simpa using h1)).trans ((if_neg (by simpa using h2)).trans (if_pos h3))
  unfold M07.move; rw [e, if_pos (by decide)]
theorem move_name (h1 : dirErr t.L src = 0) (h2 : dirErr t.L dst = 0) (h3 : inDir t.L src s ≠ 0) (h4 : check al ≠ 0) : M07.move t src s dst al = (t, check al) := by
  have e : moveErr t.L src s dst al = check al := (if_neg (by simpa using h1)).trans ((if_neg (by simpa using h2)).trans (if_neg h3))
  unfold M07.move; rw [e, if_pos h4]
theorem move_err (h1 : dirErr t.L src = 0) (h2 : dirErr t.L dst = 0) (h3 : inDir t.L src s ≠ 0) (h4 : check al = 0) : moveErr t.L src s dst al = 0 :=
  ((if_neg (by simpa using h1)).trans ((if_neg (by simpa using h2)).trans (if_neg h3))).trans h4
theorem move_in (h : Right t) (h1 : dirErr t.L src = 0) (h2 : dirErr t.L dst = 0) (h3 : inDir t.L src s ≠ 0) (h4 : check al = 0) (h5 : Inside t.L (inDir t.L src s) dst) : M07.move t src s dst al = (t, 14) := by
  have e := move_err h1 h2 h3 h4
  unfold M07.move; rw [e, if_neg (by simp), if_pos ⟨inside_dir h (dir_zero h2) h5, h5⟩]
theorem move_on (h1 : dirErr t.L src = 0) (h2 : dirErr t.L dst = 0) (h3 : inDir t.L src s ≠ 0) (h4 : check al = 0) (h5 : ¬ Inside t.L (inDir t.L src s) dst) : M07.move t src s dst al = moveOn t (inDir t.L src s) dst al := by
  have e := move_err h1 h2 h3 h4
  unfold M07.move; rw [e, if_neg (by simp), if_neg (fun e => h5 e.2)]
theorem on_same {n : Int} (h : inDir t.L dst al = n) : moveOn t n dst al = (t, 0) := if_pos h
theorem on_free {n : Int} (h0 : inDir t.L dst al = 0) (hn : n ≠ 0) : moveOn t n dst al = (placed t (nodeAt t.L n) dst al, 0) := by
  unfold moveOn; rw [if_neg (by rw [h0]; exact Ne.symm hn), if_neg (by omega)]
theorem on_taken (h : Right t) {n th : Int} (h2 : dirErr t.L dst = 0) (e0 : inDir t.L dst al = th) (h0 : th ≠ 0) (hn : th ≠ n) (hr : replaceN (plainN t th) (plainN t n) ≠ 0) : moveOn t n dst al = (t, replaceN (plainN t th) (plainN t n)) := by
  have hp := in_pos (L := t.L) (d := dst) (s := al) (fun a ha => (h.ends a ha).1)
  have hvl : listDir t.L th ≠ [] ↔ 0 < (plainN t th).list.length := by
    show _ ↔ 0 < (listed t th).length
    unfold listed
    by_cases hk : (nodeAt t.L th).kind = 1
    · rw [if_pos hk]; exact List.length_pos_iff.symm
    · rw [if_neg hk]
      constructor
      · intro e
        obtain ⟨x, hx⟩ := List.exists_mem_of_ne_nil _ e
        obtain ⟨a, ha, h1, h2, h3⟩ := (mem_list h).1 hx
        have := h.up a ha
        rw [h1] at this
        exact absurd this hk
      · intro e; simp at e
  unfold moveOn
  rw [e0, if_neg hn, if_pos (by omega)]
  have k1 : (plainN t th).kind = (nodeAt t.L th).kind := rfl
  have k2 : (plainN t n).kind = (nodeAt t.L n).kind := rfl
  unfold replaceN at hr ⊢
  rw [k1, k2] at hr ⊢
  by_cases c1 : (nodeAt t.L th).kind = 1 ∧ (nodeAt t.L n).kind ≠ 1
  · rw [if_pos c1, if_pos c1]
  · rw [if_neg c1, if_neg c1]
    rw [if_neg c1] at hr
    by_cases c2 : (nodeAt t.L th).kind ≠ 1 ∧ (nodeAt t.L n).kind = 1
    · rw [if_pos c2, if_pos c2]
    · rw [if_neg c2, if_neg c2]
      rw [if_neg c2] at hr
      by_cases c3 : 0 < (plainN t th).list.length
      · rw [if_pos c3]
        have hc : cut t dst al = (t, 9) := by
          unfold M07.cut
          rw [e0, if_neg (by simpa using h2), if_neg h0, if_pos (hvl.2 c3)]
        rw [hc, if_pos (show (9 : Int) ≠ 0 by decide)]
      · rw [if_neg c3] at hr; exact absurd rfl hr
theorem on_room (h : Right t) {n th : Int} (h2 : dirErr t.L dst = 0) (e0 : inDir t.L dst al = th) (h0 : th ≠ 0) (hn : th ≠ n) (hr : replaceN (plainN t th) (plainN t n) = 0) : listDir t.L th = [] ∧ moveOn t n dst al = (placed ⟨t.L.filter (fun a => decide (a.num ≠ th)), t.last⟩ (nodeAt t.L n) dst al, 0) := by
  have hp := in_pos (L := t.L) (d := dst) (s := al) (fun a ha => (h.ends a ha).1)
  have hvl : ¬ 0 < (plainN t th).list.length → listDir t.L th = [] := by
    show ¬ 0 < (listed t th).length → _
    unfold listed
    by_cases hk : (nodeAt t.L th).kind = 1
    · rw [if_pos hk]; intro e; exact List.length_eq_zero_iff.1 (by omega)
    · intro _
      by_cases e : listDir t.L th = []
      · exact e
      · obtain ⟨x, hx⟩ := List.exists_mem_of_ne_nil _ e
        obtain ⟨a, ha, h1, h2, h3⟩ := (mem_list h).1 hx
        have := h.up a ha
        rw [h1] at this
        exact absurd this hk
  have k1 : (plainN t th).kind = (nodeAt t.L th).kind := rfl
  have k2 : (plainN t n).kind = (nodeAt t.L n).kind := rfl
  unfold replaceN at hr
  rw [k1, k2] at hr
  have c1 : ¬ ((nodeAt t.L th).kind = 1 ∧ (nodeAt t.L n).kind ≠ 1) := fun c => by rw [if_pos c] at hr; exact absurd hr (by decide)
  rw [if_neg c1] at hr
  have c2 : ¬ ((nodeAt t.L th).kind ≠ 1 ∧ (nodeAt t.L n).kind = 1) := fun c => by rw [if_pos c] at hr; exact absurd hr (by decide)
  rw [if_neg c2] at hr
  have c3 : ¬ 0 < (plainN t th).list.length := fun c => by rw [if_pos c] at hr; exact absurd hr (by decide)
  have hv := hvl c3
  refine ⟨hv, ?_⟩
  have hc : cut t dst al = (⟨t.L.filter (fun a => decide (a.num ≠ th)), t.last⟩, 0) := by
    unfold M07.cut
    rw [e0, if_neg (by simpa using h2), if_neg h0, if_neg (by rw [hv]; simp)]
  unfold moveOn
  rw [e0, if_neg hn, if_pos (by omega), if_neg c1, if_neg c2, hc, if_neg (by simp)]
end
end
end Go.Proofs.Ytelphegeeiocnaa.W07
