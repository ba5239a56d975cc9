/-
  Texts joined, in build order, each with its own comment and its own conditions: W07Put2, W07Goal, W07Move2, W07Copy, W07Trees, W04Last, W04Pieces.
-/
import Derived.Test.YtmpjjfhmkfchfaaDoorJ15
import Derived.Test.YtmpjjfhmkfchfaaDoorJ01
import Derived.Test.YtmpjjfhmkfchfaaDoorChecked
import Derived.Lib.AppendStr
import Derived.Test.YtmpjjfhmkfchfaaDoorJ05
import Derived.Lib.Bytealg
/-
  Layer 7 (tree), walks: the landed code's Put and Cut. The bounds stand in the statements.
-/
namespace Go.Proofs.YtmpjjfhmkfchfaaDoor.W07
set_option maxRecDepth 100000
open Go Go.RowKit Go.Proofs.YtmpjjfhmkfchfaaDoor.Strs Go.Proofs.YtmpjjfhmkfchfaaDoor.Recs Go.Proofs.YtmpjjfhmkfchfaaDoor.M07 Go.Proofs.YtmpjjfhmkfchfaaDoor.Maps Go.Proofs.YtmpjjfhmkfchfaaDoor.Range
open Go.Proofs.YtmpjjfhmkfchfaaDoor.M06 (Ent)
open Go.Proofs.YtmpjjfhmkfchfaaDoor.M03 (check)
open Go.Proofs.YtmpjjfhmkfchfaaDoor.W06 (Ents HandsE)
open Go.Proofs.YtmpjjfhmkfchfaaDoor.Kit (ret_str ret_bool ret_int mk_of mk_bytes ba_ext below_draws on list_full list_ne list_none list_nil bytes_nil)

section
variable {F : Nat → Prop} {w w' w1 w2 w3 : World} {v : Value} {t : Tr} {sb mb : Nat} {g : Int → Nod} {lv : Int → Value} {last : Int} {m : Nat}
theorem box_cells (h : RootBox w sb mb last) (o : Nat) : w.cell? ⟨sb, o, none⟩ = (#[.map (some mb), .int .i64 last] : Array Value)[o]? := by
  unfold RootBox at h
  simp [World.cell?, h]
theorem ents_count {B : Nat} {L : List Ent} (h : Ents B w v L) (hb : RootBox w sb mb last) (u : Value) : Ents B (w.setCell ⟨sb, 1, none⟩ u) v L := by
  refine ents_keep h fun b o c d h0 _ e => Below.heap_setCell _ _ _ _ ?_
  subst e
  show b ≠ sb
  rintro rfl
  obtain ⟨A', c', e', -, -⟩ := h.form
  injection e' with e1 e2 e3
  obtain ⟨b', o', hl, s, e, -, -, hc0, -⟩ := W06.Ents.at_ h (k := 0) (by omega)
  cases e
  rw [box_cells hb] at hc0
  match o, hc0 with
  | 0, hc0 => simp at hc0
  | 1, hc0 => simp at hc0
  | o + 2, hc0 => simp at hc0
theorem Mem.count (h : Mem F w sb mb g lv last m) (z : Int) : Mem F (w.setCell ⟨sb, 1, none⟩ (.int .i64 z)) sb mb g lv z m where
  box := h.box.count z
  fs := h.fs
  fm := h.fm
  low := fun k hk => by rw [set_size]; exact h.low k hk
  map := h.map.keep (Below.heap_setCell _ _ _ _ (by show mb ≠ sb; exact fun e => h.apart e.symm))
  zero := h.zero
  list := fun n => by rw [set_size]; exact ents_count (h.list n) h.box _
  at_ := h.at_
theorem place_eq (h : Right t) (d : Int) (s : Bytes) : placeN (plainN t d) s = if dirErr t.L d ≠ 0 then dirErr t.L d else if check s ≠ 0 then check s else if 0 < inDir t.L d s then 6 else 0 := by
  have hd : dirN (plainN t d) = dirErr t.L d := rfl
  have hp := in_pos (L := t.L) (d := d) (s := s) (fun a ha => (h.ends a ha).1)
  unfold placeN
  rw [hd]
  by_cases h0 : dirErr t.L d = 0
  · rw [find_in h s (dir_zero h0)]
    by_cases hi : inDir t.L d s = 0
    · simp [h0, hi]
    · have hi2 : 0 < inDir t.L d s := by omega
      simp [h0, hi, hi2]
  · simp [h0]
theorem put_eq (h : Right t) (d : Int) (s : Bytes) (kind : Int) (x : Bytes) : putErr t d s kind x = if placeN (plainN t d) s ≠ 0 then placeN (plainN t d) s else if mayErr kind x ≠ 0 then mayErr kind x else if 4096 ≤ t.L.length then 12 else 0 := by
  rw [place_eq h]
  unfold putErr
  by_cases h0 : dirErr t.L d = 0
  · by_cases hc : check s = 0
    · by_cases hi : 0 < inDir t.L d s
      · simp [h0, hc, hi]
      · simp [h0, hc, hi]
    · simp [h0, hc]
  · simp [h0]
theorem wrote_put {e : Ending} {er : Int} {d kind : Int} {s x : Bytes} (h : Rep F w v t) (hp : putErr t d s kind x = er) (h0 : er ≠ 0) (he : e = .returned (.tuple #[.int .i64 0, .int .i64 er])) (hb : Below w.heap.size w w') :
    e = .returned (.tuple #[.int .i64 (put t d s kind x).2.1, .int .i64 (put t d s kind x).2.2]) ∧ Wrote Rep F v (put t d s kind x).1 w w' := by
  rw [put_fails hp h0]
  exact ⟨he, h.wrote hb⟩
set_option maxHeartbeats 4000000 in
set_option maxRecDepth 100000 in
theorem put_any (h : Rep F w v t) (hs : Small t) (d : Int) (s : ByteArray) (kind : Int) (x : ByteArray) : Calls Tryd.prog 21 #[v, .int .i64 d, .string s, .int .i64 kind, .string x] w fun e w' => e = .returned (.tuple #[.int .i64 (put t d s.data.toList kind x.data.toList).2.1, .int .i64 (put t d s.data.toList kind x.data.toList).2.2]) ∧ Wrote Rep F v (put t d s.data.toList kind x.data.toList).1 w w' := by
  have hR := Lib.hid h
  obtain ⟨hr, sb, mb, lv, rfl, hM⟩ := h
  have HR := Lib.hid hr
  have H := Lib.hid hM
  have HP := Lib.hid (checkPlace_any hM (plain_short hs) d s)
  have HD := Lib.hid (fun w' : World => checkData_any kind x w')
  have HE := Lib.hid (put_eq hr d s.data.toList kind x.data.toList)
  have hm := hs.1
  have hl2 := hs.2
  have HS := Lib.hid hs
  clear hr hM hs
  by_cases h1 : placeN (plainN t d) s.data.toList = 0
  · have HE : Hid (putErr t d s.data.toList kind x.data.toList = if mayErr kind x.data.toList ≠ 0 then mayErr kind x.data.toList else if 4096 ≤ t.L.length then 12 else 0) := HE.out.trans (if_neg (show ¬ placeN (plainN t d) s.data.toList ≠ 0 from fun e => e h1))
    rw [h1] at HP
    clear h1
    by_cases h2 : mayErr kind x.data.toList = 0
    · have HE : Hid (putErr t d s.data.toList kind x.data.toList = if 4096 ≤ t.L.length then 12 else 0) := HE.out.trans (if_neg (show ¬ mayErr kind x.data.toList ≠ 0 from fun e => e h2))
      rw [h2] at HD
      clear h2
      have hlen := fun (w' : World) (hb : Below w.heap.size w w') ty => (H.out.below hb).map.len (t := 82) map_under ty
      have hbox := fun (w' : World) (hb : Below w.heap.size w w') => (H.out.below hb).box.c0
      by_cases h3 : (4096 : Int) ≤ t.L.length
      · have HX : Hid (putErr t d s.data.toList kind x.data.toList = 12) := HE.out.trans (if_pos (by omega))
        clear HE
        go_enter Tryd.func21, Tryd.ntmps21
        go_wp2_with fail
        refine HP.out.mono ?_
        rintro e w1 ⟨rfl, hb⟩
        have B1 := Lib.hid hb
        clear hb
        go_wp2_with fail
        refine (HD.out _).mono ?_
        rintro e w2 ⟨rfl, hw⟩
        have hw := hw.symm
        subst hw
        have hlen := hlen w1 B1.out
        have c0 := hbox w1 B1.out
        go_wp2_with fail
        go_ret2
        exact wrote_put hR.out HX.out (by decide) rfl B1.out
      · have HX : Hid (putErr t d s.data.toList kind x.data.toList = 0) := HE.out.trans (if_neg (by omega))
        clear HE
        go_enter Tryd.func21, Tryd.ntmps21
        go_wp2_with fail
        refine HP.out.mono ?_
        rintro e w1 ⟨rfl, hb⟩
        have B1 := Lib.hid hb
        clear hb
        go_wp2_with fail
        refine (HD.out _).mono ?_
        rintro e w2 ⟨rfl, hw⟩
        have hw := hw.symm
        subst hw
        have hlen := hlen w1 B1.out
        have c0 := hbox w1 B1.out
        have hnum : ∀ a ∈ t.L, a.num ≠ t.last + 1 := fun a ha => by have := (HR.out.ends a ha).2; omega
        have hl1 : 1 ≤ t.last := by
          obtain ⟨r, hr⟩ := HR.out.root
          have := HR.out.ends ⟨1, 1, [], 1, []⟩ (by rw [hr]; exact List.mem_cons_self)
          exact this.2
        have HPL := Lib.hid (put_plain HR.out HX.out)
        have HPW := Lib.hid (put_works HX.out)
        have HRR := Lib.hid (put_right HR.out (d := d) (kind := kind) (name := s.data.toList) (data := x.data.toList))
        rw [put_works HX.out] at HRR
        have hdk : Hid ((plainN t d).kind ≠ 0) := by
          have h2 : dirErr t.L d = 0 := by
            have h2 := HX.out
            unfold putErr at h2
            split at h2
            · rename_i h3; exact absurd h2 h3
            · rename_i h3; simpa using h3
          show (nodeAt t.L d).kind ≠ 0
          rw [dir_zero h2]; decide
        have hkk : Hid (kind ≠ 0) := fun e => by
          have := HRR.out.kind ⟨t.last + 1, d, s.data.toList, kind, x.data.toList⟩ (by simp)
          exact this e
        have hzk : Hid (held (plainN t) lv (t.last + 1) = none) := by
          show held (plainN t) lv (t.last + 1) = none
          unfold held
          rw [if_pos (by show (nodeAt t.L (t.last + 1)).kind = 0; rw [at_none hnum]; rfl)]
        have HSH := Lib.hid (plain_short HS.out)
        have hwrap : wrap64 (t.last + 1) = t.last + 1 := by unfold wrap64; omega
        have hwf : Hid ((Lit.int .i64 (t.last + 1)).wf = true) := WalkArith.wf_i64 (by omega)
        have M1 := Lib.hid (H.out.below B1.out)
        have c1 := M1.out.box.c1
        have fz := M1.out.box.fr 1
        clear hnum hl1 hl2 HS HX
        generalize plainN t = g at *
        obtain ⟨k, hke⟩ : ∃ k, t.last + 1 = k := ⟨_, rfl⟩
        have hwrap2 : wrap64 (t.last + 1) = k := hwrap.trans hke
        rw [hke] at HPL HRR hzk hwf HPW
        have HKE := Lib.hid hke
        clear hke hwrap
        have M2 := Lib.hid (M1.out.count k)
        obtain ⟨w2, hw2⟩ : ∃ w2, w1.setCell ⟨sb, 1, none⟩ (.int .i64 k) = w2 := ⟨_, rfl⟩
        have T2 : Hid (Turns (fun i => F i ∨ w.heap.size ≤ i) w w2) := by rw [← hw2]; exact (Turns.new B1.out).trans (Turns.setCell _ (Or.inl H.out.fs))
        rw [hw2] at M2
        have d0 := M2.out.box.c0
        have d1 := M2.out.box.c1
        have hmp : MapIs w2.drew Tryd.prog 3 mb (held g lv) t.L.length := M2.out.map.keep rfl
        have hst := hmp.store (t := 82) (e := 81) key_under map_under (by unfold maxLen; omega) (n := k) hwf.out (.agg #[.int .i64 kind, .int .i64 0, .string x, .slice none 0 0])
        obtain ⟨w3, hrun, map3, turn3⟩ := hst
        rw [hzk.out, if_neg (by decide)] at map3
        have M3 := Lib.hid (Mem.stored (M2.out.keep (w' := w2.drew) (fun _ _ => rfl) (Nat.le_refl _)) (n := k) (x := ⟨kind, 0, x.data.toList, []⟩) (u := .slice none 0 0) hkk.out (recs_nil _ _ _ _) (fun b o c d _ e => by cases e) (by
          have e5 : nodV ⟨kind, 0, x.data.toList, []⟩ (.slice none 0 0) = .agg #[.int .i64 kind, .int .i64 0, .string x, .slice none 0 0] := by
            unfold nodV
            rw [show (⟨x.data.toList.toArray⟩ : ByteArray) = x from mk_bytes x]
          rw [e5]; exact map3) turn3)
        have T3 := Lib.hid ((T2.out.trans (drew_turns _ _)).trans (turned_turns turn3 (Or.inl H.out.fm)))
        have HH := Lib.hid (hang_any M3.out (fun i => by
          unfold upd
          split
          · exact Nat.zero_le _
          · exact HSH.out i) (by omega) d s k (by
          unfold upd
          split
          · exact hkk.out
          · exact hdk.out) (by rw [upd_here]; exact hkk.out))
        have f1 := M3.out.box.c1
        clear map3 turn3 hmp T2 M2
        go_wp2_with fail
        clear hw2
        go_region
        clear hrun d0 d1 c0 c1 fz hlen hbox
        go_wp2_with fail
        refine HH.out.mono ?_
        rintro e w4 ⟨rfl, hl⟩
        obtain ⟨F', lv', M4, T4, hF⟩ := hl
        have HM4 := Lib.hid M4
        have g1 := M4.box.c1
        have HT4 := Lib.hid T4
        have HF4 := Lib.hid hF
        clear M4 T4 hF f1
        go_wp2_with fail
        go_ret2
        rw [HPW.out]
        have M4 := HM4.out
        rw [← HPL.out, show t.L.length + 1 = (t.L ++ [(⟨k, d, s.data.toList, kind, x.data.toList⟩ : Nd)]).length by simp] at M4
        have hs3 := T3.out.size
        exact ⟨rfl, F', ⟨HRR.out, sb, mb, lv', rfl, M4⟩, narrow (T3.out.trans (HT4.out.wider fun _ => Or.inl)), fun i hi => (HF4.out i hi).imp id (fun h => Nat.le_trans hs3 h)⟩
    · have HX : Hid (putErr t d s.data.toList kind x.data.toList = mayErr kind x.data.toList) := HE.out.trans (if_pos h2)
      generalize mayErr kind x.data.toList = rc at *
      have H2 := Lib.hid h2
      have s2 : (rc != 0) = true := by simpa using h2
      have s3 : (rc == 0) = false := by simpa using h2
      clear HE h2
      go_enter Tryd.func21, Tryd.ntmps21
      go_wp2_with fail
      refine HP.out.mono ?_
      rintro e w1 ⟨rfl, hb⟩
      have B1 := Lib.hid hb
      clear hb
      go_wp2_with fail
      refine (HD.out _).mono ?_
      rintro e w2 ⟨rfl, hw⟩
      have hw := hw.symm
      subst hw
      go_wp2_with fail
      go_ret2
      exact wrote_put hR.out HX.out H2.out rfl B1.out
  · have HX : Hid (putErr t d s.data.toList kind x.data.toList = placeN (plainN t d) s.data.toList) := HE.out.trans (if_pos h1)
    generalize placeN (plainN t d) s.data.toList = rc at *
    have H1 := Lib.hid h1
    have s2 : (rc != 0) = true := by simpa using h1
    have s3 : (rc == 0) = false := by simpa using h1
    clear HE h1
    go_enter Tryd.func21, Tryd.ntmps21
    go_wp2_with fail
    refine HP.out.mono ?_
    rintro e w1 ⟨rfl, hb⟩
    have B1 := Lib.hid hb
    clear hb
    go_wp2_with fail
    go_ret2
    exact wrote_put hR.out HX.out H1.out rfl B1.out
end
end Go.Proofs.YtmpjjfhmkfchfaaDoor.W07
/-
  Layer 7 (tree): plain mathematics of the landed code's Move: which case is which; what is kept of each node when another one makes room. Lists alone. No condition but those that each theorem bears.
-/
namespace Go.Proofs.YtmpjjfhmkfchfaaDoor.W07
open Go Go.Proofs.YtmpjjfhmkfchfaaDoor.M07 Go.Proofs.YtmpjjfhmkfchfaaDoor.Maps
open Go.Proofs.YtmpjjfhmkfchfaaDoor.M06 (Ent)
open Go.Proofs.YtmpjjfhmkfchfaaDoor.M03 (check lt)
section
variable {t : Tr}
theorem room_plain (h : Right t) {n dst src th : Int} {s : Bytes} {al : Bytes} (hst : Stands t src s n) (hd : (nodeAt t.L dst).kind = 1) (hne : dst ≠ n) (e0 : inDir t.L dst al = th) (h0 : th ≠ 0) (hv : listDir t.L th = []) (hth : th ≠ n) (hin : (nodeAt t.L n).kind = 1 → ¬ Inside t.L n dst) :
    plainN (placed ⟨t.L.filter (fun a => decide (a.num ≠ th)), t.last⟩ (nodeAt t.L n) dst al) = hangN (unhangN (upd (plainN t) th nod0) src s) dst al n ∧ Right (placed ⟨t.L.filter (fun a => decide (a.num ≠ th)), t.last⟩ (nodeAt t.L n) dst al) := by
  have hto : Stands t dst al th := by rw [← e0]; exact in_stands h hd (by rw [e0]; exact h0)
  have hr := cut_right h (d := dst) (name := al)
  have hw : (cut t dst al).1 = ⟨t.L.filter (fun a => decide (a.num ≠ th)), t.last⟩ := by
    unfold M07.cut
    rw [e0, if_neg (by unfold dirErr; rw [hd]; decide), if_neg h0, if_neg (by rw [hv]; simp)]
  have hcp := cut_plain h (s := al) hd (by rw [e0]; exact h0) (by rw [e0]; exact hv)
  rw [hw] at hr
  rw [e0] at hcp
  have hvd := list_void hv
  have hmn := at_some hst.2.2.1
  have hmt := at_some hto.2.2.1
  have h1 : th ≠ src := by
    intro e
    exact hvd _ hmn.1 (by rw [hmn.2]; exact hst.2.1) (by rw [hst.2.2.2.1]; exact e.symm)
  have h2 : th ≠ dst := by
    intro e
    exact hvd _ hmt.1 (by rw [hmt.2]; exact hto.2.1) (by rw [hto.2.2.2.1]; exact e.symm)
  have an : nodeAt (t.L.filter (fun a => decide (a.num ≠ th))) n = nodeAt t.L n := at_filter (Ne.symm hth)
  have ad : nodeAt (t.L.filter (fun a => decide (a.num ≠ th))) dst = nodeAt t.L dst := at_filter (Ne.symm h2)
  have as' : nodeAt (t.L.filter (fun a => decide (a.num ≠ th))) src = nodeAt t.L src := at_filter (Ne.symm h1)
  have hst1 : Stands ⟨t.L.filter (fun a => decide (a.num ≠ th)), t.last⟩ src s n := by
    unfold Stands
    show (nodeAt (t.L.filter _) src).kind = 1 ∧ _ ∧ (nodeAt (t.L.filter _) n).kind ≠ 0 ∧ (nodeAt (t.L.filter _) n).up = src ∧ (nodeAt (t.L.filter _) n).name = s
    rw [an, as']
    exact hst
  have hmem : ∀ {a : Nd}, a ∈ t.L.filter (fun a => decide (a.num ≠ th)) ↔ a ∈ t.L ∧ a.num ≠ th := by
    intro a; rw [List.mem_filter]; simp
  have hno : inDir (t.L.filter (fun a => decide (a.num ≠ th))) dst al = 0 := by
    by_cases hz : inDir (t.L.filter (fun a => decide (a.num ≠ th))) dst al = 0
    · exact hz
    · obtain ⟨b, hb, _, bu, bn, b1⟩ := in_found hz
      obtain ⟨hb, hbo⟩ := hmem.1 hb
      have := h.once b hb _ hmt.1 b1 (by rw [hmt.2]; exact hto.2.1) (by rw [bu, hto.2.2.2.1]) (by rw [bn, hto.2.2.2.2])
      exact absurd (by rw [this]; exact hmt.2) hbo
  have hin1 : (nodeAt (t.L.filter (fun a => decide (a.num ≠ th))) n).kind = 1 → ¬ Inside (t.L.filter (fun a => decide (a.num ≠ th))) n dst := by
    rw [an]
    intro hk hi
    refine hin hk ?_
    have way : ∀ (k : Nat) {m : Int}, (∃ a ∈ t.L, a.num = m ∧ a.num ≠ th) → upN (t.L.filter (fun a => decide (a.num ≠ th))) k m = upN t.L k m := by
      intro k
      induction k with
      | zero => intro m _; rfl
      | succ k ih =>
        rintro m ⟨a, ha, em, ho2⟩
        have e1 : upOf (t.L.filter (fun a => decide (a.num ≠ th))) m = upOf t.L m := by
          unfold upOf; rw [← em, at_filter ho2]
        show upN _ k (upOf _ m) = upN t.L k (upOf t.L m)
        rw [e1]
        obtain ⟨b, hb, eb, _⟩ := h.up_mem ha
        refine ih ⟨b, hb, by rw [← em, h.upOf_ ha, eb], ?_⟩
        rw [eb]
        by_cases ha1 : a.num = 1
        · rw [root_is h ha ha1]; exact fun e => hto.2.1 e.symm
        · exact hvd a ha ha1
    obtain ⟨j, hj, hb⟩ := hi
    have hds := at_some (L := t.L) (n := dst) (by rw [hd]; decide)
    have md : ∃ a ∈ t.L, a.num = dst ∧ a.num ≠ th := ⟨_, hds.1, hds.2, by rw [hds.2]; exact Ne.symm h2⟩
    rw [way j md] at hj
    exact ⟨j, hj, fun i hi => by have := hb i hi; rw [way i md] at this; exact this⟩
  have hp := placed_plain hr (dst := dst) (al := al) hst1 (by show (nodeAt (t.L.filter _) dst).kind = 1; rw [ad]; exact hd) hne hno hin1
  have hpr : Right (placed ⟨t.L.filter (fun a => decide (a.num ≠ th)), t.last⟩ (nodeAt t.L n) dst al) := placed_right hr (x := nodeAt t.L n) (hmem.2 ⟨hmn.1, by rw [hmn.2]; exact Ne.symm hth⟩) (by rw [hmn.2]; exact hst.2.1) (by show (nodeAt (t.L.filter _) dst).kind = 1; rw [ad]; exact hd) hno (by rw [hmn.2]; intro hk; exact hin1 (by rw [an]; exact hk))
  refine ⟨?_, hpr⟩
  rw [show nodeAt (⟨t.L.filter (fun a => decide (a.num ≠ th)), t.last⟩ : Tr).L n = nodeAt t.L n from an, hcp] at hp
  rw [hp]
  exact replace_plain (plain_right t) h1 h2 hth hne
/-- a node in whose place a directory stands is a directory -/
theorem inside_dir (h : Right t) {n dst : Int} (hd : (nodeAt t.L dst).kind = 1) (hi : Inside t.L n dst) : (nodeAt t.L n).kind = 1 := by
  obtain ⟨j, e, -⟩ := hi
  have hds := at_some (L := t.L) (n := dst) (by rw [hd]; decide)
  cases j with
  | zero => rw [← show dst = n from e]; exact hd
  | succ j =>
    obtain ⟨a, ha, e1, e2⟩ := up_member h (j + 1) ⟨_, hds.1, hds.2⟩
    rw [← e, ← e1, h.at_ ha]
    exact e2 (by omega)
/-! Move, case by case -/
section
variable {src dst : Int} {s : Bytes} {al : Bytes}
theorem move_src (h1 : dirErr t.L src ≠ 0) : M07.move t src s dst al = (t, dirErr t.L src) := by
  have e : moveErr t.L src s dst al = dirErr t.L src := if_pos h1
  unfold M07.move; rw [e, if_pos h1]
theorem move_dst (h1 : dirErr t.L src = 0) (h2 : dirErr t.L dst ≠ 0) : M07.move t src s dst al = (t, dirErr t.L dst) := by
  have e : moveErr t.L src s dst al = dirErr t.L dst := (if_neg (by simpa using h1)).trans (if_pos h2)
  unfold M07.move; rw [e, if_pos h2]
theorem move_gone (h1 : dirErr t.L src = 0) (h2 : dirErr t.L dst = 0) (h3 : inDir t.L src s = 0) : M07.move t src s dst al = (t, 5) := by
  have e : moveErr t.L src s dst al = 5 := (if_neg (by simpa using h1)).trans ((if_neg (by simpa using h2)).trans (if_pos h3))
  unfold M07.move; rw [e, if_pos (by decide)]
theorem move_name (h1 : dirErr t.L src = 0) (h2 : dirErr t.L dst = 0) (h3 : inDir t.L src s ≠ 0) (h4 : check al ≠ 0) : M07.move t src s dst al = (t, check al) := by
  have e : moveErr t.L src s dst al = check al := (if_neg (by simpa using h1)).trans ((if_neg (by simpa using h2)).trans (if_neg h3))
  unfold M07.move; rw [e, if_pos h4]
theorem move_err (h1 : dirErr t.L src = 0) (h2 : dirErr t.L dst = 0) (h3 : inDir t.L src s ≠ 0) (h4 : check al = 0) : moveErr t.L src s dst al = 0 :=
  ((if_neg (by simpa using h1)).trans ((if_neg (by simpa using h2)).trans (if_neg h3))).trans h4
theorem move_in (h : Right t) (h1 : dirErr t.L src = 0) (h2 : dirErr t.L dst = 0) (h3 : inDir t.L src s ≠ 0) (h4 : check al = 0) (h5 : Inside t.L (inDir t.L src s) dst) : M07.move t src s dst al = (t, 14) := by
  have e := move_err h1 h2 h3 h4
  unfold M07.move; rw [e, if_neg (by simp), if_pos ⟨inside_dir h (dir_zero h2) h5, h5⟩]
theorem move_on (h1 : dirErr t.L src = 0) (h2 : dirErr t.L dst = 0) (h3 : inDir t.L src s ≠ 0) (h4 : check al = 0) (h5 : ¬ Inside t.L (inDir t.L src s) dst) : M07.move t src s dst al = moveOn t (inDir t.L src s) dst al := by
  have e := move_err h1 h2 h3 h4
  unfold M07.move; rw [e, if_neg (by simp), if_neg (fun e => h5 e.2)]
theorem on_same {n : Int} (h : inDir t.L dst al = n) : moveOn t n dst al = (t, 0) := if_pos h
theorem on_free {n : Int} (h0 : inDir t.L dst al = 0) (hn : n ≠ 0) : moveOn t n dst al = (placed t (nodeAt t.L n) dst al, 0) := by
  unfold moveOn; rw [if_neg (by rw [h0]; exact Ne.symm hn), if_neg (by omega)]
end
end
end Go.Proofs.YtmpjjfhmkfchfaaDoor.W07
/-
  Layer 7 (tree), walks: the landed code's Move. The bounds stand in the statements.
-/
namespace Go.Proofs.YtmpjjfhmkfchfaaDoor.W07
open Go Go.RowKit Go.Proofs.YtmpjjfhmkfchfaaDoor.Strs Go.Proofs.YtmpjjfhmkfchfaaDoor.Recs Go.Proofs.YtmpjjfhmkfchfaaDoor.M07 Go.Proofs.YtmpjjfhmkfchfaaDoor.Maps Go.Proofs.YtmpjjfhmkfchfaaDoor.Range
open Go.Proofs.YtmpjjfhmkfchfaaDoor.M06 (Ent)
open Go.Proofs.YtmpjjfhmkfchfaaDoor.M03 (check)
open Go.Proofs.YtmpjjfhmkfchfaaDoor.W06 (Ents HandsE)
open Go.Proofs.YtmpjjfhmkfchfaaDoor.Kit (ret_str ret_bool ret_int mk_of mk_bytes ba_ext below_draws on list_full list_ne list_none list_nil bytes_nil)

section
variable {F : Nat → Prop} {w w' w1 w2 w3 : World} {v : Value} {t : Tr} {sb mb : Nat} {g : Int → Nod} {lv : Int → Value} {last : Int} {m : Nat}
theorem unhang_short (hs : Short g) (d : Int) (s : Bytes) : Short (unhangN g d s) := fun n => by
  unfold unhangN upd
  split
  · exact Nat.le_trans (M06.cut_len _ _) (hs d)
  · exact hs n
theorem drop_short (hs : Short g) (d : Int) : Short (upd g d nod0) := fun n => by
  unfold upd
  split
  · exact Nat.zero_le _
  · exact hs n
end
end Go.Proofs.YtmpjjfhmkfchfaaDoor.W07
/-
  Layer 7 (tree), walks: the landed code's Copy: a map filled in whatever order another one is gone through. The bounds stand in the statements.
-/
namespace Go.Proofs.YtmpjjfhmkfchfaaDoor.W07
open Go Go.RowKit Go.Proofs.YtmpjjfhmkfchfaaDoor.Strs Go.Proofs.YtmpjjfhmkfchfaaDoor.Recs Go.Proofs.YtmpjjfhmkfchfaaDoor.M07 Go.Proofs.YtmpjjfhmkfchfaaDoor.Maps Go.Proofs.YtmpjjfhmkfchfaaDoor.Range
open Go.Proofs.YtmpjjfhmkfchfaaDoor.M06 (Ent)
open Go.Proofs.YtmpjjfhmkfchfaaDoor.M03 (check)
open Go.Proofs.YtmpjjfhmkfchfaaDoor.W06 (Ents HandsE)
open Go.Proofs.YtmpjjfhmkfchfaaDoor.Kit (ret_str ret_bool ret_int mk_of mk_bytes ba_ext below_draws on list_full list_ne list_none list_nil bytes_nil)

section
variable {F : Nat → Prop} {w wr w1 w2 w3 w4 w5 : World} {v : Value} {t : Tr} {sb mb : Nat} {g : Int → Nod} {lv lv' : Int → Value} {last : Int} {m sz cnt cnt' : Nat} {left : Int → Bool}
/-- what the copy holds so far -/
structure CopyAt (w wr : World) (g : Int → Nod) (lv' : Int → Value) (left : Int → Bool) (m sz cnt : Nat) : Prop where
  map : MapIs wr Tryd.prog 3 w.heap.size (fun i => if left i = true then none else held g lv' i) sz
  size : sz + cnt ≤ m
  list : ∀ i, (g i).kind ≠ 0 → left i = false → Ents wr.heap.size wr (lv' i) (g i).list
  at_ : ∀ i b o c d, (g i).kind ≠ 0 → left i = false → 0 < (g i).list.length → lv' i = .slice (some ⟨b, o, none⟩) c d → w.heap.size + 1 < b
  below : Below w.heap.size w wr
  next : w.heap.size + 1 < wr.heap.size
theorem CopyAt.start (hg : (w.alloc (.map #[] 0)).grownBy w1 none) (hs : w1.heap.size = w.heap.size + 2) : CopyAt w w1 g (fun _ => .slice none 0 0) (fun i => (held g lv i).isSome) m 0 m where
  map := ((map_made w Tryd.prog 3).keep (hg.block _ (by simp) (by simp))).as (fun i => by
    by_cases e : (g i).kind = 0
    · simp [held, e]
    · simp [held, e]) rfl
  size := by omega
  list := fun i hk hl => by simp [held, hk] at hl
  at_ := fun i b o c d hk hl => by simp [held, hk] at hl
  below := ((Below.refl w.heap.size w).alloc (Nat.le_refl _) _).grown hg (by simp) (fun k hk => by cases hk)
  next := by omega
theorem CopyAt.map4 (h : CopyAt w wr g lv' left m sz cnt) (hg : wr.grownBy w1 (some (w.heap.size + 1))) (hs1 : w1.heap.size = wr.heap.size) (hb : Below w1.heap.size w1 w4) : MapIs w4 Tryd.prog 3 w.heap.size (fun i => if left i = true then none else held g lv' i) sz := by
  have h1 := h.next
  exact h.map.keep ((hb.block _ (by omega)).trans (hg.block _ (by omega) (by intro e; injection e with e; omega)))
theorem CopyAt.below1 (h : CopyAt w wr g lv' left m sz cnt) (hg : wr.grownBy w1 (some (w.heap.size + 1))) : Below w.heap.size w w1 := by
  have h1 := h.next
  exact h.below.grown hg (by omega) (fun k hk => by cases hk; omega)
theorem CopyAt.step {n : Int} {u : Value} (h : CopyAt w wr g lv' left m sz cnt) (hg : wr.grownBy w1 (some (w.heap.size + 1))) (hs1 : w1.heap.size = wr.heap.size) (hb : Below w1.heap.size w1 w4) (hu : Ents w4.heap.size w4 u (g n).list)
    (hn : ∀ b o c d, u = .slice (some ⟨b, o, none⟩) c d → w1.heap.size ≤ b) (hk : (g n).kind ≠ 0) (hmap : MapIs w5 Tryd.prog 3 w.heap.size (upd (fun i => if left i = true then none else held g lv' i) n (some (nodV (g n) u))) (sz + 1)) (ht : w4.mapTurned w5 w.heap.size) (hc : cnt' < cnt) :
    CopyAt w w5 g (upd lv' n u) (upd left n false) m (sz + 1) cnt' := by
  have hnx := h.next
  have hg5 := ht.grown
  have hs4 := hb.size
  have hs5 := hg5.size
  refine ⟨hmap.as (fun i => ?_) rfl, by have := h.size; omega, fun i hi hl => ?_, fun i b o c d hi hl h0 e => ?_, ?_, by omega⟩
  · unfold upd held
    by_cases e : i = n
    · subst e; simp [hk]
    · simp [e]
  · unfold upd at hl ⊢
    by_cases e : i = n
    · subst e
      rw [if_pos rfl]
      refine (ents_keep hu fun b o c d _ _ e2 => hg5.block b ?_ ?_).more hs5
      · assumption
      · have := hn b o c d e2
        intro e3; injection e3 with e3; omega
    · rw [if_neg e] at hl ⊢
      refine (ents_keep (h.list i hi hl) fun b o c d h0 hlt e2 => ?_).more (by omega)
      have hb1 := h.at_ i b o c d hi hl h0 e2
      rw [hg5.block b (by omega) (by intro e3; injection e3 with e3; omega), hb.block b (by omega), hg.block b hlt (by intro e3; injection e3 with e3; omega)]
  · unfold upd at hl e
    by_cases e1 : i = n
    · rw [if_pos e1] at e
      have := hn b o c d e
      omega
    · rw [if_neg e1] at hl e
      exact h.at_ i b o c d hi hl h0 e
  · exact ((h.below1 hg).trans (hb.mono (by omega))).grown hg5 (by omega) (fun k hk => by cases hk; exact Nat.le_refl _)
theorem copy_end (h : CopyAt w wr g lv' left m sz cnt) (hl : ∀ n, left n = false) (H : Mem F w sb mb g lv last m) : Mem (fun k => w.heap.size ≤ k ∧ k < wr.heap.size + 1) (wr.alloc (.cells #[.map (some w.heap.size), .int .i64 last] 84)) wr.heap.size w.heap.size g (fun i => if (g i).kind = 0 then .slice none 0 0 else lv' i) last m := by
  have hmap := h.map
  have hlv : ∀ i, (if left i = true then none else held g lv' i) = held g (fun i => if (g i).kind = 0 then .slice none 0 0 else lv' i) i := fun i => by
    rw [hl i, if_neg (by simp)]
    unfold held
    by_cases e : (g i).kind = 0
    · rw [if_pos e, if_pos e]
    · rw [if_neg e, if_neg e]
      show _ = some (nodV (g i) (if (g i).kind = 0 then _ else _))
      rw [if_neg e]
  have hm2 := hmap.as hlv rfl
  have hsz : m = sz := by
    have hsome : ∀ (l1 l2 : Int → Value) n, (held g l1 n).isSome = true → (held g l2 n).isSome = true := fun l1 l2 n => by
      unfold held
      split
      · intro e; cases e
      · intro _; rfl
    have h1 := H.map.one_size hm2 key_under (hsome _ _)
    have h2 := hm2.one_size H.map key_under (hsome _ _)
    omega
  have hnx := h.next
  have ha : Below wr.heap.size wr (wr.alloc (.cells #[.map (some w.heap.size), .int .i64 last] 84)) := (Below.refl _ _).alloc (Nat.le_refl _) _
  refine ⟨heap_top _ _, ⟨by omega, by omega⟩, ⟨by omega, by omega⟩, fun k hk => by rw [World.size_alloc]; exact hk.2, (hm2.alloc _).as (fun _ => rfl) hsz.symm, fun n hn => ⟨(H.zero n hn).1, if_pos hn⟩, fun n => ?_, fun n b o c d h0 e => ?_⟩
  · by_cases e : (g n).kind = 0
    · show Ents _ _ (if (g n).kind = 0 then _ else _) _
      rw [if_pos e, (H.zero n e).1]; exact recs_nil _ _ _ _
    · show Ents _ _ (if (g n).kind = 0 then _ else _) _
      rw [if_neg e]; exact ((h.list n e (hl n)).below ha).more ha.size
  · have e : (if (g n).kind = 0 then .slice none 0 0 else lv' n) = Value.slice (some ⟨b, o, none⟩) c d := e
    by_cases e1 : (g n).kind = 0
    · rw [if_pos e1] at e; cases e
    · rw [if_neg e1] at e
      have h1 := h.at_ n b o c d e1 (hl n) h0 e
      have hE := h.list n e1 (hl n)
      rw [e] at hE
      obtain ⟨A', c', e', -, -⟩ := hE.form
      injection e' with e4 e5 e6
      obtain ⟨b', o', hl2, e7, hb', -⟩ := Recs.flat_ hE W06.entC_len (by omega) (k := 0) (by omega)
      cases e7
      exact ⟨by omega, by omega⟩
theorem Going.keep2 {r : Nat} {f : Int → Option Value} (h : Going w1 Tryd.prog 3 mb r f m left cnt) (hb : Below w1.heap.size w1 w4) (ht : w4.mapTurned w5 sb) (h1 : mb ≠ sb) (h2 : r ≠ sb) : Going w5 Tryd.prog 3 mb r f m left cnt := by
  have hg := ht.grown
  have hs := hb.size
  have a1 := h.is.lt
  have a2 := h.lt
  exact h.keep ((hg.block _ (by omega) (by intro e; injection e with e; exact h1 e)).trans (hb.block _ a1)) ((hg.block _ (by omega) (by intro e; injection e with e; exact h2 e)).trans (hb.block _ a2))
end
end Go.Proofs.YtmpjjfhmkfchfaaDoor.W07
/-
  Layer 7 (tree): the landed code keeps the contracts that are asked of it ('Trees'); the calls of a nil pointer.
-/
namespace Go.Proofs.YtmpjjfhmkfchfaaDoor.W07
set_option maxRecDepth 100000
open Go Go.RowKit Go.Proofs.YtmpjjfhmkfchfaaDoor.Strs Go.Proofs.YtmpjjfhmkfchfaaDoor.Recs Go.Proofs.YtmpjjfhmkfchfaaDoor.M07 Go.Proofs.YtmpjjfhmkfchfaaDoor.Maps Go.Proofs.YtmpjjfhmkfchfaaDoor.Range
open Go.Proofs.YtmpjjfhmkfchfaaDoor.M06 (Ent)
open Go.Proofs.YtmpjjfhmkfchfaaDoor.M03 (check)
open Go.Proofs.YtmpjjfhmkfchfaaDoor.W06 (Ents HandsE)
open Go.Proofs.YtmpjjfhmkfchfaaDoor.Kit (ret_str ret_bool ret_int mk_of mk_bytes ba_ext below_draws on list_full list_ne list_none list_nil bytes_nil)

theorem trees : Trees Rep where
  keep := fun h hk hs => h.keep hk hs
  low := fun h => h.low
  right := fun h => h.1
  new := new_any
  kind := fun h _ n => by obtain ⟨-, sb, mb, lv, rfl, hM⟩ := h; exact kind_any hM n
  data := fun h _ n => by obtain ⟨-, sb, mb, lv, rfl, hM⟩ := h; exact data_any hM n
  up := fun h _ n => by obtain ⟨-, sb, mb, lv, rfl, hM⟩ := h; exact up_any hM n
  lists := fun {F w v t} h hs n => by
    obtain ⟨-, sb, mb, lv, rfl, hM⟩ := h
    have hl := plain_short hs n
    refine (list_any hM n (by omega)).mono ?_
    rintro e w' ⟨u, he, hu, hn, hb⟩
    exact ⟨u, he, hu, fun b o n c e2 => Or.inr (hn b o n c e2), hb⟩
  put := fun h hs d s kind x _ => put_any h hs d s kind x

/-! the calls of a nil pointer -/
def TellsN (u : Value) (w : World) (e : Ending) (w' : World) : Prop := e = .returned u ∧ Below w.heap.size w w'
theorem node_nil (n : Int) (w : World) : Calls Tryd.prog 55 #[.pointer none, .int .i64 n] w fun e w' => e = .returned (.agg #[.int .i64 0, .int .i64 0, .string ⟨#[]⟩, .slice none 0 0]) ∧ Below w.heap.size w w' := by
  go_enter Tryd.func55, Tryd.ntmps55
  go_wp2_with fail
  refine bodyPost_ret_by (v := .agg #[.int .i64 0, .int .i64 0, .string ⟨#[]⟩, .slice none 0 0]) ?_ rfl ⟨rfl, ?_⟩
  · rw [results_cell_one rfl]
    go_simp
  · exact (Below.refl _ _).alloc (Nat.le_refl _) _
theorem kind_nil (w : World) (n : Int) : Calls Tryd.prog 31 #[.pointer none, .int .i64 n] w (TellsN (.int .i64 0) w) := by
  have HC := Lib.hid (node_nil n w)
  have hf := nod_kind 0 0 ⟨#[]⟩ none 0 0
  go_enter Tryd.func31, Tryd.ntmps31
  go_wp2_with fail
  refine HC.out.mono ?_
  rintro e w1 ⟨rfl, hb⟩
  go_wp2_with fail
  go_ret
  exact ⟨rfl, hb⟩
theorem data_nil (w : World) (n : Int) : Calls Tryd.prog 50 #[.pointer none, .int .i64 n] w (TellsN (.string ⟨#[]⟩) w) := by
  have HC := Lib.hid (node_nil n w)
  have hf := nod_data 0 0 ⟨#[]⟩ none 0 0
  go_enter Tryd.func50, Tryd.ntmps50
  go_wp2_with fail
  refine HC.out.mono ?_
  rintro e w1 ⟨rfl, hb⟩
  go_wp2_with fail
  go_ret
  exact ⟨rfl, hb⟩
theorem up_nil (w : World) (n : Int) : Calls Tryd.prog 32 #[.pointer none, .int .i64 n] w (TellsN (.int .i64 0) w) := by
  have HC := Lib.hid (node_nil n w)
  have hf := nod_up 0 0 ⟨#[]⟩ none 0 0
  go_enter Tryd.func32, Tryd.ntmps32
  go_wp2_with fail
  refine HC.out.mono ?_
  rintro e w1 ⟨rfl, hb⟩
  go_wp2_with fail
  go_ret
  exact ⟨rfl, hb⟩
theorem list_nil_tree (w : World) (n : Int) : Calls Tryd.prog 37 #[.pointer none, .int .i64 n] w fun e w' => ∃ A c, TellsN (.slice A 0 c) w e w' := by
  have HC := Lib.hid (node_nil n w)
  have HCL := Lib.hid (fun w' : World => clone_any (w := w') (.slice none 0 0) [] (recs_nil _ _ _ _) (by simp))
  have hf := nod_list 0 0 ⟨#[]⟩ none 0 0
  go_enter Tryd.func37, Tryd.ntmps37
  go_wp2_with fail
  refine HC.out.mono ?_
  rintro e w1 ⟨rfl, hb⟩
  have B1 := Lib.hid hb
  clear hb
  go_wp2_with fail
  refine (HCL.out w1).mono ?_
  rintro e w2 ⟨u, rfl, hu, -, hb⟩
  have B2 := Lib.hid (on B1.out hb)
  obtain ⟨A, c, rfl⟩ := W06.none_form hu
  clear hu hb
  go_wp2_with fail
  go_ret
  exact ⟨A, c, rfl, B2.out⟩
theorem checkDir_nil (w : World) (n : Int) : Calls Tryd.prog 63 #[.pointer none, .int .i64 n] w (TellsN (.int .i64 1) w) := by
  go_enter Tryd.func63, Tryd.ntmps63
  go_wp2_with fail
  go_ret
  exact ⟨rfl, Below.refl _ _⟩
theorem checkPlace_nil (w : World) (n : Int) (s : ByteArray) : Calls Tryd.prog 44 #[.pointer none, .int .i64 n, .string s] w (TellsN (.int .i64 1) w) := by
  have HC := Lib.hid (checkDir_nil w n)
  go_enter Tryd.func44, Tryd.ntmps44
  go_wp2_with fail
  refine HC.out.mono ?_
  rintro e w1 ⟨rfl, hb⟩
  go_wp2_with fail
  go_ret
  exact ⟨rfl, hb⟩
theorem put_nil (w : World) (d : Int) (s : ByteArray) (k : Int) (x : ByteArray) : Calls Tryd.prog 21 #[.pointer none, .int .i64 d, .string s, .int .i64 k, .string x] w (TellsN (.tuple #[.int .i64 0, .int .i64 1]) w) := by
  have HC := Lib.hid (checkPlace_nil w d s)
  go_enter Tryd.func21, Tryd.ntmps21
  go_wp2_with fail
  refine HC.out.mono ?_
  rintro e w1 ⟨rfl, hb⟩
  go_wp2_with fail
  go_ret2
  exact ⟨rfl, hb⟩
end Go.Proofs.YtmpjjfhmkfchfaaDoor.W07
/-
  The place of the last slash in a text and in a row of bytes: what Go's strings.LastIndexByte and bytes.LastIndexByte return at a slash. No condition but those that each theorem bears.
-/
namespace Go.Proofs.YtmpjjfhmkfchfaaDoor.W04
set_option maxRecDepth 100000
open Go Go.RowKit
open Go.Proofs.YtmpjjfhmkfchfaaDoor.Kit (ret_str ret_bool ret_int byte_eq byte_ne drop_next drop_end)

/-- the place of the last slash; -1 where there is none -/
def lastSlash (l : List UInt8) : Int := if (47 : UInt8) ∈ l then ((l.length - 1 - (l.reverse.idxOf 47) : Nat) : Int) else -1
theorem last_at {l : List UInt8} {k : Nat} (hk : k < l.length) (h : l.getD k 0 = 47) (h2 : (47 : UInt8) ∉ l.drop (k + 1)) : lastSlash l = k := by
  have e : l = l.take k ++ 47 :: l.drop (k + 1) := by
    conv => lhs; rw [← List.take_append_drop k l, List.drop_eq_getElem_cons hk]
    rw [List.getD_eq_getElem?_getD, List.getElem?_eq_getElem hk] at h
    simp at h
    rw [h]
  have hm : (47 : UInt8) ∈ l := by rw [e]; simp
  have hr : l.reverse = (l.drop (k + 1)).reverse ++ 47 :: (l.take k).reverse := by conv => lhs; rw [e]; simp
  have hi : l.reverse.idxOf 47 = (l.drop (k + 1)).length := by
    rw [hr, List.idxOf_append, if_neg (by simpa using h2)]
    simp
  unfold lastSlash
  rw [if_pos hm, hi, List.length_drop]
  congr 1; omega
theorem last_none {l : List UInt8} (h : (47 : UInt8) ∉ l) : lastSlash l = -1 := by unfold lastSlash; rw [if_neg h]
theorem last_le (l : List UInt8) : -1 ≤ lastSlash l ∧ lastSlash l ≤ l.length := by unfold lastSlash; split <;> omega
theorem drop_zero_no {l : List UInt8} (h : (47 : UInt8) ∉ l.drop 0) : (47 : UInt8) ∉ l := by simpa using h
theorem drop_more {s : ByteArray} {k : Nat} (hk : k < s.size) (h : (47 : UInt8) ∉ s.data.toList.drop (k + 1)) (hc : ¬ s[k] = 47) : (47 : UInt8) ∉ s.data.toList.drop k := by
  rw [drop_next s k hk]
  simp only [List.mem_cons, not_or]
  exact ⟨fun e => hc e.symm, h⟩

theorem cells_get (d : ByteArray) (k : Nat) (hk : k < d.size) : (Lib.strCells d)[k]? = some (.int .u8 (d[k].toNat : Int)) := by
  have h2 : k < d.data.toList.length := by rw [← Lib.size_eq]; exact hk
  unfold Lib.strCells
  rw [List.getElem?_map, List.getElem?_eq_getElem h2]
  rfl
theorem add_zero_at (g k : Nat) : (⟨g, 0, none⟩ : Addr).add k = ⟨g, k, none⟩ := by unfold Addr.add; split <;> simp_all
theorem last_bytes (g n cap base : Nat) (d : ByteArray) (hd : d.size = n) (hc : n ≤ cap) (hm : cap ≤ maxLen) (w : World) (hr : w.ownsRow base 5 1 (.slice (some ⟨g, 0, none⟩) n cap) n (Lib.strCells d)) :
    Calls Tryd.prog 79 #[.slice (some ⟨g, 0, none⟩) n cap, .int .u8 47] w fun e w' => e = .returned (.int .i64 (lastSlash d.data.toList)) ∧ ∃ m, w' = w.drewN m := by
  subst hd
  unfold maxLen at hm
  have HC : Hid (∀ k : Nat, (hk : k < d.size) → w.cell? ⟨g, k, none⟩ = some (.int .u8 (d[k].toNat : Int))) := by
    show ∀ k : Nat, (hk : k < d.size) → _
    intro k hk
    have := hr.cells (g := g) rfl k _ (cells_get d k hk)
    rw [add_zero_at] at this
    exact this
  clear hr
  have H : Hid (Calls Tryd.prog 86 #[.slice (some ⟨g, 0, none⟩) d.size cap, .int .u8 47] w fun e w' => e = .returned (.int .i64 (lastSlash d.data.toList)) ∧ ∃ m, w' = w.drewN m) := by
    show Calls _ _ _ _ _
    have HL : Hid (∀ k : Nat, (hk : k < d.size) → d[k] = 47 → (47 : UInt8) ∉ d.data.toList.drop (k + 1) → lastSlash d.data.toList = k) := by
      show ∀ k : Nat, (hk : k < d.size) → d[k] = 47 → (47 : UInt8) ∉ d.data.toList.drop (k + 1) → lastSlash d.data.toList = k
      intro k hk h1 h2
      exact last_at (by rw [← Lib.size_eq]; exact hk) (by rw [Kit.byte_get d k hk]; exact h1) h2
    have HN : Hid ((47 : UInt8) ∉ d.data.toList.drop 0 → lastSlash d.data.toList = -1) := fun h => last_none (drop_zero_no h)
    have HM := Lib.hid (fun (k : Nat) => @drop_more d k)
    have H0 : Hid ((47 : UInt8) ∉ d.data.toList.drop d.size) := by
      show (47 : UInt8) ∉ d.data.toList.drop d.size
      rw [drop_end d d.size (Nat.lt_irrefl _)]; simp
    generalize lastSlash d.data.toList = r at *
    go_enter Tryd.func86, Tryd.ntmps86
    go_wp2
    go_loopw [5] (fun i wr => ∃ k m : Nat, k ≤ d.size ∧ i = .int .i64 ((k : Int) - 1) ∧ wr = w.drewN m ∧ Hid ((47 : UInt8) ∉ d.data.toList.drop k)) (fun i _ => (intOf i + 1).toNat)
    case atStart => exact ⟨d.size, 0, Nat.le_refl _, rfl, rfl, H0⟩
    case round =>
      obtain ⟨k, m, hk, rfl, rfl, hd⟩ := hrel
      cases k with
      | zero =>
        have HX : Hid (r = -1) := HN.out hd.out
        clear HL HN HM H0 hd
        go_wp2
        go_ret
        exact ⟨ret_int HX.out.symm, m, rfl⟩
      | succ k =>
        have e1 : ((k + 1 : Nat) : Int) - 1 = k := by omega
        rw [e1]
        have hlt : k < d.size := hk
        have hcell := HC.out k hlt
        clear e1
        by_cases h47 : (d[k].toNat : Int) = 47
        · have HX : Hid (r = k) := HL.out k hlt (byte_eq (d := 47) h47) hd.out
          have t47 : ((d[k].toNat : Int) == 47) = true := by simp [h47]
          clear h47 HL HN HM H0 hd
          go_wp2
          go_ret
          exact ⟨ret_int HX.out.symm, _, rfl⟩
        · have HX : Hid ((47 : UInt8) ∉ d.data.toList.drop k) := HM.out k hlt hd.out (byte_ne (d := 47) h47)
          have t47 : ((d[k].toNat : Int) == 47) = false := by simp [h47]
          clear h47 HL HN HM H0 hd
          go_wp2
          go_roundw
          case rel => exact ⟨k, _, by omega, rfl, rfl, HX⟩
          case measure => simp [intOf]
  go_enter Tryd.func79, Tryd.ntmps79
  go_wp2_with fail
  refine (H.out).mono ?_
  rintro e w1 ⟨rfl, m, rfl⟩
  go_wp2_with fail
  go_ret
  exact ⟨rfl, m, rfl⟩
end Go.Proofs.YtmpjjfhmkfchfaaDoor.W04
/-
  Layer 4 (path), plain mathematics: a text cut at each slash; its parts are those of the pieces that are neither empty nor one point. No condition but those that each theorem bears.
-/
namespace Go.Proofs.YtmpjjfhmkfchfaaDoor.M04
open Go
open Go.Proofs.YtmpjjfhmkfchfaaDoor.Kit (mk_bytes mk_of drop_bytes take_bytes ba_ext)

/-- what stands between the slashes -/
def pieces : Bytes → List Bytes
  | [] => [[]]
  | c :: r => if c = 47 then [] :: pieces r else (match pieces r with
    | [] => [[c]]
    | p :: q => (c :: p) :: q)
theorem pieces_ne (l : Bytes) : pieces l ≠ [] := by
  cases l with
  | nil => simp [pieces]
  | cons c r =>
    unfold pieces
    split
    · simp
    · split <;> simp
theorem pieces_slash (r : Bytes) : pieces (47 :: r) = [] :: pieces r := by rw [pieces, if_pos rfl]
theorem pieces_other {c : UInt8} (h : c ≠ 47) (r : Bytes) : ∃ p q, pieces r = p :: q ∧ pieces (c :: r) = (c :: p) :: q := by
  cases hp : pieces r with
  | nil => exact absurd hp (pieces_ne r)
  | cons p q => exact ⟨p, q, rfl, by rw [pieces, if_neg h, hp]⟩
theorem pieces_whole : ∀ (l : Bytes), (47 : UInt8) ∉ l → pieces l = [l]
  | [], _ => rfl
  | c :: r, h => by
    simp only [List.mem_cons, not_or] at h
    obtain ⟨p, q, e1, e2⟩ := pieces_other (c := c) (fun e => h.1 e.symm) r
    rw [pieces_whole r h.2] at e1
    injection e1 with e1 e3
    rw [e2, ← e1, ← e3]
theorem pieces_cut : ∀ (a r : Bytes), (47 : UInt8) ∉ a → pieces (a ++ 47 :: r) = a :: pieces r
  | [], r, _ => pieces_slash r
  | c :: a, r, h => by
    simp only [List.mem_cons, not_or] at h
    obtain ⟨p, q, e1, e2⟩ := pieces_other (c := c) (fun e => h.1 e.symm) (a ++ 47 :: r)
    rw [pieces_cut a r h.2] at e1
    injection e1 with e1 e3
    show pieces (c :: (a ++ 47 :: r)) = _
    rw [e2, ← e1, ← e3]
/-- whether a piece is a part -/
def keeps (p : Bytes) : Bool := p != [] && p != [46]
theorem flush_keeps (p : Bytes) : flush p = if keeps p = true then [p] else [] := by
  unfold flush keeps
  by_cases h1 : p = [] <;> by_cases h2 : p = [46] <;> simp [h1, h2]
theorem pgo_pieces : ∀ (l now : Bytes) (p : Bytes) (q : List Bytes), pieces l = p :: q → pgo l now = ((now ++ p) :: q).filter keeps
  | [], now, p, q, h => by
    injection h with h1 h2
    subst h1 h2
    rw [pgo, flush_keeps, List.append_nil, List.filter_cons, List.filter_nil]
  | c :: r, now, p, q, h => by
    unfold pgo
    split
    · rename_i hc
      subst hc
      rw [pieces_slash] at h
      injection h with h1 h2
      subst h1
      obtain ⟨p2, q2, e⟩ : ∃ p2 q2, pieces r = p2 :: q2 := by
        cases hp : pieces r with
        | nil => exact absurd hp (pieces_ne r)
        | cons p q => exact ⟨p, q, rfl⟩
      rw [pgo_pieces r [] p2 q2 e, List.nil_append, ← h2, e, List.append_nil, flush_keeps, List.filter_cons (x := now)]
      split <;> rfl
    · rename_i hc
      obtain ⟨p2, q2, e1, e2⟩ := pieces_other hc r
      rw [e2] at h
      injection h with h1 h2
      subst h1 h2
      rw [pgo_pieces r (now ++ [c]) p2 q2 e1]
      simp
theorem parts_pieces (l : Bytes) : parts l = (pieces l).filter keeps := by
  cases hp : pieces l with
  | nil => exact absurd hp (pieces_ne l)
  | cons p q => unfold parts; rw [pgo_pieces l [] p q hp, List.nil_append]

/-! texts of bytes -/
def mk (l : Bytes) : ByteArray := ⟨l.toArray⟩
def piecesOf (s : ByteArray) : List ByteArray := (pieces s.data.toList).map mk
def partsOf (s : ByteArray) : List ByteArray := (parts s.data.toList).map mk
theorem mk_data (l : Bytes) : (mk l).data.toList = l := rfl
theorem data_mk (s : ByteArray) : mk s.data.toList = s := mk_bytes s
theorem map_data (L : List Bytes) : (L.map mk).map (fun x => x.data.toList) = L := by rw [List.map_map]; exact List.map_id _
/-- whether a piece is a part -/
def keepsOf (x : ByteArray) : Bool := keeps x.data.toList
theorem partsOf_pieces (s : ByteArray) : partsOf s = (piecesOf s).filter keepsOf := by
  unfold partsOf piecesOf
  rw [parts_pieces, List.filter_map]
  rfl
theorem index_none : ∀ (l : Bytes) (c : UInt8), Lib.indexByte l c < 0 → c ∉ l
  | [], _, _ => by simp
  | d :: r, c, h => by
    rw [Lib.indexByte] at h
    split at h
    · omega
    · rename_i hd
      have h1 := Lib.indexByte_ge r c
      simp only [List.mem_cons, not_or]
      refine ⟨fun e => hd (by simp [e]), index_none r c ?_⟩
      split at h
      · rename_i h2
        simp at h2; omega
      · omega
theorem index_some : ∀ (l : Bytes) (c : UInt8), 0 ≤ Lib.indexByte l c → ∃ k : Nat, Lib.indexByte l c = k ∧ k < l.length ∧ l = l.take k ++ c :: l.drop (k + 1) ∧ c ∉ l.take k
  | [], c, h => by simp [Lib.indexByte] at h
  | d :: r, c, h => by
    rw [Lib.indexByte] at h ⊢
    split at h
    · rename_i hd
      rw [if_pos hd]
      have : d = c := by simpa using hd
      subst this
      exact ⟨0, rfl, by simp, by simp, by simp⟩
    · rename_i hd
      rw [if_neg hd]
      split at h
      · omega
      · rename_i h2
        rw [if_neg h2]
        have h1 := Lib.indexByte_ge r c
        simp at h2
        obtain ⟨k, e1, e2, e3, e4⟩ := index_some r c (by omega)
        refine ⟨k + 1, by rw [e1]; rfl, by simp; omega, ?_, ?_⟩
        · show d :: r = d :: (r.take k ++ c :: r.drop (k + 1))
          rw [← e3]
        · rw [List.take_succ_cons]
          simp only [List.mem_cons, not_or]
          exact ⟨fun e => hd (by simp [e]), e4⟩
/-- the first slash of a text: none, or at k -/
theorem first_slash (r : ByteArray) : (Lib.indexByte r.data.toList 47 = -1 ∧ piecesOf r = [r]) ∨
    (∃ k : Nat, Lib.indexByte r.data.toList 47 = k ∧ k < r.size ∧ piecesOf r = r.extract 0 k :: piecesOf (r.extract (k + 1) r.size)) := by
  rcases Int.lt_or_le (Lib.indexByte r.data.toList 47) 0 with h | h
  · left
    have h1 := Lib.indexByte_ge r.data.toList 47
    refine ⟨by omega, ?_⟩
    unfold piecesOf
    rw [pieces_whole _ (index_none _ _ h), List.map_singleton, data_mk]
  · right
    obtain ⟨k, e1, e2, e3, e4⟩ := index_some _ _ h
    refine ⟨k, e1, by rw [Lib.size_eq]; exact e2, ?_⟩
    unfold piecesOf
    rw [drop_bytes]
    conv => lhs; rw [e3, pieces_cut _ _ e4]
    rw [List.map_cons]
    congr 1
    apply ba_ext
    rw [take_bytes]; rfl
end Go.Proofs.YtmpjjfhmkfchfaaDoor.M04
