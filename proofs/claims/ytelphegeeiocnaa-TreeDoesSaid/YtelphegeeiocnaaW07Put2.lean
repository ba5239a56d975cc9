/-
  Layer 7 (tree), walks: the landed code's Put and Cut. The bounds stand in the statements.
-/
import Derived.Test.YtelphegeeiocnaaW07New2
namespace Go.Proofs.Ytelphegeeiocnaa.W07
open Go Go.RowKit Go.Proofs.Ytelphegeeiocnaa.Strs Go.Proofs.Ytelphegeeiocnaa.Recs Go.Proofs.Ytelphegeeiocnaa.M07 Go.Proofs.Ytelphegeeiocnaa.Maps Go.Proofs.Ytelphegeeiocnaa.Range
open Go.Proofs.Ytelphegeeiocnaa.M06 (Ent)
open Go.Proofs.Ytelphegeeiocnaa.M03 (check)
open Go.Proofs.Ytelphegeeiocnaa.W06 (Ents HandsE)
open Go.Proofs.Ytelphegeeiocnaa.Kit (ret_str ret_bool ret_int mk_of mk_bytes ba_ext below_draws on list_full list_ne list_none list_nil bytes_nil)

section
variable {F : Nat → Prop} {w w' w1 w2 w3 : World} {v : Value} {t : Tr} {sb mb : Nat} {g : Int → Nod} {lv : Int → Value} {last : Int} {m : Nat}
theorem box_cells (h : RootBox w sb mb last) (o : Nat) : w.cell? ⟨sb, o, none⟩ = (#[.map (some mb), .int .i64 last] : Array Value)[o]? := by
  unfold RootBox at h
  simp [World.cell?, h]
theorem ents_count {B : Nat} {L : List Ent} (h : Ents B w v L) (hb : RootBox w sb mb last) (u : Value) : Ents B (w.setCell ⟨sb, 1, none⟩ u) v L := by
  refine ents_keep h fun b o c d h0 _ e => Below.heap_setCell _ _ _ _ ?_
  subst e
  show b ≠ sb
  rintro rfl
  obtain ⟨A', c', e', -, -⟩ := h.form
  injection e' with e1 e2 e3
  obtain ⟨b', o', hl, s, e, -, -, hc0, -⟩ := W06.Ents.at_ h (k := 0) (by omega)
  cases e
  rw [box_cells hb] at hc0
  match o, hc0 with
  | 0, hc0 => simp at hc0
  | 1, hc0 => simp at hc0
  | o + 2, hc0 => simp at hc0
theorem Mem.count (h : Mem F w sb mb g lv last m) (z : Int) : Mem F (w.setCell ⟨sb, 1, none⟩ (.int .i64 z)) sb mb g lv z m where
  box := h.box.count z
  fs := h.fs
  fm := h.fm
  low := fun k hk => by rw [set_size]; exact h.low k hk
  map := h.map.keep (Below.heap_setCell _ _ _ _ (by show mb ≠ sb; exact fun e => h.apart e.symm))
  zero := h.zero
  list := fun n => by rw [set_size]; exact ents_count (h.list n) h.box _
  at_ := h.at_
theorem place_eq (h : Right t) (d : Int) (s : Bytes) : placeN (plainN t d) s = if dirErr t.L d ≠ 0 then dirErr t.L d else if check s ≠ 0 then check s else if 0 < inDir t.L d s then 6 else 0 := by
  have hd : dirN (plainN t d) = dirErr t.L d := rfl
  have hp := in_pos (L := t.L) (d := d) (s := s) (fun a ha => (h.ends a ha).1)
  unfold placeN
  rw [hd]
  by_cases h0 : dirErr t.L d = 0
  · rw [find_in h s (dir_zero h0)]
    by_cases hi : inDir t.L d s = 0
    · simp [h0, hi]
    · have hi2 : 0 < inDir t.L d s := by omega
      simp [h0, hi, hi2]
  · simp [h0]
theorem put_eq (h : Right t) (d : Int) (s : Bytes) (kind : Int) (x : Bytes) : putErr t d s kind x = if placeN (plainN t d) s ≠ 0 then placeN (plainN t d) s else if mayErr kind x ≠ 0 then mayErr kind x else if 4096 ≤ t.L.length then 12 else 0 := by
  rw [place_eq h]
  unfold putErr
  by_cases h0 : dirErr t.L d = 0
  · by_cases hc : check s = 0
    · by_cases hi : 0 < inDir t.L d s
      · simp [h0, hc, hi]
      · simp [h0, hc, hi]
    · simp [h0, hc]
  · simp [h0]
theorem wrote_put {e : Ending} {er : Int} {d kind : Int} {s x : Bytes} (h : Rep F w v t) (hp : putErr t d s kind x = er) (h0 : er ≠ 0) (he : e = .returned (.tuple #[.int .i64 0, .int .i64 er])) (hb : Below w.heap.size w w') :
    e = .returned (.tuple #[.int .i64 (put t d s kind x).2.1, .int .i64 (put t d s kind x).2.2]) ∧ Wrote Rep F v (put t d s kind x).1 w w' := by
  rw [put_fails hp h0]
  exact ⟨he, h.wrote hb⟩
set_option maxHeartbeats 4000000 in
set_option maxRecDepth 100000 in
theorem put_any (h : Rep F w v t) (hs : Small t) (d : Int) (s : ByteArray) (kind : Int) (x : ByteArray) : Calls Try.prog 11 #[v, .int .i64 d, .string s, .int .i64 kind, .string x] w fun e w' => e = .returned (.tuple #[.int .i64 (put t d s.data.toList kind x.data.toList).2.1, .int .i64 (put t d s.data.toList kind x.data.toList).2.2]) ∧ Wrote Rep F v (put t d s.data.toList kind x.data.toList).1 w w' := by
  have hR := Lib.hid h
  obtain ⟨hr, sb, mb, lv, rfl, hM⟩ := h
  have HR := Lib.hid hr
  have H := Lib.hid hM
  have HP := Lib.hid (checkPlace_any hM (plain_short hs) d s)
  have HD := Lib.hid (fun w' : World => checkData_any kind x w')
  have HE := Lib.hid (put_eq hr d s.data.toList kind x.data.toList)
  have hm := hs.1
  have hl2 := hs.2
  have HS := Lib.hid hs
  clear hr hM hs
  by_cases h1 : placeN (plainN t d) s.data.toList = 0
  · have HE : Hid (putErr t d s.data.toList kind x.data.toList = if mayErr kind x.data.toList ≠ 0 then mayErr kind x.data.toList else if 4096 ≤ t.L.length then 12 else 0) := HE.out.trans (if_neg (show ¬ placeN (plainN t d) s.data.toList ≠ 0 from fun e => e h1))
    rw [h1] at HP
    clear h1
    by_cases h2 : mayErr kind x.data.toList = 0
    · have HE : Hid (putErr t d s.data.toList kind x.data.toList = if 4096 ≤ t.L.length then 12 else 0) := HE.out.trans (if_neg (show ¬ mayErr kind x.data.toList ≠ 0 from fun e => e h2))
      rw [h2] at HD
      clear h2
      have hlen := fun (w' : World) (hb : Below w.heap.size w w') ty => (H.out.below hb).map.len (t := 52) map_under ty
      have hbox := fun (w' : World) (hb : Below w.heap.size w w') => (H.out.below hb).box.c0
      by_cases h3 : (4096 : Int) ≤ t.L.length
      · have HX : Hid (putErr t d s.data.toList kind x.data.toList = 12) := HE.out.trans (if_pos (by omega))
        clear HE
        go_enter Try.func11, Try.ntmps11
        go_wp2_with fail
        refine HP.out.mono ?_
        rintro e w1 ⟨rfl, hb⟩
        have B1 := Lib.hid hb
        clear hb
        go_wp2_with fail
        refine (HD.out _).mono ?_
        rintro e w2 ⟨rfl, hw⟩
        have hw := hw.symm
        subst hw
        have hlen := hlen w1 B1.out
        have c0 := hbox w1 B1.out
        go_wp2_with fail
        go_ret2
        exact wrote_put hR.out HX.out (by decide) rfl B1.out
      · have HX : Hid (putErr t d s.data.toList kind x.data.toList = 0) := HE.out.trans (if_neg (by omega))
        clear HE
        go_enter Try.func11, Try.ntmps11
        go_wp2_with fail
        refine HP.out.mono ?_
        rintro e w1 ⟨rfl, hb⟩
        have B1 := Lib.hid hb
        clear hb
        go_wp2_with fail
        refine (HD.out _).mono ?_
        rintro e w2 ⟨rfl, hw⟩
        have hw := hw.symm
        subst hw
        have hlen := hlen w1 B1.out
        have c0 := hbox w1 B1.out
        have hnum : ∀ a ∈ t.L, a.num ≠ t.last + 1 := fun a ha => by have := (HR.out.ends a ha).2; omega
        have hl1 : 1 ≤ t.last := by
          obtain ⟨r, hr⟩ := HR.out.root
          have := HR.out.ends ⟨1, 1, [], 1, []⟩ (by rw [hr]; exact List.mem_cons_self)
          exact this.2
        have HPL := Lib.hid (put_plain HR.out HX.out)
        have HPW := Lib.hid (put_works HX.out)
        have HRR := Lib.hid (put_right HR.out (d := d) (kind := kind) (name := s.data.toList) (data := x.data.toList))
        rw [put_works HX.out] at HRR
        have hdk : Hid ((plainN t d).kind ≠ 0) := by
          have h2 : dirErr t.L d = 0 := by
            have h2 := HX.out
            unfold putErr at h2
            split at h2
            · rename_i h3; exact absurd h2 h3
            · rename_i h3; simpa using h3
          show (nodeAt t.L d).kind ≠ 0
          rw [dir_zero h2]; decide
        have hkk : Hid (kind ≠ 0) := fun e => by
          have := HRR.out.kind ⟨t.last + 1, d, s.data.toList, kind, x.data.toList⟩ (by simp)
          exact this e
        have hzk : Hid (held (plainN t) lv (t.last + 1) = none) := by
          show held (plainN t) lv (t.last + 1) = none
          unfold held
          rw [if_pos (by show (nodeAt t.L (t.last + 1)).kind = 0; rw [at_none hnum]; rfl)]
        have HSH := Lib.hid (plain_short HS.out)
        have hwrap : wrap64 (t.last + 1) = t.last + 1 := by unfold wrap64; omega
        have hwf : Hid ((Lit.int .i64 (t.last + 1)).wf = true) := WalkArith.wf_i64 (by omega)
        have M1 := Lib.hid (H.out.below B1.out)
        have c1 := M1.out.box.c1
        have fz := M1.out.box.fr 1
        clear hnum hl1 hl2 HS HX
        generalize plainN t = g at *
        obtain ⟨k, hke⟩ : ∃ k, t.last + 1 = k := ⟨_, rfl⟩
        have hwrap2 : wrap64 (t.last + 1) = k := hwrap.trans hke
        rw [hke] at HPL HRR hzk hwf HPW
        have HKE := Lib.hid hke
        clear hke hwrap
        have M2 := Lib.hid (M1.out.count k)
        obtain ⟨w2, hw2⟩ : ∃ w2, w1.setCell ⟨sb, 1, none⟩ (.int .i64 k) = w2 := ⟨_, rfl⟩
        have T2 : Hid (Turns (fun i => F i ∨ w.heap.size ≤ i) w w2) := by rw [← hw2]; exact (Turns.new B1.out).trans (Turns.setCell _ (Or.inl H.out.fs))
        rw [hw2] at M2
        have d0 := M2.out.box.c0
        have d1 := M2.out.box.c1
        have hmp : MapIs w2.drew Try.prog 3 mb (held g lv) t.L.length := M2.out.map.keep rfl
        have hst := hmp.store (t := 52) (e := 51) key_under map_under (by unfold maxLen; omega) (n := k) hwf.out (.agg #[.int .i64 kind, .int .i64 0, .string x, .slice none 0 0])
        obtain ⟨w3, hrun, map3, turn3⟩ := hst
        rw [hzk.out, if_neg (by decide)] at map3
        have M3 := Lib.hid (Mem.stored (M2.out.keep (w' := w2.drew) (fun _ _ => rfl) (Nat.le_refl _)) (n := k) (x := ⟨kind, 0, x.data.toList, []⟩) (u := .slice none 0 0) hkk.out (recs_nil _ _ _ _) (fun b o c d _ e => by cases e) (by
          have e5 : nodV ⟨kind, 0, x.data.toList, []⟩ (.slice none 0 0) = .agg #[.int .i64 kind, .int .i64 0, .string x, .slice none 0 0] := by
            unfold nodV
            rw [show (⟨x.data.toList.toArray⟩ : ByteArray) = x from mk_bytes x]
          rw [e5]; exact map3) turn3)
        have T3 := Lib.hid ((T2.out.trans (drew_turns _ _)).trans (turned_turns turn3 (Or.inl H.out.fm)))
        have HH := Lib.hid (hang_any M3.out (fun i => by
          unfold upd
          split
          · exact Nat.zero_le _
          · exact HSH.out i) (by omega) d s k (by
          unfold upd
          split
          · exact hkk.out
          · exact hdk.out) (by rw [upd_here]; exact hkk.out))
        have f1 := M3.out.box.c1
        clear map3 turn3 hmp T2 M2
        go_wp2_with fail
        clear hw2
        go_region
        clear hrun d0 d1 c0 c1 fz hlen hbox
        go_wp2_with fail
        refine HH.out.mono ?_
        rintro e w4 ⟨rfl, hl⟩
        obtain ⟨F', lv', M4, T4, hF⟩ := hl
        have HM4 := Lib.hid M4
        have g1 := M4.box.c1
        have HT4 := Lib.hid T4
        have HF4 := Lib.hid hF
        clear M4 T4 hF f1
        go_wp2_with fail
        go_ret2
        rw [HPW.out]
        have M4 := HM4.out
        rw [← HPL.out, show t.L.length + 1 = (t.L ++ [(⟨k, d, s.data.toList, kind, x.data.toList⟩ : Nd)]).length by simp] at M4
        have hs3 := T3.out.size
        exact ⟨rfl, F', ⟨HRR.out, sb, mb, lv', rfl, M4⟩, narrow (T3.out.trans (HT4.out.wider fun _ => Or.inl)), fun i hi => (HF4.out i hi).imp id (fun h => Nat.le_trans hs3 h)⟩
    · have HX : Hid (putErr t d s.data.toList kind x.data.toList = mayErr kind x.data.toList) := HE.out.trans (if_pos h2)
      generalize mayErr kind x.data.toList = rc at *
      have H2 := Lib.hid h2
      have s2 : (rc != 0) = true := by simpa using h2
      have s3 : (rc == 0) = false := by simpa using h2
      clear HE h2
      go_enter Try.func11, Try.ntmps11
      go_wp2_with fail
      refine HP.out.mono ?_
      rintro e w1 ⟨rfl, hb⟩
      have B1 := Lib.hid hb
      clear hb
      go_wp2_with fail
      refine (HD.out _).mono ?_
      rintro e w2 ⟨rfl, hw⟩
      have hw := hw.symm
      subst hw
      go_wp2_with fail
      go_ret2
      exact wrote_put hR.out HX.out H2.out rfl B1.out
  · have HX : Hid (putErr t d s.data.toList kind x.data.toList = placeN (plainN t d) s.data.toList) := HE.out.trans (if_pos h1)
    generalize placeN (plainN t d) s.data.toList = rc at *
    have H1 := Lib.hid h1
    have s2 : (rc != 0) = true := by simpa using h1
    have s3 : (rc == 0) = false := by simpa using h1
    clear HE h1
    go_enter Try.func11, Try.ntmps11
    go_wp2_with fail
    refine HP.out.mono ?_
    rintro e w1 ⟨rfl, hb⟩
    have B1 := Lib.hid hb
    clear hb
    go_wp2_with fail
    go_ret2
    exact wrote_put hR.out HX.out H1.out rfl B1.out
theorem cut_eq (t : Tr) (d : Int) (s : Bytes) : M07.cut t d s = if dirN (plainN t d) ≠ 0 then (t, dirN (plainN t d)) else if inDir t.L d s = 0 then (t, 5) else if listDir t.L (inDir t.L d s) ≠ [] then (t, 9) else (⟨t.L.filter (fun a => decide (a.num ≠ inDir t.L d s)), t.last⟩, 0) := rfl
theorem listed_void (t : Tr) (n : Int) (h : Right t) : listDir t.L n ≠ [] ↔ 0 < (plainN t n).list.length := by
  show _ ↔ 0 < (listed t n).length
  unfold listed
  by_cases hk : (nodeAt t.L n).kind = 1
  · rw [if_pos hk]
    exact List.length_pos_iff.symm
  · rw [if_neg hk]
    constructor
    · intro e
      obtain ⟨x, hx⟩ := List.exists_mem_of_ne_nil _ e
      obtain ⟨a, ha, h1, h2, h3⟩ := (mem_list h).1 hx
      have := h.up a ha
      rw [h1] at this
      exact absurd this hk
    · intro e; simp at e
theorem filter_one : ∀ {L : List Nd} {n : Int}, L.Pairwise (fun a b => a.num < b.num) → (∃ a ∈ L, a.num = n) → (L.filter (fun a => decide (a.num ≠ n))).length + 1 = L.length
  | [], _, _, h => by obtain ⟨a, ha, _⟩ := h; cases ha
  | x :: r, n, hp, h => by
    rw [List.pairwise_cons] at hp
    by_cases e : x.num = n
    · rw [List.filter_cons, if_neg (by simp [e]), List.filter_eq_self.2 (fun a ha => by have := hp.1 a ha; simp; omega), List.length_cons]
    · rw [List.filter_cons, if_pos (by simp [e]), List.length_cons, List.length_cons]
      obtain ⟨a, ha, h1⟩ := h
      rcases List.mem_cons.1 ha with rfl | ha
      · exact absurd h1 e
      · have := filter_one hp.2 ⟨a, ha, h1⟩
        omega
theorem unhang_kind (g : Int → Nod) (d : Int) (s : Bytes) (n : Int) : (unhangN g d s n).kind = (g n).kind := by
  unfold unhangN upd
  split
  · rename_i e; rw [e]
  · rfl
set_option maxHeartbeats 4000000 in
set_option maxRecDepth 100000 in
theorem cut_any (h : Rep F w v t) (hs : Small t) (d : Int) (s : ByteArray) : Calls Try.prog 12 #[v, .int .i64 d, .string s] w fun e w' => e = .returned (.int .i64 (M07.cut t d s.data.toList).2) ∧ Wrote Rep F v (M07.cut t d s.data.toList).1 w w' := by
  have hR := Lib.hid h
  obtain ⟨hr, sb, mb, lv, rfl, hM⟩ := h
  have HR := Lib.hid hr
  have H := Lib.hid hM
  have HD := Lib.hid (checkDir_any hM d)
  have HE := Lib.hid (cut_eq t d s.data.toList)
  have HS := Lib.hid (plain_short hs)
  have hm := hs.1
  by_cases h1 : dirN (plainN t d) = 0
  · have HE : Hid (M07.cut t d s.data.toList = if inDir t.L d s.data.toList = 0 then (t, 5) else if listDir t.L (inDir t.L d s.data.toList) ≠ [] then (t, 9) else (⟨t.L.filter (fun a => decide (a.num ≠ inDir t.L d s.data.toList)), t.last⟩, 0)) := HE.out.trans (if_neg (show ¬ dirN (plainN t d) ≠ 0 from fun e => e h1))
    have hd : (nodeAt t.L d).kind = 1 := dir_zero h1
    have HF := Lib.hid (fun (w' : World) (hb : Below w.heap.size w w') => (hM.below hb).find_ HS.out d s)
    rw [find_in hr _ hd] at HF
    rw [h1] at HD
    clear hr hM hs h1
    by_cases h2 : inDir t.L d s.data.toList = 0
    · have HX : Hid (M07.cut t d s.data.toList = (t, 5)) := HE.out.trans (if_pos h2)
      rw [h2] at HF
      clear HE h2
      go_enter Try.func12, Try.ntmps12
      go_wp2_with fail
      refine HD.out.mono ?_
      rintro e w1 ⟨rfl, hb⟩
      have B1 := Lib.hid hb
      clear hb
      obtain ⟨A, c, -, hn, hfd, hfl⟩ := HF.out w1 B1.out
      have HN := Lib.hid hn
      have HFD := Lib.hid hfd
      clear hn hfd HF
      go_wp2_with fail
      refine HN.out.mono ?_
      rintro e w2 ⟨rfl, hb⟩
      have HFD := Lib.hid (HFD.out w2 hb)
      have B2 := Lib.hid (on B1.out hb)
      clear hb
      go_wp2_with fail
      refine HFD.out.mono ?_
      rintro e w3 ⟨rfl, hb⟩
      have B3 := Lib.hid (on B2.out hb)
      clear hb
      go_wp2_with fail
      go_ret
      rw [HX.out]
      exact ⟨rfl, hR.out.wrote B3.out⟩
    · have HE : Hid (M07.cut t d s.data.toList = if listDir t.L (inDir t.L d s.data.toList) ≠ [] then (t, 9) else (⟨t.L.filter (fun a => decide (a.num ≠ inDir t.L d s.data.toList)), t.last⟩, 0)) := HE.out.trans (if_neg h2)
      have HST := Lib.hid (in_stands HR.out hd h2)
      have HV := Lib.hid (listed_void t (inDir t.L d s.data.toList) HR.out)
      have HCP := Lib.hid (fun hv => cut_plain HR.out hd h2 hv)
      have HNC := Lib.hid (fun (w' : World) (hb : Below w.heap.size w w') => (H.out.below hb).node_ (inDir t.L d s.data.toList))
      have hq : decide (inDir t.L d s.data.toList ≠ 0) = true := decide_eq_true h2
      rw [hq] at HF
      have hkd : Hid ((plainN t d).kind ≠ 0) := by show (nodeAt t.L d).kind ≠ 0; rw [hd]; decide
      generalize inDir t.L d s.data.toList = n at *
      by_cases h3 : (0 : Int) < (plainN t n).list.length
      · have HX : Hid (M07.cut t d s.data.toList = (t, 9)) := HE.out.trans (if_pos (HV.out.2 (by omega)))
        clear HE h2 hq HCP HV
        go_enter Try.func12, Try.ntmps12
        go_wp2_with fail
        refine HD.out.mono ?_
        rintro e w1 ⟨rfl, hb⟩
        have B1 := Lib.hid hb
        clear hb
        obtain ⟨A, c, -, hn, hfd, hfl⟩ := HF.out w1 B1.out
        have HN := Lib.hid hn
        have HFD := Lib.hid hfd
        clear hn hfd HF
        go_wp2_with fail
        refine HN.out.mono ?_
        rintro e w2 ⟨rfl, hb⟩
        have HFD := Lib.hid (HFD.out w2 hb)
        have B2 := Lib.hid (on B1.out hb)
        clear hb
        go_wp2_with fail
        refine HFD.out.mono ?_
        rintro e w3 ⟨rfl, hb⟩
        have B3 := Lib.hid (on B2.out hb)
        clear hb
        obtain ⟨A2, c2, -, hn⟩ := HNC.out w3 B3.out
        have HN := Lib.hid hn
        have hf := nod_list (plainN t n).kind (plainN t n).up ⟨(plainN t n).data.toArray⟩ A2 (plainN t n).list.length c2
        clear hn HNC hfl
        go_wp2_with fail
        refine HN.out.mono ?_
        rintro e w4 ⟨rfl, hb⟩
        have B4 := Lib.hid (on B3.out hb)
        clear hb
        go_wp2_with fail
        go_ret
        rw [HX.out]
        exact ⟨rfl, hR.out.wrote B4.out⟩
      · have hvd : listDir t.L n = [] := by
          have h4 : ¬ listDir t.L n ≠ [] := fun e => h3 (by have := HV.out.1 e; omega)
          simpa using h4
        have HX : Hid (M07.cut t d s.data.toList = (⟨t.L.filter (fun a => decide (a.num ≠ n)), t.last⟩, 0)) := HE.out.trans (if_neg (show ¬ listDir t.L n ≠ [] from fun e => e hvd))
        have HCP := Lib.hid (HCP.out hvd)
        have HRR : Hid (Right ⟨t.L.filter (fun a => decide (a.num ≠ n)), t.last⟩) := by
          have := cut_right HR.out (d := d) (name := s.data.toList)
          rw [HX.out] at this
          exact this
        have hnk : (plainN t n).kind ≠ 0 := HST.out.2.2.1
        have hln := filter_one HR.out.rise ⟨_, (at_some HST.out.2.2.1).1, (at_some HST.out.2.2.1).2⟩
        have HLN : Hid ((⟨t.L.filter (fun a => decide (a.num ≠ n)), t.last⟩ : Tr).L.length = t.L.length - 1) := by show (t.L.filter _).length = _; omega
        have HNK := Lib.hid hnk
        have hwf := Lib.hid (H.out.wf hnk)
        have HU := Lib.hid (fun (w' : World) (hb : Below w.heap.size w w') => unhang_any (H.out.below hb) HS.out (by omega) d s hkd.out)
        clear HE h2 hq HV hvd hln HST hnk
        go_enter Try.func12, Try.ntmps12
        go_wp2_with fail
        refine HD.out.mono ?_
        rintro e w1 ⟨rfl, hb⟩
        have B1 := Lib.hid hb
        clear hb
        obtain ⟨A, c, -, hn, hfd, hfl⟩ := HF.out w1 B1.out
        have HN := Lib.hid hn
        have HFD := Lib.hid hfd
        clear hn hfd HF
        go_wp2_with fail
        refine HN.out.mono ?_
        rintro e w2 ⟨rfl, hb⟩
        have HFD := Lib.hid (HFD.out w2 hb)
        have B2 := Lib.hid (on B1.out hb)
        clear hb
        go_wp2_with fail
        refine HFD.out.mono ?_
        rintro e w3 ⟨rfl, hb⟩
        have B3 := Lib.hid (on B2.out hb)
        clear hb
        obtain ⟨A2, c2, -, hn⟩ := HNC.out w3 B3.out
        have HN := Lib.hid hn
        have hf := nod_list (plainN t n).kind (plainN t n).up ⟨(plainN t n).data.toArray⟩ A2 (plainN t n).list.length c2
        clear hn HNC hfl
        go_wp2_with fail
        refine HN.out.mono ?_
        rintro e w4 ⟨rfl, hb⟩
        have B4 := Lib.hid (on B3.out hb)
        clear hb
        have HU := Lib.hid (HU.out w4 B4.out)
        go_wp2_with fail
        refine HU.out.mono ?_
        rintro e w5 ⟨rfl, hl⟩
        obtain ⟨F', lv', M5, T5, hF⟩ := hl
        have HM5 := Lib.hid M5
        have g0 := M5.box.c0
        have HT5 := Lib.hid T5
        have HF5 := Lib.hid hF
        clear M5 T5 hF
        go_wp2_with (at_delete; refine wpList_drop _ rfl _ _ 52 3 rfl 51 key_under map_under mb t.L.length (held (unhangN (plainN t) d s.data.toList) lv') rfl HM5.out.map n rfl hwf.out ?_; intro w6 map6 turn6)
        go_ret
        have M6 := HM5.out.dropped map6 turn6
        have e6 : (held (unhangN (plainN t) d s.data.toList) lv' n).isSome = true := by
          rw [HM5.out.some_ (by rw [unhang_kind]; exact HNK.out)]; rfl
        rw [if_pos e6, ← HLN.out, ← HCP.out] at M6
        rw [HX.out]
        have hs4 := B4.out.size
        exact ⟨rfl, F', ⟨HRR.out, sb, mb, _, rfl, M6⟩, narrow (((Turns.new B4.out).trans (HT5.out.wider fun _ => Or.inl)).trans (turned_turns turn6 (Or.inl H.out.fm))), fun i hi => (HF5.out i hi).imp id (fun h => Nat.le_trans hs4 h)⟩
  · have HX : Hid (M07.cut t d s.data.toList = (t, dirN (plainN t d))) := HE.out.trans (if_pos h1)
    generalize dirN (plainN t d) = rc at *
    have s2 : (rc != 0) = true := by simpa using h1
    have s3 : (rc == 0) = false := by simpa using h1
    clear HE h1 hr hM hs
    go_enter Try.func12, Try.ntmps12
    go_wp2_with fail
    refine HD.out.mono ?_
    rintro e w1 ⟨rfl, hb⟩
    have B1 := Lib.hid hb
    clear hb
    go_wp2_with fail
    go_ret
    rw [HX.out]
    exact ⟨rfl, hR.out.wrote B1.out⟩
end
end Go.Proofs.Ytelphegeeiocnaa.W07
