/-
  Texts joined, in build order, each with its own comment and its own conditions: W07Put2, W07Goal, W07Move2, W07Copy, W07Trees, LibReverse, LibJoin, W08Asks, MapAll, W08Seen.
-/
import Derived.Test.YtpihldcchjoinaaGreatDoorJ21
import Derived.Test.YtpihldcchjoinaaGreatDoorJ09
import Derived.Test.YtpihldcchjoinaaGreatDoorJ03
import Derived.Lib.OwnBridge
import Derived.Test.YtpihldcchjoinaaGreatDoorJ04
import Derived.Test.YtpihldcchjoinaaGreatDoorJ11
import Derived.Lib.Join
import Derived.Laws.OwnMore
import Derived.Tactics
import Derived.Test.YtpihldcchjoinaaGreatDoorJ10
import Derived.Test.YtpihldcchjoinaaGreatDoorJ13
import Derived.Test.YtpihldcchjoinaaGreatDoorJ18
import Derived.Test.YtpihldcchjoinaaGreatDoorJ08
import Derived.DeepKeys4
import Derived.Test.YtpihldcchjoinaaGreatDoorChecked
import Derived.Test.YtpihldcchjoinaaGreatDoorJ01
/-
  Layer 7 (tree), walks: the landed code's Put and Cut. The bounds stand in the statements.
-/
namespace Go.Proofs.YtpihldcchjoinaaGreatDoor.W07
set_option maxRecDepth 100000
open Go Go.RowKit Go.Proofs.YtpihldcchjoinaaGreatDoor.Strs Go.Proofs.YtpihldcchjoinaaGreatDoor.Recs Go.Proofs.YtpihldcchjoinaaGreatDoor.M07 Go.Proofs.YtpihldcchjoinaaGreatDoor.Maps Go.Proofs.YtpihldcchjoinaaGreatDoor.Range
open Go.Proofs.YtpihldcchjoinaaGreatDoor.M06 (Ent)
open Go.Proofs.YtpihldcchjoinaaGreatDoor.M03 (check)
open Go.Proofs.YtpihldcchjoinaaGreatDoor.W06 (Ents HandsE)
open Go.Proofs.YtpihldcchjoinaaGreatDoor.Kit (ret_str ret_bool ret_int mk_of mk_bytes ba_ext below_draws on list_full list_ne list_none list_nil bytes_nil)

section
variable {F : Nat → Prop} {w w' w1 w2 w3 : World} {v : Value} {t : Tr} {sb mb : Nat} {g : Int → Nod} {lv : Int → Value} {last : Int} {m : Nat}
theorem box_cells (h : RootBox w sb mb last) (o : Nat) : w.cell? ⟨sb, o, none⟩ = (#[.map (some mb), .int .i64 last] : Array Value)[o]? := by
  unfold RootBox at h
  simp [World.cell?, h]
theorem ents_count {B : Nat} {L : List Ent} (h : Ents B w v L) (hb : RootBox w sb mb last) (u : Value) : Ents B (w.setCell ⟨sb, 1, none⟩ u) v L := by
  refine ents_keep h fun b o c d h0 _ e => Below.heap_setCell _ _ _ _ ?_
  subst e
  show b ≠ sb
  rintro rfl
  obtain ⟨A', c', e', -, -⟩ := h.form
  injection e' with e1 e2 e3
  obtain ⟨b', o', hl, s, e, -, -, hc0, -⟩ := W06.Ents.at_ h (k := 0) (by omega)
  cases e
  rw [box_cells hb] at hc0
  match o, hc0 with
  | 0, hc0 => simp at hc0
  | 1, hc0 => simp at hc0
  | o + 2, hc0 => simp at hc0
theorem Mem.count (h : Mem F w sb mb g lv last m) (z : Int) : Mem F (w.setCell ⟨sb, 1, none⟩ (.int .i64 z)) sb mb g lv z m where
  box := h.box.count z
  fs := h.fs
  fm := h.fm
  low := fun k hk => by rw [set_size]; exact h.low k hk
  map := h.map.keep (Below.heap_setCell _ _ _ _ (by show mb ≠ sb; exact fun e => h.apart e.symm))
  zero := h.zero
  list := fun n => by rw [set_size]; exact ents_count (h.list n) h.box _
  at_ := h.at_
theorem place_eq (h : Right t) (d : Int) (s : Bytes) : placeN (plainN t d) s = if dirErr t.L d ≠ 0 then dirErr t.L d else if check s ≠ 0 then check s else if 0 < inDir t.L d s then 6 else 0 := by
  have hd : dirN (plainN t d) = dirErr t.L d := rfl
  have hp := in_pos (L := t.L) (d := d) (s := s) (fun a ha => (h.ends a ha).1)
  unfold placeN
  rw [hd]
  by_cases h0 : dirErr t.L d = 0
  · rw [find_in h s (dir_zero h0)]
    by_cases hi : inDir t.L d s = 0
    · simp [h0, hi]
    · have hi2 : 0 < inDir t.L d s := by omega
      simp [h0, hi, hi2]
  · simp [h0]
theorem put_eq (h : Right t) (d : Int) (s : Bytes) (kind : Int) (x : Bytes) : putErr t d s kind x = if placeN (plainN t d) s ≠ 0 then placeN (plainN t d) s else if mayErr kind x ≠ 0 then mayErr kind x else if 4096 ≤ t.L.length then 12 else 0 := by
  rw [place_eq h]
  unfold putErr
  by_cases h0 : dirErr t.L d = 0
  · by_cases hc : check s = 0
    · by_cases hi : 0 < inDir t.L d s
      · simp [h0, hc, hi]
      · simp [h0, hc, hi]
    · simp [h0, hc]
  · simp [h0]
theorem wrote_put {e : Ending} {er : Int} {d kind : Int} {s x : Bytes} (h : Rep F w v t) (hp : putErr t d s kind x = er) (h0 : er ≠ 0) (he : e = .returned (.tuple #[.int .i64 0, .int .i64 er])) (hb : Below w.heap.size w w') :
    e = .returned (.tuple #[.int .i64 (put t d s kind x).2.1, .int .i64 (put t d s kind x).2.2]) ∧ Wrote Rep F v (put t d s kind x).1 w w' := by
  rw [put_fails hp h0]
  exact ⟨he, h.wrote hb⟩
set_option maxHeartbeats 4000000 in
set_option maxRecDepth 100000 in
theorem put_any (h : Rep F w v t) (hs : Small t) (d : Int) (s : ByteArray) (kind : Int) (x : ByteArray) : Calls Tryz.prog 26 #[v, .int .i64 d, .string s, .int .i64 kind, .string x] w fun e w' => e = .returned (.tuple #[.int .i64 (put t d s.data.toList kind x.data.toList).2.1, .int .i64 (put t d s.data.toList kind x.data.toList).2.2]) ∧ Wrote Rep F v (put t d s.data.toList kind x.data.toList).1 w w' := by
  have hR := Lib.hid h
  obtain ⟨hr, sb, mb, lv, rfl, hM⟩ := h
  have HR := Lib.hid hr
  have H := Lib.hid hM
  have HP := Lib.hid (checkPlace_any hM (plain_short hs) d s)
  have HD := Lib.hid (fun w' : World => checkData_any kind x w')
  have HE := Lib.hid (put_eq hr d s.data.toList kind x.data.toList)
  have hm := hs.1
  have hl2 := hs.2
  have HS := Lib.hid hs
  clear hr hM hs
  by_cases h1 : placeN (plainN t d) s.data.toList = 0
  · have HE : Hid (putErr t d s.data.toList kind x.data.toList = if mayErr kind x.data.toList ≠ 0 then mayErr kind x.data.toList else if 4096 ≤ t.L.length then 12 else 0) := HE.out.trans (if_neg (show ¬ placeN (plainN t d) s.data.toList ≠ 0 from fun e => e h1))
    rw [h1] at HP
    clear h1
    by_cases h2 : mayErr kind x.data.toList = 0
    · have HE : Hid (putErr t d s.data.toList kind x.data.toList = if 4096 ≤ t.L.length then 12 else 0) := HE.out.trans (if_neg (show ¬ mayErr kind x.data.toList ≠ 0 from fun e => e h2))
      rw [h2] at HD
      clear h2
      have hlen := fun (w' : World) (hb : Below w.heap.size w w') ty => (H.out.below hb).map.len (t := 97) map_under ty
      have hbox := fun (w' : World) (hb : Below w.heap.size w w') => (H.out.below hb).box.c0
      by_cases h3 : (4096 : Int) ≤ t.L.length
      · have HX : Hid (putErr t d s.data.toList kind x.data.toList = 12) := HE.out.trans (if_pos (by omega))
        clear HE
        go_enter Tryz.func26, Tryz.ntmps26
        go_wp2_with fail
        refine HP.out.mono ?_
        rintro e w1 ⟨rfl, hb⟩
        have B1 := Lib.hid hb
        clear hb
        go_wp2_with fail
        refine (HD.out _).mono ?_
        rintro e w2 ⟨rfl, hw⟩
        have hw := hw.symm
        subst hw
        have hlen := hlen w1 B1.out
        have c0 := hbox w1 B1.out
        go_wp2_with fail
        go_ret2
        exact wrote_put hR.out HX.out (by decide) rfl B1.out
      · have HX : Hid (putErr t d s.data.toList kind x.data.toList = 0) := HE.out.trans (if_neg (by omega))
        clear HE
        go_enter Tryz.func26, Tryz.ntmps26
        go_wp2_with fail
        refine HP.out.mono ?_
        rintro e w1 ⟨rfl, hb⟩
        have B1 := Lib.hid hb
        clear hb
        go_wp2_with fail
        refine (HD.out _).mono ?_
        rintro e w2 ⟨rfl, hw⟩
        have hw := hw.symm
        subst hw
        have hlen := hlen w1 B1.out
        have c0 := hbox w1 B1.out
        have hnum : ∀ a ∈ t.L, a.num ≠ t.last + 1 := fun a ha => by have := (HR.out.ends a ha).2; omega
        have hl1 : 1 ≤ t.last := by
          obtain ⟨r, hr⟩ := HR.out.root
          have := HR.out.ends ⟨1, 1, [], 1, []⟩ (by rw [hr]; exact List.mem_cons_self)
          exact this.2
        have HPL := Lib.hid (put_plain HR.out HX.out)
        have HPW := Lib.hid (put_works HX.out)
        have HRR := Lib.hid (put_right HR.out (d := d) (kind := kind) (name := s.data.toList) (data := x.data.toList))
        rw [put_works HX.out] at HRR
        have hdk : Hid ((plainN t d).kind ≠ 0) := by
          have h2 : dirErr t.L d = 0 := by
            have h2 := HX.out
            unfold putErr at h2
            split at h2
            · rename_i h3; exact absurd h2 h3
            · rename_i h3; simpa using h3
          show (nodeAt t.L d).kind ≠ 0
          rw [dir_zero h2]; decide
        have hkk : Hid (kind ≠ 0) := fun e => by
          have := HRR.out.kind ⟨t.last + 1, d, s.data.toList, kind, x.data.toList⟩ (by simp)
          exact this e
        have hzk : Hid (held (plainN t) lv (t.last + 1) = none) := by
          show held (plainN t) lv (t.last + 1) = none
          unfold held
          rw [if_pos (by show (nodeAt t.L (t.last + 1)).kind = 0; rw [at_none hnum]; rfl)]
        have HSH := Lib.hid (plain_short HS.out)
        have hwrap : wrap64 (t.last + 1) = t.last + 1 := by unfold wrap64; omega
        have hwf : Hid ((Lit.int .i64 (t.last + 1)).wf = true) := WalkArith.wf_i64 (by omega)
        have M1 := Lib.hid (H.out.below B1.out)
        have c1 := M1.out.box.c1
        have fz := M1.out.box.fr 1
        clear hnum hl1 hl2 HS HX
        generalize plainN t = g at *
        obtain ⟨k, hke⟩ : ∃ k, t.last + 1 = k := ⟨_, rfl⟩
        have hwrap2 : wrap64 (t.last + 1) = k := hwrap.trans hke
        rw [hke] at HPL HRR hzk hwf HPW
        have HKE := Lib.hid hke
        clear hke hwrap
        have M2 := Lib.hid (M1.out.count k)
        obtain ⟨w2, hw2⟩ : ∃ w2, w1.setCell ⟨sb, 1, none⟩ (.int .i64 k) = w2 := ⟨_, rfl⟩
        have T2 : Hid (Turns (fun i => F i ∨ w.heap.size ≤ i) w w2) := by rw [← hw2]; exact (Turns.new B1.out).trans (Turns.setCell _ (Or.inl H.out.fs))
        rw [hw2] at M2
        have d0 := M2.out.box.c0
        have d1 := M2.out.box.c1
        have hmp : MapIs w2.drew Tryz.prog 3 mb (held g lv) t.L.length := M2.out.map.keep rfl
        have hst := hmp.store (t := 97) (e := 96) key_under map_under (by unfold maxLen; omega) (n := k) hwf.out (.agg #[.int .i64 kind, .int .i64 0, .string x, .slice none 0 0])
        obtain ⟨w3, hrun, map3, turn3⟩ := hst
        rw [hzk.out, if_neg (by decide)] at map3
        have M3 := Lib.hid (Mem.stored (M2.out.keep (w' := w2.drew) (fun _ _ => rfl) (Nat.le_refl _)) (n := k) (x := ⟨kind, 0, x.data.toList, []⟩) (u := .slice none 0 0) hkk.out (recs_nil _ _ _ _) (fun b o c d _ e => by cases e) (by
          have e5 : nodV ⟨kind, 0, x.data.toList, []⟩ (.slice none 0 0) = .agg #[.int .i64 kind, .int .i64 0, .string x, .slice none 0 0] := by
            unfold nodV
            rw [show (⟨x.data.toList.toArray⟩ : ByteArray) = x from mk_bytes x]
          rw [e5]; exact map3) turn3)
        have T3 := Lib.hid ((T2.out.trans (drew_turns _ _)).trans (turned_turns turn3 (Or.inl H.out.fm)))
        have HH := Lib.hid (hang_any M3.out (fun i => by
          unfold upd
          split
          · exact Nat.zero_le _
          · exact HSH.out i) (by omega) d s k (by
          unfold upd
          split
          · exact hkk.out
          · exact hdk.out) (by rw [upd_here]; exact hkk.out))
        have f1 := M3.out.box.c1
        clear map3 turn3 hmp T2 M2
        go_wp2_with fail
        clear hw2
        go_region
        clear hrun d0 d1 c0 c1 fz hlen hbox
        go_wp2_with fail
        refine HH.out.mono ?_
        rintro e w4 ⟨rfl, hl⟩
        obtain ⟨F', lv', M4, T4, hF⟩ := hl
        have HM4 := Lib.hid M4
        have g1 := M4.box.c1
        have HT4 := Lib.hid T4
        have HF4 := Lib.hid hF
        clear M4 T4 hF f1
        go_wp2_with fail
        go_ret2
        rw [HPW.out]
        have M4 := HM4.out
        rw [← HPL.out, show t.L.length + 1 = (t.L ++ [(⟨k, d, s.data.toList, kind, x.data.toList⟩ : Nd)]).length by simp] at M4
        have hs3 := T3.out.size
        exact ⟨rfl, F', ⟨HRR.out, sb, mb, lv', rfl, M4⟩, narrow (T3.out.trans (HT4.out.wider fun _ => Or.inl)), fun i hi => (HF4.out i hi).imp id (fun h => Nat.le_trans hs3 h)⟩
    · have HX : Hid (putErr t d s.data.toList kind x.data.toList = mayErr kind x.data.toList) := HE.out.trans (if_pos h2)
      generalize mayErr kind x.data.toList = rc at *
      have H2 := Lib.hid h2
      have s2 : (rc != 0) = true := by simpa using h2
      have s3 : (rc == 0) = false := by simpa using h2
      clear HE h2
      go_enter Tryz.func26, Tryz.ntmps26
      go_wp2_with fail
      refine HP.out.mono ?_
      rintro e w1 ⟨rfl, hb⟩
      have B1 := Lib.hid hb
      clear hb
      go_wp2_with fail
      refine (HD.out _).mono ?_
      rintro e w2 ⟨rfl, hw⟩
      have hw := hw.symm
      subst hw
      go_wp2_with fail
      go_ret2
      exact wrote_put hR.out HX.out H2.out rfl B1.out
  · have HX : Hid (putErr t d s.data.toList kind x.data.toList = placeN (plainN t d) s.data.toList) := HE.out.trans (if_pos h1)
    generalize placeN (plainN t d) s.data.toList = rc at *
    have H1 := Lib.hid h1
    have s2 : (rc != 0) = true := by simpa using h1
    have s3 : (rc == 0) = false := by simpa using h1
    clear HE h1
    go_enter Tryz.func26, Tryz.ntmps26
    go_wp2_with fail
    refine HP.out.mono ?_
    rintro e w1 ⟨rfl, hb⟩
    have B1 := Lib.hid hb
    clear hb
    go_wp2_with fail
    go_ret2
    exact wrote_put hR.out HX.out H1.out rfl B1.out
end
end Go.Proofs.YtpihldcchjoinaaGreatDoor.W07
/-
  Layer 7 (tree): plain mathematics of the landed code's Move: which case is which; what is kept of each node when another one makes room. Lists alone. No condition but those that each theorem bears.
-/
namespace Go.Proofs.YtpihldcchjoinaaGreatDoor.W07
open Go Go.Proofs.YtpihldcchjoinaaGreatDoor.M07 Go.Proofs.YtpihldcchjoinaaGreatDoor.Maps
open Go.Proofs.YtpihldcchjoinaaGreatDoor.M06 (Ent)
open Go.Proofs.YtpihldcchjoinaaGreatDoor.M03 (check lt)
section
variable {t : Tr}
/-! Move, case by case -/
section
variable {src dst : Int} {s : Bytes} {al : Bytes}
end
end
end Go.Proofs.YtpihldcchjoinaaGreatDoor.W07
/-
  Layer 7 (tree), walks: the landed code's Move. The bounds stand in the statements.
-/
namespace Go.Proofs.YtpihldcchjoinaaGreatDoor.W07
open Go Go.RowKit Go.Proofs.YtpihldcchjoinaaGreatDoor.Strs Go.Proofs.YtpihldcchjoinaaGreatDoor.Recs Go.Proofs.YtpihldcchjoinaaGreatDoor.M07 Go.Proofs.YtpihldcchjoinaaGreatDoor.Maps Go.Proofs.YtpihldcchjoinaaGreatDoor.Range
open Go.Proofs.YtpihldcchjoinaaGreatDoor.M06 (Ent)
open Go.Proofs.YtpihldcchjoinaaGreatDoor.M03 (check)
open Go.Proofs.YtpihldcchjoinaaGreatDoor.W06 (Ents HandsE)
open Go.Proofs.YtpihldcchjoinaaGreatDoor.Kit (ret_str ret_bool ret_int mk_of mk_bytes ba_ext below_draws on list_full list_ne list_none list_nil bytes_nil)

section
variable {F : Nat → Prop} {w w' w1 w2 w3 : World} {v : Value} {t : Tr} {sb mb : Nat} {g : Int → Nod} {lv : Int → Value} {last : Int} {m : Nat}
end
end Go.Proofs.YtpihldcchjoinaaGreatDoor.W07
/-
  Layer 7 (tree), walks: the landed code's Copy: a map filled in whatever order another one is gone through. The bounds stand in the statements.
-/
namespace Go.Proofs.YtpihldcchjoinaaGreatDoor.W07
open Go Go.RowKit Go.Proofs.YtpihldcchjoinaaGreatDoor.Strs Go.Proofs.YtpihldcchjoinaaGreatDoor.Recs Go.Proofs.YtpihldcchjoinaaGreatDoor.M07 Go.Proofs.YtpihldcchjoinaaGreatDoor.Maps Go.Proofs.YtpihldcchjoinaaGreatDoor.Range
open Go.Proofs.YtpihldcchjoinaaGreatDoor.M06 (Ent)
open Go.Proofs.YtpihldcchjoinaaGreatDoor.M03 (check)
open Go.Proofs.YtpihldcchjoinaaGreatDoor.W06 (Ents HandsE)
open Go.Proofs.YtpihldcchjoinaaGreatDoor.Kit (ret_str ret_bool ret_int mk_of mk_bytes ba_ext below_draws on list_full list_ne list_none list_nil bytes_nil)

section
variable {F : Nat → Prop} {w wr w1 w2 w3 w4 w5 : World} {v : Value} {t : Tr} {sb mb : Nat} {g : Int → Nod} {lv lv' : Int → Value} {last : Int} {m sz cnt cnt' : Nat} {left : Int → Bool}
/-- what the copy holds so far -/
structure CopyAt (w wr : World) (g : Int → Nod) (lv' : Int → Value) (left : Int → Bool) (m sz cnt : Nat) : Prop where
  map : MapIs wr Tryz.prog 3 w.heap.size (fun i => if left i = true then none else held g lv' i) sz
  size : sz + cnt ≤ m
  list : ∀ i, (g i).kind ≠ 0 → left i = false → Ents wr.heap.size wr (lv' i) (g i).list
  at_ : ∀ i b o c d, (g i).kind ≠ 0 → left i = false → 0 < (g i).list.length → lv' i = .slice (some ⟨b, o, none⟩) c d → w.heap.size + 1 < b
  below : Below w.heap.size w wr
  next : w.heap.size + 1 < wr.heap.size
theorem CopyAt.start (hg : (w.alloc (.map #[] 0)).grownBy w1 none) (hs : w1.heap.size = w.heap.size + 2) : CopyAt w w1 g (fun _ => .slice none 0 0) (fun i => (held g lv i).isSome) m 0 m where
  map := ((map_made w Tryz.prog 3).keep (hg.block _ (by simp) (by simp))).as (fun i => by
    by_cases e : (g i).kind = 0
    · simp [held, e]
    · simp [held, e]) rfl
  size := by omega
  list := fun i hk hl => by simp [held, hk] at hl
  at_ := fun i b o c d hk hl => by simp [held, hk] at hl
  below := ((Below.refl w.heap.size w).alloc (Nat.le_refl _) _).grown hg (by simp) (fun k hk => by cases hk)
  next := by omega
theorem CopyAt.map4 (h : CopyAt w wr g lv' left m sz cnt) (hg : wr.grownBy w1 (some (w.heap.size + 1))) (hs1 : w1.heap.size = wr.heap.size) (hb : Below w1.heap.size w1 w4) : MapIs w4 Tryz.prog 3 w.heap.size (fun i => if left i = true then none else held g lv' i) sz := by
  have h1 := h.next
  exact h.map.keep ((hb.block _ (by omega)).trans (hg.block _ (by omega) (by intro e; injection e with e; omega)))
theorem CopyAt.below1 (h : CopyAt w wr g lv' left m sz cnt) (hg : wr.grownBy w1 (some (w.heap.size + 1))) : Below w.heap.size w w1 := by
  have h1 := h.next
  exact h.below.grown hg (by omega) (fun k hk => by cases hk; omega)
theorem CopyAt.step {n : Int} {u : Value} (h : CopyAt w wr g lv' left m sz cnt) (hg : wr.grownBy w1 (some (w.heap.size + 1))) (hs1 : w1.heap.size = wr.heap.size) (hb : Below w1.heap.size w1 w4) (hu : Ents w4.heap.size w4 u (g n).list)
    (hn : ∀ b o c d, u = .slice (some ⟨b, o, none⟩) c d → w1.heap.size ≤ b) (hk : (g n).kind ≠ 0) (hmap : MapIs w5 Tryz.prog 3 w.heap.size (upd (fun i => if left i = true then none else held g lv' i) n (some (nodV (g n) u))) (sz + 1)) (ht : w4.mapTurned w5 w.heap.size) (hc : cnt' < cnt) :
    CopyAt w w5 g (upd lv' n u) (upd left n false) m (sz + 1) cnt' := by
  have hnx := h.next
  have hg5 := ht.grown
  have hs4 := hb.size
  have hs5 := hg5.size
  refine ⟨hmap.as (fun i => ?_) rfl, by have := h.size; omega, fun i hi hl => ?_, fun i b o c d hi hl h0 e => ?_, ?_, by omega⟩
  · unfold upd held
    by_cases e : i = n
    · subst e; simp [hk]
    · simp [e]
  · unfold upd at hl ⊢
    by_cases e : i = n
    · subst e
      rw [if_pos rfl]
      refine (ents_keep hu fun b o c d _ _ e2 => hg5.block b ?_ ?_).more hs5
      · assumption
      · have := hn b o c d e2
        intro e3; injection e3 with e3; omega
    · rw [if_neg e] at hl ⊢
      refine (ents_keep (h.list i hi hl) fun b o c d h0 hlt e2 => ?_).more (by omega)
      have hb1 := h.at_ i b o c d hi hl h0 e2
      rw [hg5.block b (by omega) (by intro e3; injection e3 with e3; omega), hb.block b (by omega), hg.block b hlt (by intro e3; injection e3 with e3; omega)]
  · unfold upd at hl e
    by_cases e1 : i = n
    · rw [if_pos e1] at e
      have := hn b o c d e
      omega
    · rw [if_neg e1] at hl e
      exact h.at_ i b o c d hi hl h0 e
  · exact ((h.below1 hg).trans (hb.mono (by omega))).grown hg5 (by omega) (fun k hk => by cases hk; exact Nat.le_refl _)
end
end Go.Proofs.YtpihldcchjoinaaGreatDoor.W07
/-
  Layer 7 (tree): the landed code keeps the contracts that are asked of it ('Trees'); the calls of a nil pointer.
-/
namespace Go.Proofs.YtpihldcchjoinaaGreatDoor.W07
set_option maxRecDepth 100000
open Go Go.RowKit Go.Proofs.YtpihldcchjoinaaGreatDoor.Strs Go.Proofs.YtpihldcchjoinaaGreatDoor.Recs Go.Proofs.YtpihldcchjoinaaGreatDoor.M07 Go.Proofs.YtpihldcchjoinaaGreatDoor.Maps Go.Proofs.YtpihldcchjoinaaGreatDoor.Range
open Go.Proofs.YtpihldcchjoinaaGreatDoor.M06 (Ent)
open Go.Proofs.YtpihldcchjoinaaGreatDoor.M03 (check)
open Go.Proofs.YtpihldcchjoinaaGreatDoor.W06 (Ents HandsE)
open Go.Proofs.YtpihldcchjoinaaGreatDoor.Kit (ret_str ret_bool ret_int mk_of mk_bytes ba_ext below_draws on list_full list_ne list_none list_nil bytes_nil)

theorem trees : Trees Rep where
  keep := fun h hk hs => h.keep hk hs
  low := fun h => h.low
  right := fun h => h.1
  new := new_any
  kind := fun h _ n => by obtain ⟨-, sb, mb, lv, rfl, hM⟩ := h; exact kind_any hM n
  data := fun h _ n => by obtain ⟨-, sb, mb, lv, rfl, hM⟩ := h; exact data_any hM n
  up := fun h _ n => by obtain ⟨-, sb, mb, lv, rfl, hM⟩ := h; exact up_any hM n
  len := fun h _ => by obtain ⟨-, sb, mb, lv, rfl, hM⟩ := h; exact len_any hM
  lists := fun {F w v t} h hs n => by
    obtain ⟨-, sb, mb, lv, rfl, hM⟩ := h
    have hl := plain_short hs n
    refine (list_any hM n (by omega)).mono ?_
    rintro e w' ⟨u, he, hu, hn, hb⟩
    exact ⟨u, he, hu, fun b o n c e2 => Or.inr (hn b o n c e2), hb⟩
  put := fun h hs d s kind x _ => put_any h hs d s kind x
  set := fun h hs n x _ => set_any h hs n x

/-! the calls of a nil pointer -/
def TellsN (u : Value) (w : World) (e : Ending) (w' : World) : Prop := e = .returned u ∧ Below w.heap.size w w'
theorem node_nil (n : Int) (w : World) : Calls Tryz.prog 77 #[.pointer none, .int .i64 n] w fun e w' => e = .returned (.agg #[.int .i64 0, .int .i64 0, .string ⟨#[]⟩, .slice none 0 0]) ∧ Below w.heap.size w w' := by
  go_enter Tryz.func77, Tryz.ntmps77
  go_wp2_with fail
  refine bodyPost_ret_by (v := .agg #[.int .i64 0, .int .i64 0, .string ⟨#[]⟩, .slice none 0 0]) ?_ rfl ⟨rfl, ?_⟩
  · rw [results_cell_one rfl]
    go_simp
  · exact (Below.refl _ _).alloc (Nat.le_refl _) _
theorem kind_nil (w : World) (n : Int) : Calls Tryz.prog 42 #[.pointer none, .int .i64 n] w (TellsN (.int .i64 0) w) := by
  have HC := Lib.hid (node_nil n w)
  have hf := nod_kind 0 0 ⟨#[]⟩ none 0 0
  go_enter Tryz.func42, Tryz.ntmps42
  go_wp2_with fail
  refine HC.out.mono ?_
  rintro e w1 ⟨rfl, hb⟩
  go_wp2_with fail
  go_ret
  exact ⟨rfl, hb⟩
end Go.Proofs.YtpihldcchjoinaaGreatDoor.W07
/-
  Go's slices.Reverse on a slice of texts, in words of rows that a call owns: out of the laid contracts. No condition but those that the theorem bears.
-/
namespace Go.Proofs.YtpihldcchjoinaaGreatDoor.Strs
open Go Go.RowKit Go.Sort

theorem reverse_own (v : Value) (L : List (List UInt8)) (n base : Nat) (w : World) (h : w.ownsRow base 9 1 v n (L.map strV)) (hn : L.length ≤ 8796093022208) :
    Calls Tryz.prog 62 #[v] w fun e w' => e = .returned (.tuple #[]) ∧ w'.ownsRow base 9 1 v n (L.reverse.map strV) ∧ Below base w w' := by
  have hl : L.length = n := by have := h.1; simpa using this
  rcases h.2 with ⟨rfl, h0⟩ | ⟨g, cap, cur, rfl, hg, hh, h1, h2, h3, h4⟩
  · subst h0
    have hL : L = [] := List.length_eq_zero_iff.1 hl
    subst hL
    refine (Tryz.slices_Reverse_string_empty none 0 w).mono ?_
    rintro e w' ⟨rfl, rfl⟩
    exact ⟨rfl, by simpa using h, Below.refl _ _⟩
  · obtain ⟨g', cap', e, hg', hlt, -, -, -, hH⟩ := Lib.holds_of_ownsRow (enc := encStr) h (by simp)
    injection e with e1 e2 e3
    injection e1 with e1
    injection e1 with e1
    subst e1 e3
    subst hl
    refine (Tryz.slices_Reverse_string g 0 cap L w hH (by omega)).mono ?_
    rintro e w' ⟨rfl, k, rfl⟩
    have ho := Lib.ownsRow_putRow (enc := encStr) (q := k) (k := L.length) (ys := L.reverse) h (by simp) (Nat.le_refl _)
    rw [List.take_of_length_le (by simp)] at ho
    exact ⟨rfl, ho, Lib.below_putRow (Below.refl base w) hg⟩
end Go.Proofs.YtpihldcchjoinaaGreatDoor.Strs
/-
  Go's strings.Join of a slice of texts with a slash between, in words of texts: out of the laid contracts. The conditions stand in the statement.
-/
namespace Go.Proofs.YtpihldcchjoinaaGreatDoor.Strs
open Go Go.RowKit Go.Proofs.YtpihldcchjoinaaGreatDoor.M04
open Go.Proofs.YtpihldcchjoinaaGreatDoor.Kit (mk_bytes mk_of ret_str on)

theorem join_slashed : ∀ L : List Bytes, Lib.join L [47] = slashed L
  | [] => rfl
  | [p] => by rw [Lib.join_one]; rfl
  | p :: q :: r => by
    have h := join_slashed (q :: r)
    rw [Lib.join_cons] at h ⊢
    show p ++ Lib.joinTail [47] (q :: r) = p ++ 47 :: slashed (q :: r)
    rw [← h]
    simp [Lib.joinTail]
theorem datas_map (L : List Bytes) : (L.map fun l => (⟨l.toArray⟩ : ByteArray)).map (·.data.toList) = L := by
  rw [List.map_map]
  exact List.map_id _
theorem join_texts (v : Value) (L : List Bytes) (d : ByteArray) (w : World) (h : Texts w.heap.size w v L) (hd : d.data.toList = slashed L) (hn : L.length ≤ 140737488355328) (hl : (slashed L).length ≤ 140737488355328) :
    Calls Tryz.prog 63 #[v, .string ⟨#[47]⟩] w fun e w' => e = .returned (.string d) ∧ Below w.heap.size w w' := by
  obtain ⟨A, c, rfl, h1, h2, h3⟩ := h
  rcases Nat.eq_zero_or_pos L.length with h0 | h0
  · obtain rfl : L = [] := List.length_eq_zero_iff.1 h0
    refine (Tryz.strings_Join_none A c ⟨#[47]⟩ w).mono ?_
    rintro e w' ⟨rfl, rfl⟩
    exact ⟨ret_str (Kit.ba_ext hd.symm), Below.refl _ _⟩
  · obtain ⟨ad, rfl, hb, hc⟩ := h3 h0
    obtain ⟨b, off, spot⟩ := ad
    have hspot : spot = none := by simpa [Addr.add] using World.cell?_spot (hc 0 h0)
    subst hspot
    have hk := Tryz.strings_Join b off c (L.map fun l => (⟨l.toArray⟩ : ByteArray)) ⟨#[47]⟩ w (by
      intro j x hx
      rw [List.getElem?_map] at hx
      obtain ⟨l, hl, rfl⟩ := Option.map_eq_some_iff.1 hx
      have hj : j < L.length := (List.getElem?_eq_some_iff.1 hl).1
      have := hc j hj
      rw [Addr.add_lit, List.getD_eq_getElem?_getD, hl] at this
      exact this) hb (by rw [List.length_map]; exact hn) (by rw [List.length_map]; exact h1) (by rw [datas_map, show (⟨#[47]⟩ : ByteArray).data.toList = [47] from rfl, join_slashed]; exact hl)
    rw [datas_map, show (⟨#[47]⟩ : ByteArray).data.toList = [47] from rfl, join_slashed, List.length_map] at hk
    refine hk.mono ?_
    rintro e w' ⟨rfl, hb2⟩
    exact ⟨ret_str (mk_of hd), hb2⟩
end Go.Proofs.YtpihldcchjoinaaGreatDoor.Strs
/-
  Layer 8 (seek): Straight: whether a path leads by directories alone; nameOf, Real: a node's own path; nothing that was there is changed. The conditions stand in the statement.
-/
namespace Go.Proofs.YtpihldcchjoinaaGreatDoor.W08
set_option maxRecDepth 100000
open Go Go.RowKit Go.Proofs.YtpihldcchjoinaaGreatDoor.Strs Go.Proofs.YtpihldcchjoinaaGreatDoor.Recs Go.Proofs.YtpihldcchjoinaaGreatDoor.Range
open Go.Proofs.YtpihldcchjoinaaGreatDoor.M07 (Tr Nd nodeAt inDir Right at_some height upOf)
open Go.Proofs.YtpihldcchjoinaaGreatDoor.M08 Go.Proofs.YtpihldcchjoinaaGreatDoor.M04
open Go.Proofs.YtpihldcchjoinaaGreatDoor.M03 (check)
open Go.Proofs.YtpihldcchjoinaaGreatDoor.W07 (Small Trees trees listed)
open Go.Proofs.YtpihldcchjoinaaGreatDoor.Kit (ret_str ret_bool ret_int mk_of mk_bytes ba_ext below_draws on list_full list_ne list_none list_nil bytes_nil bytes_ne cat_bytes)

theorem rep_form {F : Nat → Prop} {w : World} {v : Value} {t : Tr} (P : W07.Rep F w v t) : ∃ sb, v = .pointer (some ⟨sb, 0, none⟩) := by
  obtain ⟨-, sb, mb, lv, rfl, -⟩ := P
  exact ⟨sb, rfl⟩
/-- which entry of a directory is a node's own -/
theorem own_at {t : Tr} (h : Right t) {n : Int} (hk : (nodeAt t.L n).kind ≠ 0) (h1 : n ≠ 1) : ∃ i : Nat, (listed t (nodeAt t.L n).up)[i]? = some ((nodeAt t.L n).name, n) ∧ ∀ (j : Nat) (e : M06.Ent), (listed t (nodeAt t.L n).up)[j]? = some e → j ≠ i → e.2 ≠ n := by
  obtain ⟨A, B, e, hA, hB⟩ := own_entry h hk h1
  rw [e]
  refine ⟨A.length, by simp, fun j x hj hne => ?_⟩
  rcases Nat.lt_or_ge j A.length with q | q
  · rw [List.getElem?_append_left q] at hj
    exact hA _ (List.mem_of_getElem? hj)
  · rw [List.getElem?_append_right q] at hj
    obtain ⟨m, hm⟩ : ∃ m, j - A.length = m + 1 := ⟨j - A.length - 1, by omega⟩
    rw [hm, List.getElem?_cons_succ] at hj
    exact hB _ (List.mem_of_getElem? hj)
/-- an own row stays -/
theorem own_on {w w' : World} {base : Nat} {e : TypeId} {size n : Nat} {v : Value} {xs : List Value} (h : w.ownsRow base e size v n xs) (hb : Below w.heap.size w w') : w'.ownsRow base e size v n xs := (Turns.new (T := fun _ => False) hb).row h (fun _ _ h => h)
/-- the path of the names, as it is put together -/
theorem text_slashed (L : List Bytes) : text L = 47 :: slashed L := by
  by_cases h : L = []
  · subst h; rfl
  · rw [← W04.slashed_flat L h]
    unfold text
    rw [if_neg h]; rfl
set_option maxHeartbeats 4000000 in
theorem nameOf_any {F : Nat → Prop} {w : World} {v : Value} {t : Tr} (P : W07.Rep F w v t) (G : Good t) (n : Int) (hk : (nodeAt t.L n).kind ≠ 0) (h1 : n ≠ 1) (nm : ByteArray) (hnl : nm.data.toList = (nodeAt t.L n).name) : Calls Tryz.prog 61 #[v, .int .i64 n] w fun e w' => e = .returned (.string nm) ∧ Below w.heap.size w w' := by
  have HP := Lib.hid P
  have HG := Lib.hid G
  have HR := Lib.hid (trees.right P)
  obtain ⟨sb, rfl⟩ := rep_form P
  have HUP := Lib.hid (trees.up P G.small n)
  have HLS := Lib.hid (fun (w' : World) (hb : Below w.heap.size w w') => trees.list (trees.below P hb) G.small (nodeAt t.L n).up)
  obtain ⟨i, hown, hoth⟩ := own_at HR.out hk h1
  rw [← hnl] at hown
  have HLL := Lib.hid (listed_len HG.out.small (nodeAt t.L n).up)
  generalize listed t (nodeAt t.L n).up = LS at *
  generalize hup0 : (nodeAt t.L n).up = uk at *
  have HOW := Lib.hid hown
  have HOT := Lib.hid hoth
  clear hk h1 hown hoth hnl P G hup0
  go_enter Tryz.func61, Tryz.ntmps61
  go_wp2_with fail
  refine HUP.out.mono ?_
  rintro e w2 ⟨rfl, hb2⟩
  have B2 := Lib.hid hb2
  clear hb2
  go_wp2_with fail
  refine (HLS.out _ B2.out).mono ?_
  rintro e w3 ⟨u3, rfl, hu3, hb3⟩
  have B3 := Lib.hid (on B2.out hb3)
  have E3 := Lib.hid hu3
  obtain ⟨A3, c3, rfl, hc2, hc3⟩ := hu3.form
  unfold maxLen at hc3
  clear hu3 hb3 B2
  generalize hm : LS.length = m at *
  have HM := Lib.hid hm
  clear hm
  have hil : i < m := by
    have := HOW.out
    rw [← HM.out]
    exact (List.getElem?_eq_some_iff.1 this).1
  go_wp2_with fail
  go_loopw [13] (fun u13 wr => ∃ (j : Nat), j ≤ i ∧ u13 = .int .i64 j ∧ Hid (Below w3.heap.size w3 wr)) (fun u13 _ => m - (intOf u13).toNat)
  case atStart => exact ⟨0, Nat.zero_le _, rfl, Below.refl _ _⟩
  case round =>
    obtain ⟨j, hj, rfl, hb4⟩ := hrel
    have hlt : j < m := by omega
    obtain ⟨b, o, hl1, s, rfl, hbl, hs, hc0, hc1⟩ := W06.Ents.at_ (E3.out.below hb4.out) hlt
    have HA4 := Lib.hid (fun (o : Obj) => hb4.out.alloc hb4.out.size o)
    by_cases hji : j = i
    · have he : LS[j] = (nm.data.toList, n) := by
        have := HOW.out
        rw [← hji, List.getElem?_eq_getElem hl1] at this
        exact Option.some.inj this
      obtain rfl : s = nm := ba_ext (by rw [hs, he])
      rw [he] at hc1
      have tkk : (n == n) = true := by simp
      clear hs he hji hbl
      go_wp2_with fail
      go_ret
      exact ⟨rfl, on B3.out (HA4.out _)⟩
    · have tkk : ((LS[j]).2 == n) = false := by
        rw [beq_eq_false_iff_ne]
        exact HOT.out j _ (List.getElem?_eq_getElem hl1) hji
      have hj2 : j + 1 ≤ i := by omega
      clear hs hji hbl
      go_wp2_with fail
      go_roundw
      case rel => exact ⟨j + 1, hj2, by go_num, HA4.out _⟩
      case measure => simp [intOf]; omega
theorem slashed_bound {L : List Bytes} : (slashed L).length ≤ (flatN L).length := by
  by_cases h : L = []
  · subst h; exact Nat.zero_le _
  · have : flatN L = 47 :: slashed L := W04.slashed_flat L h
    rw [this, List.length_cons]; omega
set_option maxHeartbeats 8000000 in
theorem real_any {F : Nat → Prop} {w : World} {v : Value} {t : Tr} (P : W07.Rep F w v t) (G : Good t) (n : Int) : Calls Tryz.prog 29 #[v, .int .i64 n] w fun e w' => e = .returned (.tuple #[.string ⟨(real t n).1.toArray⟩, .bool (real t n).2]) ∧ Below w.heap.size w w' := by
  obtain ⟨i0, hi, hz0, hz1, hz2⟩ := info_parts text_info
  have HI := Lib.hid hi
  clear hi
  have HP := Lib.hid P
  have HG := Lib.hid G
  have HR := Lib.hid (trees.right P)
  obtain ⟨sb, rfl⟩ := rep_form P
  have HK0 := Lib.hid (trees.kind P G.small n)
  by_cases hk : (nodeAt t.L n).kind = 0
  · have HX : Hid (real t n = ([], false)) := if_pos hk
    generalize real t n = R at *
    rw [hk] at HK0
    clear hk P G
    go_enter Tryz.func29, Tryz.ntmps29
    go_wp2_with fail
    refine HK0.out.mono ?_
    rintro e w2 ⟨rfl, hb⟩
    go_wp2_with fail
    go_ret2
    exact ⟨ret_real (a := ⟨#[]⟩) HX.out, hb⟩
  · have HX : Hid (real t n = (text (names t n), true)) := if_neg hk
    have tk : ((nodeAt t.L n).kind == 0) = false := by simpa using hk
    have HB := Lib.hid (names_bound HR.out HG.out.named hk)
    have HL := Lib.hid HG.out.small.1
    have HKN := Lib.hid hk
    have HNL : Hid ((names t n).length ≤ 1048576) := by
      have h1 := names_len HR.out _ hk rfl
      have h2 := height_le HR.out hk
      have h3 := HL.out
      show _ ≤ 1048576
      omega
    clear hk P G
    generalize real t n = R at *
    go_enter Tryz.func29, Tryz.ntmps29
    go_wp2_with fail
    refine HK0.out.mono ?_
    rintro e w1 ⟨rfl, hb⟩
    have B1 := Lib.hid hb
    clear hb
    go_wp2_with fail
    go_loopw [1, 6] (fun u1 u6 wr => ∃ (k : Int) (acc : List Bytes), u1 = .int .i64 k ∧ Hid (wr.ownsRow w.heap.size 9 1 u6 acc.length (acc.map strV)) ∧ Hid ((nodeAt t.L k).kind ≠ 0) ∧ Hid (names t n = names t k ++ acc.reverse) ∧ Hid (Below w.heap.size w wr)) (fun u1 _ _ => height t.L (intOf u1))
    case atStart => exact ⟨n, [], rfl, World.ownsRow_nil _ _ _ _, HKN.out, by show _ = _; simp, B1.out⟩
    case round =>
      obtain ⟨k, acc, rfl, hown, hk, hf, hb⟩ := hrel
      have hal : acc.length ≤ 1048576 := by
        have h1 := HNL.out
        rw [hf.out, List.length_append, List.length_reverse] at h1
        omega
      by_cases k1 : k = 1
      · subst k1
        have HF : Hid (names t n = acc.reverse) := by
          have := hf.out
          rw [names_root] at this
          exact this
        have HREV := Lib.hid (reverse_own _ acc _ _ wr hown.out (by omega))
        have hsl : (slashed acc.reverse).length ≤ 1099511627776 := by
          rw [← HF.out]
          have h1 := slashed_bound (L := names t n)
          have h2 := HB.out
          have h3 := HL.out
          omega
        obtain ⟨d, hd⟩ : ∃ d : ByteArray, d.data.toList = slashed acc.reverse := ⟨⟨(slashed acc.reverse).toArray⟩, rfl⟩
        have HJ := Lib.hid (fun (u : Value) (w' : World) (h : Texts w'.heap.size w' u acc.reverse) => join_texts u acc.reverse d w' h hd (by rw [List.length_reverse]; omega) (by omega))
        have hds : d.size ≤ 1099511627776 := by rw [Lib.size_eq, hd]; exact hsl
        have HT : Hid (text (names t n) = 47 :: d.data.toList) := by
          show _ = _
          rw [text_slashed, HF.out, hd]
        clear hf hsl hd
        go_wp2_with fail
        refine HREV.out.mono ?_
        rintro e w2 ⟨rfl, ho2, hb2⟩
        have hl2 : acc.length = acc.reverse.length := List.length_reverse.symm
        have T2 := Lib.hid (Texts.of_own (L := acc.reverse) (by exact ho2))
        have B2 : Hid (Below w.heap.size w w2) := hb.out.trans hb2
        clear ho2 hb2 hl2
        go_wp2_with fail
        refine (HJ.out _ _ T2.out).mono ?_
        rintro e w3 ⟨rfl, hb3⟩
        have B3 := Lib.hid (on B2.out hb3)
        clear hb3
        go_wp2_with fail
        go_ret2
        have hfin : R = ((⟨#[47]⟩ ++ d : ByteArray).data.toList, true) := by rw [HX.out, HT.out, cat_bytes]; rfl
        exact ⟨ret_real hfin, B3.out⟩
      · have tn : (k != 1) = true := by simpa using k1
        have HN1 := Lib.hid (names_next HR.out hk.out k1)
        have HH := Lib.hid (height_next (HR.out.reach hk.out) k1)
        have hup := HR.out.up _ (at_some hk.out).1
        have HUK : Hid ((nodeAt t.L (nodeAt t.L k).up).kind ≠ 0) := by show _ ≠ _; rw [hup]; decide
        obtain ⟨nm, hnl⟩ : ∃ nm : ByteArray, nm.data.toList = (nodeAt t.L k).name := ⟨⟨(nodeAt t.L k).name.toArray⟩, rfl⟩
        have HNO := Lib.hid (nameOf_any (W07.trees.below HP.out hb.out) HG.out k hk.out k1 nm hnl)
        have HUP := Lib.hid (fun (w' : World) (hb : Below w.heap.size w w') => trees.up (trees.below HP.out hb) HG.out.small k)
        have HACC : Hid (names t n = names t (nodeAt t.L k).up ++ (acc ++ [nm.data.toList]).reverse) := by
          show _ = _
          rw [hf.out, HN1.out, List.reverse_append, hnl]; simp
        have HM : Hid (∀ uk : Int, (nodeAt t.L k).up = uk → height t.L uk < height t.L k) := fun uk e => by
          have e2 : upOf t.L k = uk := e
          rw [HH.out, e2]
          exact Nat.lt_succ_self _
        generalize hup0 : (nodeAt t.L k).up = uk at *
        have HM := Lib.hid (HM.out uk rfl)
        clear hup k1 HN1 HH hf hnl
        go_wp2_with fail
        refine HNO.out.mono ?_
        rintro e w2 ⟨rfl, hb2⟩
        have B2 := Lib.hid (on hb.out hb2)
        have O2 : Hid (w2.ownsRow w.heap.size 9 1 u6 acc.length (acc.map strV)) := own_on hown.out hb2
        have hsz := B2.out.size
        clear hb2
        go_wp2_with (at_builtin; refine wpList_append_own _ rfl (.tmp 16) (.tmp 20) 37 rfl w.heap.size 9 i0 (.string ⟨#[]⟩) 1 16 Tryz.underlying37 HI.out hz0 hz1 hz2 rfl (by decide) _ _ _ rfl (O2.out.alloc _) ⟨_, 0, none⟩ 1 1 [.string nm] rfl rfl (cell_one_new _ _ _) (by intro u hu; simp at hu; subst hu; rfl) (by unfold maxLen; omega) (by omega) (by simp; omega) ?_; intro v1 w3 hown1 hgrow1 _)
        have B3 := Lib.hid (below_more B2.out O2.out hgrow1)
        have O3 := Lib.hid (own_more hown1)
        clear hown1 hgrow1
        go_wp2_with fail
        refine (HUP.out _ B3.out).mono ?_
        rintro e w4 ⟨rfl, hb4⟩
        have O4 : Hid (w4.ownsRow w.heap.size 9 1 v1 (acc ++ [nm.data.toList]).length ((acc ++ [nm.data.toList]).map strV)) := own_on O3.out hb4
        have B4 := Lib.hid (on B3.out hb4)
        clear hb4
        go_wp2_with fail
        go_roundw
        case rel => exact ⟨uk, acc ++ [nm.data.toList], rfl, O4.out, HUK.out, HACC.out, B4.out⟩
        case measure => exact HM.out
end Go.Proofs.YtpihldcchjoinaaGreatDoor.W08
/-
  Maps keyed by whatever type of keys may be: a map of which each entry bears a property of its key and its value: made, looked up ('v, ok := m[k]'), stored into; for every program. Plain lemmas on worlds; no condition but those that each theorem bears.
-/
namespace Go.Proofs.YtpihldcchjoinaaGreatDoor.Maps
open Go Go.RowKit Go.Maps Go.ChangeMaps Go.MapKept
open Go.WideElems (Fit rd rg pl rd_key rd_val rg_of)

/-- in w the block b is a map of at most m entries, and V holds of each one's key and value -/
def MapAll (w : World) (P : Program) (k : TypeId) (b m : Nat) (V : Value → Value → Prop) : Prop :=
  ∃ es clock, w.heap[b]? = some (.map es clock) ∧ Fit P k hold es clock ∧ es.size ≤ m ∧ ∀ x ∈ es.toList, V x.key x.val
section
variable {P : Program} {k t e : TypeId} {w w' : World} {b m : Nat} {V : Value → Value → Prop}
theorem mapAll_made (w : World) (P : Program) (k : TypeId) (V : Value → Value → Prop) : MapAll (w.alloc (.map #[] 0)) P k w.heap.size 0 V := by
  obtain ⟨es, clock, h1, h2, h3, -⟩ := World.ownsMap_made (H := Value) w P k hold
  refine ⟨es, clock, h1, h2, h3, fun x hx => ?_⟩
  have : es.toList = [] := List.length_eq_zero_iff.1 (by simpa using h3)
  rw [this] at hx
  cases hx
theorem MapAll.keep (h : MapAll w P k b m V) (hb : w'.heap[b]? = w.heap[b]?) : MapAll w' P k b m V := by
  obtain ⟨es, clock, h1, r⟩ := h
  exact ⟨es, clock, hb.trans h1, r⟩
theorem MapAll.lt (h : MapAll w P k b m V) : b < w.heap.size := by
  obtain ⟨es, clock, h1, r⟩ := h
  exact (Array.getElem?_eq_some_iff.1 h1).1
theorem MapAll.below (h : MapAll w P k b m V) (hb : Below w.heap.size w w') : MapAll w' P k b m V := h.keep (hb.block b h.lt)
theorem MapAll.more (h : MapAll w P k b m V) {n : Nat} (hn : m ≤ n) : MapAll w P k b n V := by
  obtain ⟨es, clock, h1, h2, h3, h4⟩ := h
  exact ⟨es, clock, h1, h2, Nat.le_trans h3 hn, h4⟩
/-- no cell lies in a map's block -/
theorem MapAll.nocell (h : MapAll w P k b m V) (a : Addr) (ha : a.block = b) : w.cell? a = none := by
  obtain ⟨es, clock, h1, r⟩ := h
  obtain ⟨bb, o, s⟩ := a
  cases ha
  have h2 : w.heap[bb]? = some (.map es clock) := h1
  cases s with
  | none => simp [World.cell?, h2]
  | some q => simp [World.cell?, h2]
/-- 'v, ok := m[key]' -/
theorem MapAll.look (h : MapAll w P k b m V) (K : Keyed P k) (ht : P.underlying t = some (.map k e)) {z : Value} (hz : (zeroValue e).run P w = .ok z w) {key : Value} {kl : Lit} (hkey : keyOf P k key = some kl) :
    (Instr.lookup t (.map (some b)) key true).run P w = .ok (.tuple #[z, .bool false]) w ∨ ∃ v, V key v ∧ (Instr.lookup t (.map (some b)) key true).run P w = .ok (.tuple #[v, .bool true]) w := by
  obtain ⟨es, clock, hb, F, hs, hV⟩ := h
  rcases Maps.fit_look true K ht hz hb F hkey with ⟨hrun, _, hat⟩ | ⟨e0, y, hm, hk, hrun, hRv, hat, _⟩
  · exact Or.inl hrun
  · exact Or.inr ⟨e0.val, hk ▸ hV e0 hm, hrun⟩
/-- 'm[key] = v' -/
theorem MapAll.store (h : MapAll w P k b m V) (K : Keyed P k) (ht : P.underlying t = some (.map k e)) (hm : m < maxLen) {key : Value} {kl : Lit} (hkey : keyOf P k key = some kl) {v : Value} (hv : V key v) :
    ∃ w', (Instr.mapUpdate t (.map (some b)) key v).run P w = .ok () w' ∧ MapAll w' P k b (m + 1) V ∧ w.mapTurned w' b := by
  obtain ⟨es, clock, hb, F, hs, hV⟩ := h
  obtain ⟨es', clock', hrun, F', hput, -, -, hwho⟩ := Maps.fit_store (R' := hold) K ht hb F (Nat.lt_of_le_of_lt hs hm) (fun _ _ _ _ hz => hz) hkey (val := v) rfl
  refine ⟨_, hrun, ⟨es', clock', heap_setBlock_same hb _, F', ?_, fun x hx => ?_⟩, ⟨es, clock, es', clock', hb, rfl⟩⟩
  · have e1 : es'.size = ((es'.toList.map (rg P k hold)).foldr DataW.insert []).length := by rw [length_sorted]; simp
    rw [e1, hput]
    unfold putKey
    rw [length_insert]
    have e2 := List.length_filter_le (notKey kl) ((es.toList.map (rg P k hold)).foldr DataW.insert [])
    rw [length_sorted] at e2
    simp at e2
    omega
  · rcases hwho x hx with ⟨h1, -⟩ | ⟨h1, h2⟩
    · exact hV x h1
    · rw [h1, h2]; exact hv
end
end Go.Proofs.YtpihldcchjoinaaGreatDoor.Maps
/-
  Layer 8 (seek): the map of what was found: its keys (a directory's number and a name), what it may hold; how a map that is kept aside leaves all else as it is. Plain lemmas on worlds; no condition but those that each theorem bears.
-/
namespace Go.Proofs.YtpihldcchjoinaaGreatDoor.W08
open Go Go.RowKit Go.Proofs.YtpihldcchjoinaaGreatDoor.Strs Go.Proofs.YtpihldcchjoinaaGreatDoor.Maps
open Go.Proofs.YtpihldcchjoinaaGreatDoor.M07 (Tr inDir)

theorem laid_out : laidOutB Tryz.prog = true := by kernel_rfl
theorem place_row : (139 : TypeId) < Tryz.prog.types.size := of_decide_eq_true (by kernel_rfl)
theorem place_wide : (match Tryz.prog.underlying 139 with | some (.array _ _) | some (.struct _) => true | _ => false) = true := by rw [Tryz.underlying139]
set_option maxRecDepth 100000 in
theorem place_keyed : Maps.Keyed Tryz.prog 139   := Maps.Keyed.of_law (deep_law_laid laid_out (m := 2) (by omega) place_row (by kernel_rfl) place_wide)
theorem place_cells : Tryz.prog.cellsOf 139 = 2 := by kernel_rfl
theorem cells_int : Tryz.prog.cellsOf 3 = 1 := by kernel_rfl
theorem cells_string : Tryz.prog.cellsOf 9 = 1 := by kernel_rfl
theorem place_type : Tryz.prog.keyType 139 = true := by kernel_rfl
theorem types_some : ∃ m, Tryz.prog.types.size = m + 1 := by
  have h : (139 : Nat) < Tryz.prog.types.size := place_row
  exact ⟨Tryz.prog.types.size - 1, by omega⟩
theorem place_key (d : Int) (s : ByteArray) (hd : (Lit.int .i64 d).wf = true) (hs : s.size ≤ maxLen) : keyOf Tryz.prog 139 (.agg #[.int .i64 d, .string s]) = some (.string (keyBytes [.int .i64 d, .string s.data.toList])) := by
  obtain ⟨m, hm⟩ := types_some
  unfold keyOf
  simp only [Tryz.underlying139]
  rw [if_pos (by simp [place_type, Value.formed, Tryz.underlying139, place_cells]), hm]
  unfold Program.keyLits
  simp only [Tryz.underlying139, Value.cells]
  rw [if_pos (by simp [place_cells])]
  simp [cells_int, cells_string, Program.keyLits, Tryz.underlying3, Tryz.underlying9, hd, hs]
theorem seen_under : Tryz.prog.underlying 136 = some (.map 139 3) := Tryz.underlying136
theorem zero_int (w : World) : (zeroValue 3).run Tryz.prog w = .ok (.int .i64 0) w := by kernel_rfl
/-- what an entry tells: the node of that name in that directory -/
def found (t : Tr) (key v : Value) : Prop := ∀ (d : Int) (s : ByteArray), key = .agg #[.int .i64 d, .string s] → v = .int .i64 (inDir t.L d s.data.toList) ∧ inDir t.L d s.data.toList ≠ 0
/-- in w the block b holds a map of what was found, of at most m entries -/
abbrev Seen (t : Tr) (w : World) (b m : Nat) : Prop := MapAll w Tryz.prog 139 b m (found t)
section
variable {t : Tr} {w w' : World} {b m : Nat}
theorem Seen.ask (h : Seen t w b m) (d : Int) (s : ByteArray) (hd : (Lit.int .i64 d).wf = true) (hs : s.size ≤ maxLen) :
    (Instr.lookup 136 (.map (some b)) (.agg #[.int .i64 d, .string s]) true).run Tryz.prog w = .ok (.tuple #[.int .i64 0, .bool false]) w ∨
    (inDir t.L d s.data.toList ≠ 0 ∧ (Instr.lookup 136 (.map (some b)) (.agg #[.int .i64 d, .string s]) true).run Tryz.prog w = .ok (.tuple #[.int .i64 (inDir t.L d s.data.toList), .bool true]) w) := by
  rcases MapAll.look h place_keyed seen_under (zero_int w) (place_key d s hd hs) with h1 | ⟨v, hv, h1⟩
  · exact Or.inl h1
  · obtain ⟨e, h2⟩ := hv d s rfl
    subst e
    exact Or.inr ⟨h2, h1⟩
theorem Seen.put (h : Seen t w b m) (d : Int) (s : ByteArray) (hd : (Lit.int .i64 d).wf = true) (hs : s.size ≤ maxLen) (hm : m < maxLen) (hn : inDir t.L d s.data.toList ≠ 0) :
    ∃ w', (Instr.mapUpdate 136 (.map (some b)) (.agg #[.int .i64 d, .string s]) (.int .i64 (inDir t.L d s.data.toList))).run Tryz.prog w = .ok () w' ∧ Seen t w' b (m + 1) ∧ w.mapTurned w' b :=
  MapAll.store h place_keyed seen_under hm (place_key d s hd hs) (by
    intro d2 s2 e
    have e1 : d = d2 ∧ s = s2 := by simpa using e
    obtain ⟨rfl, rfl⟩ := e1
    exact ⟨rfl, hn⟩)
end

/-! all but a map -/
/-- nothing that was there has turned but the map in block b -/
structure Beside (b : Nat) (w w' : World) : Prop where
  os : w'.os = w.os
  tape : w'.tape = w.tape
  output : w'.output = w.output
  size : w.heap.size ≤ w'.heap.size
  block : ∀ i, i < w.heap.size → i ≠ b → w'.heap[i]? = w.heap[i]?
section
variable {w w' w'' : World} {b : Nat}
theorem Beside.refl (b : Nat) (w : World) : Beside b w w := ⟨rfl, rfl, rfl, Nat.le_refl _, fun _ _ _ => rfl⟩
theorem Beside.trans (h : Beside b w w') (k : Beside b w' w'') : Beside b w w'' := ⟨k.os.trans h.os, k.tape.trans h.tape, k.output.trans h.output, Nat.le_trans h.size k.size, fun i hi hb => (k.block i (Nat.lt_of_lt_of_le hi h.size) hb).trans (h.block i hi hb)⟩
theorem Beside.of_below (b : Nat) (h : Below w.heap.size w w') : Beside b w w' := ⟨h.os, h.tape, h.output, h.size, fun i hi _ => h.block i hi⟩
theorem Beside.of_turned (h : w.mapTurned w' b) : Beside b w w' := by
  have g := h.grown
  exact ⟨g.os, g.tape, g.output, g.size, fun i hi hb => g.block i hi (fun e => hb (Option.some.inj e))⟩
theorem Beside.below (h : Beside b w w') {B : Nat} (hb : B ≤ b) (hB : B ≤ w.heap.size) : Below B w w' := ⟨h.os, h.tape, h.output, h.size, fun i hi => h.block i (Nat.lt_of_lt_of_le hi hB) (by omega)⟩
theorem cell_block {w w' : World} (a : Addr) (h : w'.heap[a.block]? = w.heap[a.block]?) : w'.cell? a = w.cell? a := by
  obtain ⟨bb, o, s⟩ := a
  have h2 : w'.heap[bb]? = w.heap[bb]? := h
  unfold World.cell?
  simp only [h2]
/-- a cell that is there stays -/
theorem Beside.cell (h : Beside b w w') {a : Addr} {v : Value} (hc : w.cell? a = some v) (hn : a.block = b → w.cell? a = none) : w'.cell? a = some v := by
  by_cases e : a.block = b
  · rw [hn e] at hc; cases hc
  · have hl : a.block < w.heap.size := by
      rcases Nat.lt_or_ge a.block w.heap.size with q | q
      · exact q
      · have hz : w.heap[a.block]? = none := Array.getElem?_eq_none q
        have : w.cell? a = none := by
          obtain ⟨bb, o, s⟩ := a
          have hz2 : w.heap[bb]? = none := hz
          unfold World.cell?
          simp [hz2]
        rw [this] at hc; cases hc
    rw [cell_block a (h.block _ hl e)]
    exact hc
/-- texts stay, where no cell lies in the map's block -/
theorem Beside.texts (h : Beside b w w') (hn : ∀ a : Addr, a.block = b → w.cell? a = none) {B : Nat} {v : Value} {L : List (List UInt8)} (ht : Texts B w v L) : Texts B w' v L := by
  obtain ⟨A, c, e, h1, h2, h3⟩ := ht
  exact ⟨A, c, e, h1, h2, fun h0 => by
    obtain ⟨ad, e2, hb, hc⟩ := h3 h0
    exact ⟨ad, e2, hb, fun k hk => h.cell (hc k hk) (hn _)⟩⟩
end
end Go.Proofs.YtpihldcchjoinaaGreatDoor.W08
