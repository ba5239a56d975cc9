/-
  Texts joined, in build order, each with its own comment and its own conditions: W07New2, W07Put2, W07Goal.
-/
import Derived.Test.YtmbpgjncioegdaaGreatDoorJ16
/-
  Layer 7 (tree), walks: the landed code's New and Set; what it is that a pointer leads to a tree. The bounds stand in the statements.
-/
namespace Go.Proofs.YtmbpgjncioegdaaGreatDoor.W07
set_option maxRecDepth 100000
open Go Go.RowKit Go.Proofs.YtmbpgjncioegdaaGreatDoor.Strs Go.Proofs.YtmbpgjncioegdaaGreatDoor.Recs Go.Proofs.YtmbpgjncioegdaaGreatDoor.M07 Go.Proofs.YtmbpgjncioegdaaGreatDoor.Maps Go.Proofs.YtmbpgjncioegdaaGreatDoor.Range
open Go.Proofs.YtmbpgjncioegdaaGreatDoor.M06 (Ent)
open Go.Proofs.YtmbpgjncioegdaaGreatDoor.M03 (check)
open Go.Proofs.YtmbpgjncioegdaaGreatDoor.W06 (Ents HandsE)
open Go.Proofs.YtmbpgjncioegdaaGreatDoor.Kit (ret_str ret_bool ret_int mk_of mk_bytes ba_ext below_draws on list_full list_ne list_none list_nil bytes_nil)

/-- in w the pointer v leads to a tree that reads as t and lies in the blocks of F -/
def Rep (F : Nat → Prop) (w : World) (v : Value) (t : Tr) : Prop := Right t ∧ ∃ sb mb lv, v = .pointer (some ⟨sb, 0, none⟩) ∧ Mem F w sb mb (plainN t) lv t.last t.L.length
section
variable {F : Nat → Prop} {w w' w1 w2 : World} {v : Value} {t : Tr}
theorem plain_short (hs : Small t) : Short (plainN t) := fun n => by
  show (listed t n).length ≤ _
  unfold listed
  have h1 := hs.1
  split
  · have := M07.list_len t.L n; omega
  · simp
theorem Rep.keep (h : Rep F w v t) (hk : ∀ k, F k → w'.heap[k]? = w.heap[k]?) (hs : w.heap.size ≤ w'.heap.size) : Rep F w' v t := by
  obtain ⟨hR, sb, mb, lv, e, h⟩ := h
  exact ⟨hR, sb, mb, lv, e, h.keep hk hs⟩
theorem Rep.low (h : Rep F w v t) : ∀ k, F k → k < w.heap.size := by
  obtain ⟨hR, sb, mb, lv, e, h⟩ := h
  exact h.low
/-- nothing but new memory has turned -/
theorem Rep.wrote (h : Rep F w v t) (hb : Below w.heap.size w w') : Wrote Rep F v t w w' :=
  ⟨F, h.keep (fun k hk => hb.block k (h.low k hk)) hb.size, Turns.new hb, fun _ => Or.inl⟩
theorem plain_new (n : Int) : plainN M07.new n = if n = 1 then ⟨1, 1, [], []⟩ else nod0 := by
  by_cases e : n = 1
  · subst e; rfl
  · rw [if_neg e]
    have h : nodeAt M07.new.L n = M07.zero := by
      show (if (1 : Int) = n then _ else _) = _
      rw [if_neg (fun h => e h.symm)]; rfl
    unfold plainN listed
    rw [h]; rfl
theorem mem_new {w w1 : World} {mb : Nat} (hmap : MapIs w1 Tryz.prog 3 mb (upd (fun _ => none) 1 (some (.agg #[.int .i64 1, .int .i64 1, .string ⟨#[]⟩, .slice none 0 0]))) 1) (hb : w.heap.size ≤ mb) :
    Mem (fun k => w.heap.size ≤ k ∧ k < w1.heap.size + 1) (w1.alloc (.cells #[.map (some mb), .int .i64 1] 90)) w1.heap.size mb (plainN M07.new) (fun _ => .slice none 0 0) 1 1 := by
  have hlt := hmap.lt
  refine ⟨heap_top _ _, ⟨by omega, by omega⟩, ⟨hb, by omega⟩, fun k hk => by rw [World.size_alloc]; exact hk.2, (hmap.alloc _).as (fun i => ?_) rfl, fun n hn => ⟨?_, rfl⟩, fun n => ?_, fun n b o c d _ e => by cases e⟩
  · unfold upd held
    rw [plain_new]
    by_cases e : i = 1
    · subst e; rfl
    · simp [e, nod0]
  · rw [plain_new] at hn ⊢
    by_cases e : n = 1
    · subst e; exact absurd hn (by decide)
    · rw [if_neg e]
  · rw [plain_new]
    by_cases e : n = 1
    · rw [if_pos e]; exact recs_nil _ _ _ _
    · rw [if_neg e]; exact recs_nil _ _ _ _
set_option maxHeartbeats 1000000 in
theorem new_any (w : World) : Calls Tryz.prog 24 #[] w fun e w' => ∃ v F, e = .returned v ∧ Rep F w' v M07.new ∧ (∀ k, F k → w.heap.size ≤ k) ∧ Below w.heap.size w w' := by
  have hmm := @run_makeMap Tryz.prog
  have hst := (map_made w Tryz.prog 3).store (t := 88) (e := 87) key_under map_under (by decide) (n := 1) (by decide) (.agg #[.int .i64 1, .int .i64 1, .string ⟨#[]⟩, .slice none 0 0])
  obtain ⟨w1, hrun, map1, turn1⟩ := hst
  have M1 := Lib.hid (mem_new (w := w) map1 (Nat.le_refl _))
  have B1 : Hid (Below w.heap.size w w1) := ((Below.refl w.heap.size w).alloc (Nat.le_refl _) _).grown turn1.grown (by simp) (fun k hk => by cases hk; exact Nat.le_refl _)
  clear map1 turn1
  go_enter Tryz.func24, Tryz.ntmps24
  go_wp2_with fail
  go_ret
  exact ⟨_, _, rfl, ⟨new_right, _, _, _, rfl, M1.out⟩, fun _ hk => hk.1, B1.out.alloc B1.out.size _⟩
theorem open_data {sb mb : Nat} {g : Int → Nod} {lv : Int → Value} {last : Int} {m : Nat} (h : Mem F w sb mb g lv last m) (x : Nod) (u : Value) (s : ByteArray) :
    Mem F ((w.alloc (.cells #[.int .i64 x.kind, .int .i64 x.up, .string ⟨x.data.toArray⟩, u] 87)).setCell ⟨w.heap.size, 2, none⟩ (.string s)) sb mb g lv last m ∧ NodBox ((w.alloc (.cells #[.int .i64 x.kind, .int .i64 x.up, .string ⟨x.data.toArray⟩, u] 87)).setCell ⟨w.heap.size, 2, none⟩ (.string s)) w.heap.size { x with data := s.data.toList } u ∧ Below w.heap.size w ((w.alloc (.cells #[.int .i64 x.kind, .int .i64 x.up, .string ⟨x.data.toArray⟩, u] 87)).setCell ⟨w.heap.size, 2, none⟩ (.string s)) := by
  have hB : Below w.heap.size w ((w.alloc (.cells #[.int .i64 x.kind, .int .i64 x.up, .string ⟨x.data.toArray⟩, u] 87)).setCell ⟨w.heap.size, 2, none⟩ (.string s)) := ((Below.refl _ _).alloc (Nat.le_refl _) _).setCell (Nat.le_refl _) _
  exact ⟨h.below hB, (NodBox.new w x u).set2 s, hB⟩
theorem with_len (t : Tr) (x : Nd) : (withNode t x).L.length = t.L.length := by show (t.L.map _).length = _; rw [List.length_map]
set_option maxHeartbeats 4000000 in
theorem set_any (h : Rep F w v t) (hs : Small t) (n : Int) (x : ByteArray) : Calls Tryz.prog 118 #[v, .int .i64 n, .string x] w fun e w' => e = .returned (.int .i64 (M07.set t n x.data.toList).2) ∧ Wrote Rep F v (M07.set t n x.data.toList).1 w w' := by
  have hR := Lib.hid h
  obtain ⟨hr, sb, mb, lv, rfl, hM⟩ := h
  have HR := Lib.hid hr
  have H := Lib.hid hM
  obtain ⟨A, c, e, hc⟩ := hM.node_ n
  have HC := Lib.hid hc
  have HS : Hid (M07.set t n x.data.toList = if (nodeAt t.L n).kind = 0 then (t, 5) else if (nodeAt t.L n).kind = 1 then (t, 8) else if mayErr (nodeAt t.L n).kind x.data.toList ≠ 0 then (t, mayErr (nodeAt t.L n).kind x.data.toList) else (withNode t { nodeAt t.L n with data := x.data.toList }, 0)) := rfl
  have HK : Hid ((nodeAt t.L n).kind = (plainN t n).kind) := rfl
  rw [HK.out] at HS
  have HE := Lib.hid e
  have hm := hs.1
  clear hr hM hc hs e
  have HL : Hid ((plainN t n).list.length = (plainN t n).list.length) := rfl
  generalize hln : (plainN t n).list.length = ln at HC HE
  have HLN := Lib.hid hln
  clear hln HL
  by_cases h0 : (plainN t n).kind = 0
  · have HX : Hid (M07.set t n x.data.toList = (t, 5)) := HS.out.trans (if_pos h0)
    rw [h0] at HC
    clear HS HK h0
    generalize (plainN t n).up = un at *
    generalize (plainN t n).data = dn at *
    go_enter Tryz.func118, Tryz.ntmps118
    go_wp2_with fail
    refine HC.out.mono ?_
    rintro e w1 ⟨rfl, hb⟩
    have B1 := Lib.hid hb
    clear hb
    go_wp2_with fail
    go_ret
    rw [HX.out]
    exact ⟨rfl, hR.out.wrote (B1.out.alloc B1.out.size _)⟩
  · by_cases h1 : (plainN t n).kind = 1
    · have HX : Hid (M07.set t n x.data.toList = (t, 8)) := HS.out.trans ((if_neg h0).trans (if_pos h1))
      rw [h1] at HC
      clear HS HK h0 h1
      generalize (plainN t n).up = un at *
      generalize (plainN t n).data = dn at *
      go_enter Tryz.func118, Tryz.ntmps118
      go_wp2_with fail
      refine HC.out.mono ?_
      rintro e w1 ⟨rfl, hb⟩
      have B1 := Lib.hid hb
      clear hb
      go_wp2_with fail
      go_ret
      rw [HX.out]
      exact ⟨rfl, hR.out.wrote (B1.out.alloc B1.out.size _)⟩
    · have HS : Hid (M07.set t n x.data.toList = if mayErr (plainN t n).kind x.data.toList ≠ 0 then (t, mayErr (plainN t n).kind x.data.toList) else (withNode t { nodeAt t.L n with data := x.data.toList }, 0)) := HS.out.trans ((if_neg h0).trans (if_neg h1))
      have HD := Lib.hid (fun w' : World => checkData_any (plainN t n).kind x w')
      have t0 : ((plainN t n).kind == 0) = false := by simpa using h0
      have t1 : ((plainN t n).kind == 1) = false := by simpa using h1
      by_cases hme : mayErr (plainN t n).kind x.data.toList = 0
      · have HX : Hid (M07.set t n x.data.toList = (withNode t { nodeAt t.L n with data := x.data.toList }, 0)) := HS.out.trans (if_neg (show ¬ mayErr (plainN t n).kind x.data.toList ≠ 0 from fun e => e hme))
        have HP := Lib.hid (set_plain HR.out (x := x.data.toList) h0 h1 hme)
        have HRR : Hid (Right (withNode t { nodeAt t.L n with data := x.data.toList })) := by
          have := set_right HR.out (n := n) (data := x.data.toList)
          rw [HX.out] at this
          exact this
        have H0 := Lib.hid h0
        rw [hme] at HD
        clear HS hme h0 h1
        obtain ⟨g, hg⟩ : ∃ g, plainN t = g := ⟨_, rfl⟩
        rw [hg] at HP HLN H H0 HC HD t0 t1
        clear hg HK
        have wfn := Lib.hid (H.out.wf H0.out)
        go_enter Tryz.func118, Tryz.ntmps118
        go_wp2_with fail
        refine HC.out.mono ?_
        rintro e w1 ⟨rfl, hb⟩
        have B1 := Lib.hid hb
        have M1 := Lib.hid (H.out.below hb)
        clear hb
        go_wp2_with fail
        refine (HD.out _).mono ?_
        rintro e w2 ⟨rfl, hw⟩
        have hw := hw.symm
        subst hw
        obtain ⟨q1, q2, q5⟩ := open_data M1.out (g n) (.slice A ln c) x
        obtain ⟨w3, hw3⟩ : ∃ w3, (w1.alloc (.cells #[.int .i64 (g n).kind, .int .i64 (g n).up, .string ⟨(g n).data.toArray⟩, .slice A ln c] 87)).setCell ⟨w1.heap.size, 2, none⟩ (.string x) = w3 := ⟨_, rfl⟩
        rw [hw3] at q1 q2 q5
        have M3 := Lib.hid q1
        have B3 := Lib.hid q5
        have y0 := q2.c0
        have y1 := q2.c1
        have y2 : w3.cell? ⟨w1.heap.size, 2, none⟩ = some (.string x) := by have := q2.c2; rw [show (⟨x.data.toList.toArray⟩ : ByteArray) = x from mk_bytes x] at this; exact this
        have y3 := q2.c3
        have c0 := q1.box.c0
        clear q1 q2 q5
        have hmp : MapIs w3.drew Tryz.prog 3 mb (held g lv) t.L.length := M3.out.map.keep rfl
        have hst := hmp.store (t := 88) (e := 87) key_under map_under (by unfold maxLen; omega) (n := n) wfn.out (.agg #[.int .i64 (g n).kind, .int .i64 (g n).up, .string x, .slice A ln c])
        obtain ⟨w4, hrun, map4, turn4⟩ := hst
        go_wp2_with fail
        clear hw3
        go_region
        go_wp2_with fail
        go_ret
        have e4 : (held g lv n).isSome = true := by rw [H.out.some_ H0.out]; rfl
        rw [if_pos e4] at map4
        rw [HX.out]
        have E3 := (H.out.list n).below (on B1.out B3.out)
        have A3 := H.out.at_ n
        rw [HE.out] at E3 A3
        have M4 := Mem.stored (M3.out.keep (w' := w3.drew) (fun _ _ => rfl) (Nat.le_refl _)) (n := n) (x := { g n with data := x.data.toList }) (u := .slice A ln c) H0.out (E3.more (on B1.out B3.out).size) A3 (by
          have e5 : nodV { g n with data := x.data.toList } (.slice A ln c) = .agg #[.int .i64 (g n).kind, .int .i64 (g n).up, .string x, .slice A ln c] := by
            unfold nodV
            rw [show (⟨x.data.toList.toArray⟩ : ByteArray) = x from mk_bytes x]
          rw [e5]; exact map4) turn4
        rw [← HP.out] at M4
        rw [← with_len t { nodeAt t.L n with data := x.data.toList }] at M4
        exact ⟨rfl, F, ⟨HRR.out, sb, mb, _, rfl, M4⟩, narrow (((Turns.new (on B1.out B3.out)).trans (drew_turns _ _)).trans (turned_turns turn4 (Or.inl H.out.fm))), fun _ => Or.inl⟩
      · have HX : Hid (M07.set t n x.data.toList = (t, mayErr (plainN t n).kind x.data.toList)) := HS.out.trans (if_pos hme)
        generalize mayErr (plainN t n).kind x.data.toList = rc at *
        have s2 : (rc != 0) = true := by simpa using hme
        have s3 : (rc == 0) = false := by simpa using hme
        clear HS HK h0 h1 H HLN HE hme
        generalize (plainN t n).up = un at *
        generalize (plainN t n).data = dn at *
        generalize (plainN t n).kind = kn at *
        go_enter Tryz.func118, Tryz.ntmps118
        go_wp2_with fail
        refine HC.out.mono ?_
        rintro e w1 ⟨rfl, hb⟩
        have B1 := Lib.hid hb
        clear hb
        go_wp2_with fail
        refine (HD.out _).mono ?_
        rintro e w2 ⟨rfl, hw⟩
        have B2 : Hid (Below w.heap.size w w2) := by rw [hw]; exact B1.out.alloc B1.out.size _
        clear hw
        go_wp2_with fail
        go_ret
        rw [HX.out]
        exact ⟨rfl, hR.out.wrote B2.out⟩
end
end Go.Proofs.YtmbpgjncioegdaaGreatDoor.W07
/-
  Layer 7 (tree), walks: the landed code's Put and Cut. The bounds stand in the statements.
-/
namespace Go.Proofs.YtmbpgjncioegdaaGreatDoor.W07
set_option maxRecDepth 100000
open Go Go.RowKit Go.Proofs.YtmbpgjncioegdaaGreatDoor.Strs Go.Proofs.YtmbpgjncioegdaaGreatDoor.Recs Go.Proofs.YtmbpgjncioegdaaGreatDoor.M07 Go.Proofs.YtmbpgjncioegdaaGreatDoor.Maps Go.Proofs.YtmbpgjncioegdaaGreatDoor.Range
open Go.Proofs.YtmbpgjncioegdaaGreatDoor.M06 (Ent)
open Go.Proofs.YtmbpgjncioegdaaGreatDoor.M03 (check)
open Go.Proofs.YtmbpgjncioegdaaGreatDoor.W06 (Ents HandsE)
open Go.Proofs.YtmbpgjncioegdaaGreatDoor.Kit (ret_str ret_bool ret_int mk_of mk_bytes ba_ext below_draws on list_full list_ne list_none list_nil bytes_nil)

section
variable {F : Nat → Prop} {w w' w1 w2 w3 : World} {v : Value} {t : Tr} {sb mb : Nat} {g : Int → Nod} {lv : Int → Value} {last : Int} {m : Nat}
theorem box_cells (h : RootBox w sb mb last) (o : Nat) : w.cell? ⟨sb, o, none⟩ = (#[.map (some mb), .int .i64 last] : Array Value)[o]? := by
  unfold RootBox at h
  simp [World.cell?, h]
theorem ents_count {B : Nat} {L : List Ent} (h : Ents B w v L) (hb : RootBox w sb mb last) (u : Value) : Ents B (w.setCell ⟨sb, 1, none⟩ u) v L := by
  refine ents_keep h fun b o c d h0 _ e => Below.heap_setCell _ _ _ _ ?_
  subst e
  show b ≠ sb
  rintro rfl
  obtain ⟨A', c', e', -, -⟩ := h.form
  injection e' with e1 e2 e3
  obtain ⟨b', o', hl, s, e, -, -, hc0, -⟩ := W06.Ents.at_ h (k := 0) (by omega)
  cases e
  rw [box_cells hb] at hc0
  match o, hc0 with
  | 0, hc0 => simp at hc0
  | 1, hc0 => simp at hc0
  | o + 2, hc0 => simp at hc0
theorem Mem.count (h : Mem F w sb mb g lv last m) (z : Int) : Mem F (w.setCell ⟨sb, 1, none⟩ (.int .i64 z)) sb mb g lv z m where
  box := h.box.count z
  fs := h.fs
  fm := h.fm
  low := fun k hk => by rw [set_size]; exact h.low k hk
  map := h.map.keep (Below.heap_setCell _ _ _ _ (by show mb ≠ sb; exact fun e => h.apart e.symm))
  zero := h.zero
  list := fun n => by rw [set_size]; exact ents_count (h.list n) h.box _
  at_ := h.at_
theorem place_eq (h : Right t) (d : Int) (s : Bytes) : placeN (plainN t d) s = if dirErr t.L d ≠ 0 then dirErr t.L d else if check s ≠ 0 then check s else if 0 < inDir t.L d s then 6 else 0 := by
  have hd : dirN (plainN t d) = dirErr t.L d := rfl
  have hp := in_pos (L := t.L) (d := d) (s := s) (fun a ha => (h.ends a ha).1)
  unfold placeN
  rw [hd]
  by_cases h0 : dirErr t.L d = 0
  · rw [find_in h s (dir_zero h0)]
    by_cases hi : inDir t.L d s = 0
    · simp [h0, hi]
    · have hi2 : 0 < inDir t.L d s := by omega
      simp [h0, hi, hi2]
  · simp [h0]
theorem put_eq (h : Right t) (d : Int) (s : Bytes) (kind : Int) (x : Bytes) : putErr t d s kind x = if placeN (plainN t d) s ≠ 0 then placeN (plainN t d) s else if mayErr kind x ≠ 0 then mayErr kind x else if 4096 ≤ t.L.length then 12 else 0 := by
  rw [place_eq h]
  unfold putErr
  by_cases h0 : dirErr t.L d = 0
  · by_cases hc : check s = 0
    · by_cases hi : 0 < inDir t.L d s
      · simp [h0, hc, hi]
      · simp [h0, hc, hi]
    · simp [h0, hc]
  · simp [h0]
theorem wrote_put {e : Ending} {er : Int} {d kind : Int} {s x : Bytes} (h : Rep F w v t) (hp : putErr t d s kind x = er) (h0 : er ≠ 0) (he : e = .returned (.tuple #[.int .i64 0, .int .i64 er])) (hb : Below w.heap.size w w') :
    e = .returned (.tuple #[.int .i64 (put t d s kind x).2.1, .int .i64 (put t d s kind x).2.2]) ∧ Wrote Rep F v (put t d s kind x).1 w w' := by
  rw [put_fails hp h0]
  exact ⟨he, h.wrote hb⟩
set_option maxHeartbeats 4000000 in
set_option maxRecDepth 100000 in
theorem put_any (h : Rep F w v t) (hs : Small t) (d : Int) (s : ByteArray) (kind : Int) (x : ByteArray) : Calls Tryz.prog 26 #[v, .int .i64 d, .string s, .int .i64 kind, .string x] w fun e w' => e = .returned (.tuple #[.int .i64 (put t d s.data.toList kind x.data.toList).2.1, .int .i64 (put t d s.data.toList kind x.data.toList).2.2]) ∧ Wrote Rep F v (put t d s.data.toList kind x.data.toList).1 w w' := by
  have hR := Lib.hid h
  obtain ⟨hr, sb, mb, lv, rfl, hM⟩ := h
  have HR := Lib.hid hr
  have H := Lib.hid hM
  have HP := Lib.hid (checkPlace_any hM (plain_short hs) d s)
  have HD := Lib.hid (fun w' : World => checkData_any kind x w')
  have HE := Lib.hid (put_eq hr d s.data.toList kind x.data.toList)
  have hm := hs.1
  have hl2 := hs.2
  have HS := Lib.hid hs
  clear hr hM hs
  by_cases h1 : placeN (plainN t d) s.data.toList = 0
  · have HE : Hid (putErr t d s.data.toList kind x.data.toList = if mayErr kind x.data.toList ≠ 0 then mayErr kind x.data.toList else if 4096 ≤ t.L.length then 12 else 0) := HE.out.trans (if_neg (show ¬ placeN (plainN t d) s.data.toList ≠ 0 from fun e => e h1))
    rw [h1] at HP
    clear h1
    by_cases h2 : mayErr kind x.data.toList = 0
    · have HE : Hid (putErr t d s.data.toList kind x.data.toList = if 4096 ≤ t.L.length then 12 else 0) := HE.out.trans (if_neg (show ¬ mayErr kind x.data.toList ≠ 0 from fun e => e h2))
      rw [h2] at HD
      clear h2
      have hlen := fun (w' : World) (hb : Below w.heap.size w w') ty => (H.out.below hb).map.len (t := 88) map_under ty
      have hbox := fun (w' : World) (hb : Below w.heap.size w w') => (H.out.below hb).box.c0
      by_cases h3 : (4096 : Int) ≤ t.L.length
      · have HX : Hid (putErr t d s.data.toList kind x.data.toList = 12) := HE.out.trans (if_pos (by omega))
        clear HE
        go_enter Tryz.func26, Tryz.ntmps26
        go_wp2_with fail
        refine HP.out.mono ?_
        rintro e w1 ⟨rfl, hb⟩
        have B1 := Lib.hid hb
        clear hb
        go_wp2_with fail
        refine (HD.out _).mono ?_
        rintro e w2 ⟨rfl, hw⟩
        have hw := hw.symm
        subst hw
        have hlen := hlen w1 B1.out
        have c0 := hbox w1 B1.out
        go_wp2_with fail
        go_ret2
        exact wrote_put hR.out HX.out (by decide) rfl B1.out
      · have HX : Hid (putErr t d s.data.toList kind x.data.toList = 0) := HE.out.trans (if_neg (by omega))
        clear HE
        go_enter Tryz.func26, Tryz.ntmps26
        go_wp2_with fail
        refine HP.out.mono ?_
        rintro e w1 ⟨rfl, hb⟩
        have B1 := Lib.hid hb
        clear hb
        go_wp2_with fail
        refine (HD.out _).mono ?_
        rintro e w2 ⟨rfl, hw⟩
        have hw := hw.symm
        subst hw
        have hlen := hlen w1 B1.out
        have c0 := hbox w1 B1.out
        have hnum : ∀ a ∈ t.L, a.num ≠ t.last + 1 := fun a ha => by have := (HR.out.ends a ha).2; omega
        have hl1 : 1 ≤ t.last := by
          obtain ⟨r, hr⟩ := HR.out.root
          have := HR.out.ends ⟨1, 1, [], 1, []⟩ (by rw [hr]; exact List.mem_cons_self)
          exact this.2
        have HPL := Lib.hid (put_plain HR.out HX.out)
        have HPW := Lib.hid (put_works HX.out)
        have HRR := Lib.hid (put_right HR.out (d := d) (kind := kind) (name := s.data.toList) (data := x.data.toList))
        rw [put_works HX.out] at HRR
        have hdk : Hid ((plainN t d).kind ≠ 0) := by
          have h2 : dirErr t.L d = 0 := by
            have h2 := HX.out
            unfold putErr at h2
            split at h2
            · rename_i h3; exact absurd h2 h3
            · rename_i h3; simpa using h3
          show (nodeAt t.L d).kind ≠ 0
          rw [dir_zero h2]; decide
        have hkk : Hid (kind ≠ 0) := fun e => by
          have := HRR.out.kind ⟨t.last + 1, d, s.data.toList, kind, x.data.toList⟩ (by simp)
          exact this e
        have hzk : Hid (held (plainN t) lv (t.last + 1) = none) := by
          show held (plainN t) lv (t.last + 1) = none
          unfold held
          rw [if_pos (by show (nodeAt t.L (t.last + 1)).kind = 0; rw [at_none hnum]; rfl)]
        have HSH := Lib.hid (plain_short HS.out)
        have hwrap : wrap64 (t.last + 1) = t.last + 1 := by unfold wrap64; omega
        have hwf : Hid ((Lit.int .i64 (t.last + 1)).wf = true) := WalkArith.wf_i64 (by omega)
        have M1 := Lib.hid (H.out.below B1.out)
        have c1 := M1.out.box.c1
        have fz := M1.out.box.fr 1
        clear hnum hl1 hl2 HS HX
        generalize plainN t = g at *
        obtain ⟨k, hke⟩ : ∃ k, t.last + 1 = k := ⟨_, rfl⟩
        have hwrap2 : wrap64 (t.last + 1) = k := hwrap.trans hke
        rw [hke] at HPL HRR hzk hwf HPW
        have HKE := Lib.hid hke
        clear hke hwrap
        have M2 := Lib.hid (M1.out.count k)
        obtain ⟨w2, hw2⟩ : ∃ w2, w1.setCell ⟨sb, 1, none⟩ (.int .i64 k) = w2 := ⟨_, rfl⟩
        have T2 : Hid (Turns (fun i => F i ∨ w.heap.size ≤ i) w w2) := by rw [← hw2]; exact (Turns.new B1.out).trans (Turns.setCell _ (Or.inl H.out.fs))
        rw [hw2] at M2
        have d0 := M2.out.box.c0
        have d1 := M2.out.box.c1
        have hmp : MapIs w2.drew Tryz.prog 3 mb (held g lv) t.L.length := M2.out.map.keep rfl
        have hst := hmp.store (t := 88) (e := 87) key_under map_under (by unfold maxLen; omega) (n := k) hwf.out (.agg #[.int .i64 kind, .int .i64 0, .string x, .slice none 0 0])
        obtain ⟨w3, hrun, map3, turn3⟩ := hst
        rw [hzk.out, if_neg (by decide)] at map3
        have M3 := Lib.hid (Mem.stored (M2.out.keep (w' := w2.drew) (fun _ _ => rfl) (Nat.le_refl _)) (n := k) (x := ⟨kind, 0, x.data.toList, []⟩) (u := .slice none 0 0) hkk.out (recs_nil _ _ _ _) (fun b o c d _ e => by cases e) (by
          have e5 : nodV ⟨kind, 0, x.data.toList, []⟩ (.slice none 0 0) = .agg #[.int .i64 kind, .int .i64 0, .string x, .slice none 0 0] := by
            unfold nodV
            rw [show (⟨x.data.toList.toArray⟩ : ByteArray) = x from mk_bytes x]
          rw [e5]; exact map3) turn3)
        have T3 := Lib.hid ((T2.out.trans (drew_turns _ _)).trans (turned_turns turn3 (Or.inl H.out.fm)))
        have HH := Lib.hid (hang_any M3.out (fun i => by
          unfold upd
          split
          · exact Nat.zero_le _
          · exact HSH.out i) (by omega) d s k (by
          unfold upd
          split
          · exact hkk.out
          · exact hdk.out) (by rw [upd_here]; exact hkk.out))
        have f1 := M3.out.box.c1
        clear map3 turn3 hmp T2 M2
        go_wp2_with fail
        clear hw2
        go_region
        clear hrun d0 d1 c0 c1 fz hlen hbox
        go_wp2_with fail
        refine HH.out.mono ?_
        rintro e w4 ⟨rfl, hl⟩
        obtain ⟨F', lv', M4, T4, hF⟩ := hl
        have HM4 := Lib.hid M4
        have g1 := M4.box.c1
        have HT4 := Lib.hid T4
        have HF4 := Lib.hid hF
        clear M4 T4 hF f1
        go_wp2_with fail
        go_ret2
        rw [HPW.out]
        have M4 := HM4.out
        rw [← HPL.out, show t.L.length + 1 = (t.L ++ [(⟨k, d, s.data.toList, kind, x.data.toList⟩ : Nd)]).length by simp] at M4
        have hs3 := T3.out.size
        exact ⟨rfl, F', ⟨HRR.out, sb, mb, lv', rfl, M4⟩, narrow (T3.out.trans (HT4.out.wider fun _ => Or.inl)), fun i hi => (HF4.out i hi).imp id (fun h => Nat.le_trans hs3 h)⟩
    · have HX : Hid (putErr t d s.data.toList kind x.data.toList = mayErr kind x.data.toList) := HE.out.trans (if_pos h2)
      generalize mayErr kind x.data.toList = rc at *
      have H2 := Lib.hid h2
      have s2 : (rc != 0) = true := by simpa using h2
      have s3 : (rc == 0) = false := by simpa using h2
      clear HE h2
      go_enter Tryz.func26, Tryz.ntmps26
      go_wp2_with fail
      refine HP.out.mono ?_
      rintro e w1 ⟨rfl, hb⟩
      have B1 := Lib.hid hb
      clear hb
      go_wp2_with fail
      refine (HD.out _).mono ?_
      rintro e w2 ⟨rfl, hw⟩
      have hw := hw.symm
      subst hw
      go_wp2_with fail
      go_ret2
      exact wrote_put hR.out HX.out H2.out rfl B1.out
  · have HX : Hid (putErr t d s.data.toList kind x.data.toList = placeN (plainN t d) s.data.toList) := HE.out.trans (if_pos h1)
    generalize placeN (plainN t d) s.data.toList = rc at *
    have H1 := Lib.hid h1
    have s2 : (rc != 0) = true := by simpa using h1
    have s3 : (rc == 0) = false := by simpa using h1
    clear HE h1
    go_enter Tryz.func26, Tryz.ntmps26
    go_wp2_with fail
    refine HP.out.mono ?_
    rintro e w1 ⟨rfl, hb⟩
    have B1 := Lib.hid hb
    clear hb
    go_wp2_with fail
    go_ret2
    exact wrote_put hR.out HX.out H1.out rfl B1.out
theorem cut_eq (t : Tr) (d : Int) (s : Bytes) : M07.cut t d s = if dirN (plainN t d) ≠ 0 then (t, dirN (plainN t d)) else if inDir t.L d s = 0 then (t, 5) else if listDir t.L (inDir t.L d s) ≠ [] then (t, 9) else (⟨t.L.filter (fun a => decide (a.num ≠ inDir t.L d s)), t.last⟩, 0) := rfl
theorem listed_void (t : Tr) (n : Int) (h : Right t) : listDir t.L n ≠ [] ↔ 0 < (plainN t n).list.length := by
  show _ ↔ 0 < (listed t n).length
  unfold listed
  by_cases hk : (nodeAt t.L n).kind = 1
  · rw [if_pos hk]
    exact List.length_pos_iff.symm
  · rw [if_neg hk]
    constructor
    · intro e
      obtain ⟨x, hx⟩ := List.exists_mem_of_ne_nil _ e
      obtain ⟨a, ha, h1, h2, h3⟩ := (mem_list h).1 hx
      have := h.up a ha
      rw [h1] at this
      exact absurd this hk
    · intro e; simp at e
theorem filter_one : ∀ {L : List Nd} {n : Int}, L.Pairwise (fun a b => a.num < b.num) → (∃ a ∈ L, a.num = n) → (L.filter (fun a => decide (a.num ≠ n))).length + 1 = L.length
  | [], _, _, h => by obtain ⟨a, ha, _⟩ := h; cases ha
  | x :: r, n, hp, h => by
    rw [List.pairwise_cons] at hp
    by_cases e : x.num = n
    · rw [List.filter_cons, if_neg (by simp [e]), List.filter_eq_self.2 (fun a ha => by have := hp.1 a ha; simp; omega), List.length_cons]
    · rw [List.filter_cons, if_pos (by simp [e]), List.length_cons, List.length_cons]
      obtain ⟨a, ha, h1⟩ := h
      rcases List.mem_cons.1 ha with rfl | ha
      · exact absurd h1 e
      · have := filter_one hp.2 ⟨a, ha, h1⟩
        omega
theorem unhang_kind (g : Int → Nod) (d : Int) (s : Bytes) (n : Int) : (unhangN g d s n).kind = (g n).kind := by
  unfold unhangN upd
  split
  · rename_i e; rw [e]
  · rfl
set_option maxHeartbeats 4000000 in
set_option maxRecDepth 100000 in
theorem cut_any (h : Rep F w v t) (hs : Small t) (d : Int) (s : ByteArray) : Calls Tryz.prog 125 #[v, .int .i64 d, .string s] w fun e w' => e = .returned (.int .i64 (M07.cut t d s.data.toList).2) ∧ Wrote Rep F v (M07.cut t d s.data.toList).1 w w' := by
  have hR := Lib.hid h
  obtain ⟨hr, sb, mb, lv, rfl, hM⟩ := h
  have HR := Lib.hid hr
  have H := Lib.hid hM
  have HD := Lib.hid (checkDir_any hM d)
  have HE := Lib.hid (cut_eq t d s.data.toList)
  have HS := Lib.hid (plain_short hs)
  have hm := hs.1
  by_cases h1 : dirN (plainN t d) = 0
  · have HE : Hid (M07.cut t d s.data.toList = if inDir t.L d s.data.toList = 0 then (t, 5) else if listDir t.L (inDir t.L d s.data.toList) ≠ [] then (t, 9) else (⟨t.L.filter (fun a => decide (a.num ≠ inDir t.L d s.data.toList)), t.last⟩, 0)) := HE.out.trans (if_neg (show ¬ dirN (plainN t d) ≠ 0 from fun e => e h1))
    have hd : (nodeAt t.L d).kind = 1 := dir_zero h1
    have HF := Lib.hid (fun (w' : World) (hb : Below w.heap.size w w') => (hM.below hb).find_ HS.out d s)
    rw [find_in hr _ hd] at HF
    rw [h1] at HD
    clear hr hM hs h1
    by_cases h2 : inDir t.L d s.data.toList = 0
    · have HX : Hid (M07.cut t d s.data.toList = (t, 5)) := HE.out.trans (if_pos h2)
      rw [h2] at HF
      clear HE h2
      go_enter Tryz.func125, Tryz.ntmps125
      go_wp2_with fail
      refine HD.out.mono ?_
      rintro e w1 ⟨rfl, hb⟩
      have B1 := Lib.hid hb
      clear hb
      obtain ⟨A, c, -, hn, hfd, hfl⟩ := HF.out w1 B1.out
      have HN := Lib.hid hn
      have HFD := Lib.hid hfd
      clear hn hfd HF
      go_wp2_with fail
      refine HN.out.mono ?_
      rintro e w2 ⟨rfl, hb⟩
      have HFD := Lib.hid (HFD.out w2 hb)
      have B2 := Lib.hid (on B1.out hb)
      clear hb
      go_wp2_with fail
      refine HFD.out.mono ?_
      rintro e w3 ⟨rfl, hb⟩
      have B3 := Lib.hid (on B2.out hb)
      clear hb
      go_wp2_with fail
      go_ret
      rw [HX.out]
      exact ⟨rfl, hR.out.wrote B3.out⟩
    · have HE : Hid (M07.cut t d s.data.toList = if listDir t.L (inDir t.L d s.data.toList) ≠ [] then (t, 9) else (⟨t.L.filter (fun a => decide (a.num ≠ inDir t.L d s.data.toList)), t.last⟩, 0)) := HE.out.trans (if_neg h2)
      have HST := Lib.hid (in_stands HR.out hd h2)
      have HV := Lib.hid (listed_void t (inDir t.L d s.data.toList) HR.out)
      have HCP := Lib.hid (fun hv => cut_plain HR.out hd h2 hv)
      have HNC := Lib.hid (fun (w' : World) (hb : Below w.heap.size w w') => (H.out.below hb).node_ (inDir t.L d s.data.toList))
      have hq : decide (inDir t.L d s.data.toList ≠ 0) = true := decide_eq_true h2
      rw [hq] at HF
      have hkd : Hid ((plainN t d).kind ≠ 0) := by show (nodeAt t.L d).kind ≠ 0; rw [hd]; decide
      generalize inDir t.L d s.data.toList = n at *
      by_cases h3 : (0 : Int) < (plainN t n).list.length
      · have HX : Hid (M07.cut t d s.data.toList = (t, 9)) := HE.out.trans (if_pos (HV.out.2 (by omega)))
        clear HE h2 hq HCP HV
        go_enter Tryz.func125, Tryz.ntmps125
        go_wp2_with fail
        refine HD.out.mono ?_
        rintro e w1 ⟨rfl, hb⟩
        have B1 := Lib.hid hb
        clear hb
        obtain ⟨A, c, -, hn, hfd, hfl⟩ := HF.out w1 B1.out
        have HN := Lib.hid hn
        have HFD := Lib.hid hfd
        clear hn hfd HF
        go_wp2_with fail
        refine HN.out.mono ?_
        rintro e w2 ⟨rfl, hb⟩
        have HFD := Lib.hid (HFD.out w2 hb)
        have B2 := Lib.hid (on B1.out hb)
        clear hb
        go_wp2_with fail
        refine HFD.out.mono ?_
        rintro e w3 ⟨rfl, hb⟩
        have B3 := Lib.hid (on B2.out hb)
        clear hb
        obtain ⟨A2, c2, -, hn⟩ := HNC.out w3 B3.out
        have HN := Lib.hid hn
        have hf := nod_list (plainN t n).kind (plainN t n).up ⟨(plainN t n).data.toArray⟩ A2 (plainN t n).list.length c2
        clear hn HNC hfl
        go_wp2_with fail
        refine HN.out.mono ?_
        rintro e w4 ⟨rfl, hb⟩
        have B4 := Lib.hid (on B3.out hb)
        clear hb
        go_wp2_with fail
        go_ret
        rw [HX.out]
        exact ⟨rfl, hR.out.wrote B4.out⟩
      · have hvd : listDir t.L n = [] := by
          have h4 : ¬ listDir t.L n ≠ [] := fun e => h3 (by have := HV.out.1 e; omega)
          simpa using h4
        have HX : Hid (M07.cut t d s.data.toList = (⟨t.L.filter (fun a => decide (a.num ≠ n)), t.last⟩, 0)) := HE.out.trans (if_neg (show ¬ listDir t.L n ≠ [] from fun e => e hvd))
        have HCP := Lib.hid (HCP.out hvd)
        have HRR : Hid (Right ⟨t.L.filter (fun a => decide (a.num ≠ n)), t.last⟩) := by
          have := cut_right HR.out (d := d) (name := s.data.toList)
          rw [HX.out] at this
          exact this
        have hnk : (plainN t n).kind ≠ 0 := HST.out.2.2.1
        have hln := filter_one HR.out.rise ⟨_, (at_some HST.out.2.2.1).1, (at_some HST.out.2.2.1).2⟩
        have HLN : Hid ((⟨t.L.filter (fun a => decide (a.num ≠ n)), t.last⟩ : Tr).L.length = t.L.length - 1) := by show (t.L.filter _).length = _; omega
        have HNK := Lib.hid hnk
        have hwf := Lib.hid (H.out.wf hnk)
        have HU := Lib.hid (fun (w' : World) (hb : Below w.heap.size w w') => unhang_any (H.out.below hb) HS.out (by omega) d s hkd.out)
        clear HE h2 hq HV hvd hln HST hnk
        go_enter Tryz.func125, Tryz.ntmps125
        go_wp2_with fail
        refine HD.out.mono ?_
        rintro e w1 ⟨rfl, hb⟩
        have B1 := Lib.hid hb
        clear hb
        obtain ⟨A, c, -, hn, hfd, hfl⟩ := HF.out w1 B1.out
        have HN := Lib.hid hn
        have HFD := Lib.hid hfd
        clear hn hfd HF
        go_wp2_with fail
        refine HN.out.mono ?_
        rintro e w2 ⟨rfl, hb⟩
        have HFD := Lib.hid (HFD.out w2 hb)
        have B2 := Lib.hid (on B1.out hb)
        clear hb
        go_wp2_with fail
        refine HFD.out.mono ?_
        rintro e w3 ⟨rfl, hb⟩
        have B3 := Lib.hid (on B2.out hb)
        clear hb
        obtain ⟨A2, c2, -, hn⟩ := HNC.out w3 B3.out
        have HN := Lib.hid hn
        have hf := nod_list (plainN t n).kind (plainN t n).up ⟨(plainN t n).data.toArray⟩ A2 (plainN t n).list.length c2
        clear hn HNC hfl
        go_wp2_with fail
        refine HN.out.mono ?_
        rintro e w4 ⟨rfl, hb⟩
        have B4 := Lib.hid (on B3.out hb)
        clear hb
        have HU := Lib.hid (HU.out w4 B4.out)
        go_wp2_with fail
        refine HU.out.mono ?_
        rintro e w5 ⟨rfl, hl⟩
        obtain ⟨F', lv', M5, T5, hF⟩ := hl
        have HM5 := Lib.hid M5
        have g0 := M5.box.c0
        have HT5 := Lib.hid T5
        have HF5 := Lib.hid hF
        clear M5 T5 hF
        go_wp2_with (at_delete; refine wpList_drop _ rfl _ _ 88 3 rfl 87 key_under map_under mb t.L.length (held (unhangN (plainN t) d s.data.toList) lv') rfl HM5.out.map n rfl hwf.out ?_; intro w6 map6 turn6)
        go_ret
        have M6 := HM5.out.dropped map6 turn6
        have e6 : (held (unhangN (plainN t) d s.data.toList) lv' n).isSome = true := by
          rw [HM5.out.some_ (by rw [unhang_kind]; exact HNK.out)]; rfl
        rw [if_pos e6, ← HLN.out, ← HCP.out] at M6
        rw [HX.out]
        have hs4 := B4.out.size
        exact ⟨rfl, F', ⟨HRR.out, sb, mb, _, rfl, M6⟩, narrow (((Turns.new B4.out).trans (HT5.out.wider fun _ => Or.inl)).trans (turned_turns turn6 (Or.inl H.out.fm))), fun i hi => (HF5.out i hi).imp id (fun h => Nat.le_trans hs4 h)⟩
  · have HX : Hid (M07.cut t d s.data.toList = (t, dirN (plainN t d))) := HE.out.trans (if_pos h1)
    generalize dirN (plainN t d) = rc at *
    have s2 : (rc != 0) = true := by simpa using h1
    have s3 : (rc == 0) = false := by simpa using h1
    clear HE h1 hr hM hs
    go_enter Tryz.func125, Tryz.ntmps125
    go_wp2_with fail
    refine HD.out.mono ?_
    rintro e w1 ⟨rfl, hb⟩
    have B1 := Lib.hid hb
    clear hb
    go_wp2_with fail
    go_ret
    rw [HX.out]
    exact ⟨rfl, hR.out.wrote B1.out⟩
end
end Go.Proofs.YtmbpgjncioegdaaGreatDoor.W07
/-
  Layer 7 (tree): plain mathematics of the landed code's Move: which case is which; what is kept of each node when another one makes room. Lists alone. No condition but those that each theorem bears.
-/
namespace Go.Proofs.YtmbpgjncioegdaaGreatDoor.W07
open Go Go.Proofs.YtmbpgjncioegdaaGreatDoor.M07 Go.Proofs.YtmbpgjncioegdaaGreatDoor.Maps
open Go.Proofs.YtmbpgjncioegdaaGreatDoor.M06 (Ent)
open Go.Proofs.YtmbpgjncioegdaaGreatDoor.M03 (check lt)
section
variable {t : Tr}
theorem room_plain (h : Right t) {n dst src th : Int} {s : Bytes} {al : Bytes} (hst : Stands t src s n) (hd : (nodeAt t.L dst).kind = 1) (hne : dst ≠ n) (e0 : inDir t.L dst al = th) (h0 : th ≠ 0) (hv : listDir t.L th = []) (hth : th ≠ n) (hin : (nodeAt t.L n).kind = 1 → ¬ Inside t.L n dst) :
    plainN (placed ⟨t.L.filter (fun a => decide (a.num ≠ th)), t.last⟩ (nodeAt t.L n) dst al) = hangN (unhangN (upd (plainN t) th nod0) src s) dst al n ∧ Right (placed ⟨t.L.filter (fun a => decide (a.num ≠ th)), t.last⟩ (nodeAt t.L n) dst al) := by
  have hto : Stands t dst al th := by rw [← e0]; exact in_stands h hd (by rw [e0]; exact h0)
  have hr := cut_right h (d := dst) (name := al)
  have hw : (cut t dst al).1 = ⟨t.L.filter (fun a => decide (a.num ≠ th)), t.last⟩ := by
    unfold M07.cut
    rw [e0, if_neg (by unfold dirErr; rw [hd]; decide), if_neg h0, if_neg (by rw [hv]; simp)]
  have hcp := cut_plain h (s := al) hd (by rw [e0]; exact h0) (by rw [e0]; exact hv)
  rw [hw] at hr
  rw [e0] at hcp
  have hvd := list_void hv
  have hmn := at_some hst.2.2.1
  have hmt := at_some hto.2.2.1
  have h1 : th ≠ src := by
    intro e
    exact hvd _ hmn.1 (by rw [hmn.2]; exact hst.2.1) (by rw [hst.2.2.2.1]; exact e.symm)
  have h2 : th ≠ dst := by
    intro e
    exact hvd _ hmt.1 (by rw [hmt.2]; exact hto.2.1) (by rw [hto.2.2.2.1]; exact e.symm)
  have an : nodeAt (t.L.filter (fun a => decide (a.num ≠ th))) n = nodeAt t.L n := at_filter (Ne.symm hth)
  have ad : nodeAt (t.L.filter (fun a => decide (a.num ≠ th))) dst = nodeAt t.L dst := at_filter (Ne.symm h2)
  have as' : nodeAt (t.L.filter (fun a => decide (a.num ≠ th))) src = nodeAt t.L src := at_filter (Ne.symm h1)
  have hst1 : Stands ⟨t.L.filter (fun a => decide (a.num ≠ th)), t.last⟩ src s n := by
    unfold Stands
    show (nodeAt (t.L.filter _) src).kind = 1 ∧ _ ∧ (nodeAt (t.L.filter _) n).kind ≠ 0 ∧ (nodeAt (t.L.filter _) n).up = src ∧ (nodeAt (t.L.filter _) n).name = s
    rw [an, as']
    exact hst
  have hmem : ∀ {a : Nd}, a ∈ t.L.filter (fun a => decide (a.num ≠ th)) ↔ a ∈ t.L ∧ a.num ≠ th := by
    intro a; rw [List.mem_filter]; simp
  have hno : inDir (t.L.filter (fun a => decide (a.num ≠ th))) dst al = 0 := by
    by_cases hz : inDir (t.L.filter (fun a => decide (a.num ≠ th))) dst al = 0
    · exact hz
    · obtain ⟨b, hb, _, bu, bn, b1⟩ := in_found hz
      obtain ⟨hb, hbo⟩ := hmem.1 hb
      have := h.once b hb _ hmt.1 b1 (by rw [hmt.2]; exact hto.2.1) (by rw [bu, hto.2.2.2.1]) (by rw [bn, hto.2.2.2.2])
      exact absurd (by rw [this]; exact hmt.2) hbo
  have hin1 : (nodeAt (t.L.filter (fun a => decide (a.num ≠ th))) n).kind = 1 → ¬ Inside (t.L.filter (fun a => decide (a.num ≠ th))) n dst := by
    rw [an]
    intro hk hi
    refine hin hk ?_
    have way : ∀ (k : Nat) {m : Int}, (∃ a ∈ t.L, a.num = m ∧ a.num ≠ th) → upN (t.L.filter (fun a => decide (a.num ≠ th))) k m = upN t.L k m := by
      intro k
      induction k with
      | zero => intro m _; rfl
      | succ k ih =>
        rintro m ⟨a, ha, em, ho2⟩
        have e1 : upOf (t.L.filter (fun a => decide (a.num ≠ th))) m = upOf t.L m := by
          unfold upOf; rw [← em, at_filter ho2]
        show upN _ k (upOf _ m) = upN t.L k (upOf t.L m)
        rw [e1]
        obtain ⟨b, hb, eb, _⟩ := h.up_mem ha
        refine ih ⟨b, hb, by rw [← em, h.upOf_ ha, eb], ?_⟩
        rw [eb]
        by_cases ha1 : a.num = 1
        · rw [root_is h ha ha1]; exact fun e => hto.2.1 e.symm
        · exact hvd a ha ha1
    obtain ⟨j, hj, hb⟩ := hi
    have hds := at_some (L := t.L) (n := dst) (by rw [hd]; decide)
    have md : ∃ a ∈ t.L, a.num = dst ∧ a.num ≠ th := ⟨_, hds.1, hds.2, by rw [hds.2]; exact Ne.symm h2⟩
    rw [way j md] at hj
    exact ⟨j, hj, fun i hi => by have := hb i hi; rw [way i md] at this; exact this⟩
  have hp := placed_plain hr (dst := dst) (al := al) hst1 (by show (nodeAt (t.L.filter _) dst).kind = 1; rw [ad]; exact hd) hne hno hin1
  have hpr : Right (placed ⟨t.L.filter (fun a => decide (a.num ≠ th)), t.last⟩ (nodeAt t.L n) dst al) := placed_right hr (x := nodeAt t.L n) (hmem.2 ⟨hmn.1, by rw [hmn.2]; exact Ne.symm hth⟩) (by rw [hmn.2]; exact hst.2.1) (by show (nodeAt (t.L.filter _) dst).kind = 1; rw [ad]; exact hd) hno (by rw [hmn.2]; intro hk; exact hin1 (by rw [an]; exact hk))
  refine ⟨?_, hpr⟩
  rw [show nodeAt (⟨t.L.filter (fun a => decide (a.num ≠ th)), t.last⟩ : Tr).L n = nodeAt t.L n from an, hcp] at hp
  rw [hp]
  exact replace_plain (plain_right t) h1 h2 hth hne
/-- a node in whose place a directory stands is a directory -/
theorem inside_dir (h : Right t) {n dst : Int} (hd : (nodeAt t.L dst).kind = 1) (hi : Inside t.L n dst) : (nodeAt t.L n).kind = 1 := by
  obtain ⟨j, e, -⟩ := hi
  have hds := at_some (L := t.L) (n := dst) (by rw [hd]; decide)
  cases j with
  | zero => rw [← show dst = n from e]; exact hd
  | succ j =>
    obtain ⟨a, ha, e1, e2⟩ := up_member h (j + 1) ⟨_, hds.1, hds.2⟩
    rw [← e, ← e1, h.at_ ha]
    exact e2 (by omega)
/-! Move, case by case -/
section
variable {src dst : Int} {s : Bytes} {al : Bytes}
theorem move_src (h1 : dirErr t.L src ≠ 0) : M07.move t src s dst al = (t, dirErr t.L src) := by
  have e : moveErr t.L src s dst al = dirErr t.L src := if_pos h1
  unfold M07.move; rw [e, if_pos h1]
theorem move_dst (h1 : dirErr t.L src = 0) (h2 : dirErr t.L dst ≠ 0) : M07.move t src s dst al = (t, dirErr t.L dst) := by
  have e : moveErr t.L src s dst al = dirErr t.L dst := (if_neg (by simpa using h1)).trans (if_pos h2)
  unfold M07.move; rw [e, if_pos h2]
theorem move_gone (h1 : dirErr t.L src = 0) (h2 : dirErr t.L dst = 0) (h3 : inDir t.L src s = 0) : M07.move t src s dst al = (t, 5) := by
  have e : moveErr t.L src s dst al = 5 := (if_neg (by simpa using h1)).trans ((if_neg (by simpa using h2)).trans (if_pos h3))
  unfold M07.move; rw [e, if_pos (by decide)]
theorem move_name (h1 : dirErr t.L src = 0) (h2 : dirErr t.L dst = 0) (h3 : inDir t.L src s ≠ 0) (h4 : check al ≠ 0) : M07.move t src s dst al = (t, check al) := by
  have e : moveErr t.L src s dst al = check al := (if_neg (by simpa using h1)).trans ((if_neg (by simpa using h2)).trans (if_neg h3))
  unfold M07.move; rw [e, if_pos h4]
theorem move_err (h1 : dirErr t.L src = 0) (h2 : dirErr t.L dst = 0) (h3 : inDir t.L src s ≠ 0) (h4 : check al = 0) : moveErr t.L src s dst al = 0 :=
  ((if_neg (by simpa using h1)).trans ((if_neg (by simpa using h2)).trans (if_neg h3))).trans h4
theorem move_in (h : Right t) (h1 : dirErr t.L src = 0) (h2 : dirErr t.L dst = 0) (h3 : inDir t.L src s ≠ 0) (h4 : check al = 0) (h5 : Inside t.L (inDir t.L src s) dst) : M07.move t src s dst al = (t, 14) := by
  have e := move_err h1 h2 h3 h4
  unfold M07.move; rw [e, if_neg (by simp), if_pos ⟨inside_dir h (dir_zero h2) h5, h5⟩]
theorem move_on (h1 : dirErr t.L src = 0) (h2 : dirErr t.L dst = 0) (h3 : inDir t.L src s ≠ 0) (h4 : check al = 0) (h5 : ¬ Inside t.L (inDir t.L src s) dst) : M07.move t src s dst al = moveOn t (inDir t.L src s) dst al := by
  have e := move_err h1 h2 h3 h4
  unfold M07.move; rw [e, if_neg (by simp), if_neg (fun e => h5 e.2)]
theorem on_same {n : Int} (h : inDir t.L dst al = n) : moveOn t n dst al = (t, 0) := if_pos h
theorem on_free {n : Int} (h0 : inDir t.L dst al = 0) (hn : n ≠ 0) : moveOn t n dst al = (placed t (nodeAt t.L n) dst al, 0) := by
  unfold moveOn; rw [if_neg (by rw [h0]; exact Ne.symm hn), if_neg (by omega)]
theorem on_taken (h : Right t) {n th : Int} (h2 : dirErr t.L dst = 0) (e0 : inDir t.L dst al = th) (h0 : th ≠ 0) (hn : th ≠ n) (hr : replaceN (plainN t th) (plainN t n) ≠ 0) : moveOn t n dst al = (t, replaceN (plainN t th) (plainN t n)) := by
  have hp := in_pos (L := t.L) (d := dst) (s := al) (fun a ha => (h.ends a ha).1)
  have hvl : listDir t.L th ≠ [] ↔ 0 < (plainN t th).list.length := by
    show _ ↔ 0 < (listed t th).length
    unfold listed
    by_cases hk : (nodeAt t.L th).kind = 1
    · rw [if_pos hk]; exact List.length_pos_iff.symm
    · rw [if_neg hk]
      constructor
      · intro e
        obtain ⟨x, hx⟩ := List.exists_mem_of_ne_nil _ e
        obtain ⟨a, ha, h1, h2, h3⟩ := (mem_list h).1 hx
        have := h.up a ha
        rw [h1] at this
        exact absurd this hk
      · intro e; simp at e
  unfold moveOn
  rw [e0, if_neg hn, if_pos (by omega)]
  have k1 : (plainN t th).kind = (nodeAt t.L th).kind := rfl
  have k2 : (plainN t n).kind = (nodeAt t.L n).kind := rfl
  unfold replaceN at hr ⊢
  rw [k1, k2] at hr ⊢
  by_cases c1 : (nodeAt t.L th).kind = 1 ∧ (nodeAt t.L n).kind ≠ 1
  · rw [if_pos c1, if_pos c1]
  · rw [if_neg c1, if_neg c1]
    rw [if_neg c1] at hr
    by_cases c2 : (nodeAt t.L th).kind ≠ 1 ∧ (nodeAt t.L n).kind = 1
    · rw [if_pos c2, if_pos c2]
    · rw [if_neg c2, if_neg c2]
      rw [if_neg c2] at hr
      by_cases c3 : 0 < (plainN t th).list.length
      · rw [if_pos c3]
        have hc : cut t dst al = (t, 9) := by
          unfold M07.cut
          rw [e0, if_neg (by simpa using h2), if_neg h0, if_pos (hvl.2 c3)]
        rw [hc, if_pos (show (9 : Int) ≠ 0 by decide)]
      · rw [if_neg c3] at hr; exact absurd rfl hr
theorem on_room (h : Right t) {n th : Int} (h2 : dirErr t.L dst = 0) (e0 : inDir t.L dst al = th) (h0 : th ≠ 0) (hn : th ≠ n) (hr : replaceN (plainN t th) (plainN t n) = 0) : listDir t.L th = [] ∧ moveOn t n dst al = (placed ⟨t.L.filter (fun a => decide (a.num ≠ th)), t.last⟩ (nodeAt t.L n) dst al, 0) := by
  have hp := in_pos (L := t.L) (d := dst) (s := al) (fun a ha => (h.ends a ha).1)
  have hvl : ¬ 0 < (plainN t th).list.length → listDir t.L th = [] := by
    show ¬ 0 < (listed t th).length → _
    unfold listed
    by_cases hk : (nodeAt t.L th).kind = 1
    · rw [if_pos hk]; intro e; exact List.length_eq_zero_iff.1 (by omega)
    · intro _
      by_cases e : listDir t.L th = []
      · exact e
      · obtain ⟨x, hx⟩ := List.exists_mem_of_ne_nil _ e
        obtain ⟨a, ha, h1, h2, h3⟩ := (mem_list h).1 hx
        have := h.up a ha
        rw [h1] at this
        exact absurd this hk
  have k1 : (plainN t th).kind = (nodeAt t.L th).kind := rfl
  have k2 : (plainN t n).kind = (nodeAt t.L n).kind := rfl
  unfold replaceN at hr
  rw [k1, k2] at hr
  have c1 : ¬ ((nodeAt t.L th).kind = 1 ∧ (nodeAt t.L n).kind ≠ 1) := fun c => by rw [if_pos c] at hr; exact absurd hr (by decide)
  rw [if_neg c1] at hr
  have c2 : ¬ ((nodeAt t.L th).kind ≠ 1 ∧ (nodeAt t.L n).kind = 1) := fun c => by rw [if_pos c] at hr; exact absurd hr (by decide)
  rw [if_neg c2] at hr
  have c3 : ¬ 0 < (plainN t th).list.length := fun c => by rw [if_pos c] at hr; exact absurd hr (by decide)
  have hv := hvl c3
  refine ⟨hv, ?_⟩
  have hc : cut t dst al = (⟨t.L.filter (fun a => decide (a.num ≠ th)), t.last⟩, 0) := by
    unfold M07.cut
    rw [e0, if_neg (by simpa using h2), if_neg h0, if_neg (by rw [hv]; simp)]
  unfold moveOn
  rw [e0, if_neg hn, if_pos (by omega), if_neg c1, if_neg c2, hc, if_neg (by simp)]
end
end
end Go.Proofs.YtmbpgjncioegdaaGreatDoor.W07
