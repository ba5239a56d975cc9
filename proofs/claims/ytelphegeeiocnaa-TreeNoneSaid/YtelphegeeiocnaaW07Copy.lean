/-
  Layer 7 (tree), walks: the landed code's Copy: a map filled in whatever order another one is gone through. The bounds stand in the statements.
-/
import Derived.Test.YtelphegeeiocnaaW07New2
namespace Go.Proofs.Ytelphegeeiocnaa.W07
open Go Go.RowKit Go.Proofs.Ytelphegeeiocnaa.Strs Go.Proofs.Ytelphegeeiocnaa.Recs Go.Proofs.Ytelphegeeiocnaa.M07 Go.Proofs.Ytelphegeeiocnaa.Maps Go.Proofs.Ytelphegeeiocnaa.Range
open Go.Proofs.Ytelphegeeiocnaa.M06 (Ent)
open Go.Proofs.Ytelphegeeiocnaa.M03 (check)
open Go.Proofs.Ytelphegeeiocnaa.W06 (Ents HandsE)
open Go.Proofs.Ytelphegeeiocnaa.Kit (ret_str ret_bool ret_int mk_of mk_bytes ba_ext below_draws on list_full list_ne list_none list_nil bytes_nil)

section
variable {F : Nat → Prop} {w wr w1 w2 w3 w4 w5 : World} {v : Value} {t : Tr} {sb mb : Nat} {g : Int → Nod} {lv lv' : Int → Value} {last : Int} {m sz cnt cnt' : Nat} {left : Int → Bool}
/-- what the copy holds so far -/
structure CopyAt (w wr : World) (g : Int → Nod) (lv' : Int → Value) (left : Int → Bool) (m sz cnt : Nat) : Prop where
  map : MapIs wr Try.prog 3 w.heap.size (fun i => if left i = true then none else held g lv' i) sz
  size : sz + cnt ≤ m
  list : ∀ i, (g i).kind ≠ 0 → left i = false → Ents wr.heap.size wr (lv' i) (g i).list
  at_ : ∀ i b o c d, (g i).kind ≠ 0 → left i = false → 0 < (g i).list.length → lv' i = .slice (some ⟨b, o, none⟩) c d → w.heap.size + 1 < b
  below : Below w.heap.size w wr
  next : w.heap.size + 1 < wr.heap.size
theorem CopyAt.start (hg : (w.alloc (.map #[] 0)).grownBy w1 none) (hs : w1.heap.size = w.heap.size + 2) : CopyAt w w1 g (fun _ => .slice none 0 0) (fun i => (held g lv i).isSome) m 0 m where
  map := ((map_made w Try.prog 3).keep (hg.block _ (by simp) (by simp))).as (fun i => by
    by_cases e : (g i).kind = 0
    · simp [held, e]
    · simp [held, e]) rfl
  size := by omega
  list := fun i hk hl => by simp [held, hk] at hl
  at_ := fun i b o c d hk hl => by simp [held, hk] at hl
  below := ((Below.refl w.heap.size w).alloc (Nat.le_refl _) _).grown hg (by simp) (fun k hk => by cases hk)
  next := by omega
theorem CopyAt.map4 (h : CopyAt w wr g lv' left m sz cnt) (hg : wr.grownBy w1 (some (w.heap.size + 1))) (hs1 : w1.heap.size = wr.heap.size) (hb : Below w1.heap.size w1 w4) : MapIs w4 Try.prog 3 w.heap.size (fun i => if left i = true then none else held g lv' i) sz := by
  have h1 := h.next
  exact h.map.keep ((hb.block _ (by omega)).trans (hg.block _ (by omega) (by intro e; injection e with e; omega)))
theorem CopyAt.below1 (h : CopyAt w wr g lv' left m sz cnt) (hg : wr.grownBy w1 (some (w.heap.size + 1))) : Below w.heap.size w w1 := by
  have h1 := h.next
  exact h.below.grown hg (by omega) (fun k hk => by cases hk; omega)
theorem CopyAt.step {n : Int} {u : Value} (h : CopyAt w wr g lv' left m sz cnt) (hg : wr.grownBy w1 (some (w.heap.size + 1))) (hs1 : w1.heap.size = wr.heap.size) (hb : Below w1.heap.size w1 w4) (hu : Ents w4.heap.size w4 u (g n).list)
    (hn : ∀ b o c d, u = .slice (some ⟨b, o, none⟩) c d → w1.heap.size ≤ b) (hk : (g n).kind ≠ 0) (hmap : MapIs w5 Try.prog 3 w.heap.size (upd (fun i => if left i = true then none else held g lv' i) n (some (nodV (g n) u))) (sz + 1)) (ht : w4.mapTurned w5 w.heap.size) (hc : cnt' < cnt) :
    CopyAt w w5 g (upd lv' n u) (upd left n false) m (sz + 1) cnt' := by
  have hnx := h.next
  have hg5 := ht.grown
  have hs4 := hb.size
  have hs5 := hg5.size
  refine ⟨hmap.as (fun i => ?_) rfl, by have := h.size; omega, fun i hi hl => ?_, fun i b o c d hi hl h0 e => ?_, ?_, by omega⟩
  · unfold upd held
    by_cases e : i = n
    · subst e; simp [hk]
    · simp [e]
  · unfold upd at hl ⊢
    by_cases e : i = n
    · subst e
      rw [if_pos rfl]
      refine (ents_keep hu fun b o c d _ _ e2 => hg5.block b ?_ ?_).more hs5
      · assumption
      · have := hn b o c d e2
        intro e3; injection e3 with e3; omega
    · rw [if_neg e] at hl ⊢
      refine (ents_keep (h.list i hi hl) fun b o c d h0 hlt e2 => ?_).more (by omega)
      have hb1 := h.at_ i b o c d hi hl h0 e2
      rw [hg5.block b (by omega) (by intro e3; injection e3 with e3; omega), hb.block b (by omega), hg.block b hlt (by intro e3; injection e3 with e3; omega)]
  · unfold upd at hl e
    by_cases e1 : i = n
    · rw [if_pos e1] at e
      have := hn b o c d e
      omega
    · rw [if_neg e1] at hl e
      exact h.at_ i b o c d hi hl h0 e
  · exact ((h.below1 hg).trans (hb.mono (by omega))).grown hg5 (by omega) (fun k hk => by cases hk; exact Nat.le_refl _)
theorem copy_end (h : CopyAt w wr g lv' left m sz cnt) (hl : ∀ n, left n = false) (H : Mem F w sb mb g lv last m) : Mem (fun k => w.heap.size ≤ k ∧ k < wr.heap.size + 1) (wr.alloc (.cells #[.map (some w.heap.size), .int .i64 last] 54)) wr.heap.size w.heap.size g (fun i => if (g i).kind = 0 then .slice none 0 0 else lv' i) last m := by
  have hmap := h.map
  have hlv : ∀ i, (if left i = true then none else held g lv' i) = held g (fun i => if (g i).kind = 0 then .slice none 0 0 else lv' i) i := fun i => by
    rw [hl i, if_neg (by simp)]
    unfold held
    by_cases e : (g i).kind = 0
    · rw [if_pos e, if_pos e]
    · rw [if_neg e, if_neg e]
      show _ = some (nodV (g i) (if (g i).kind = 0 then _ else _))
      rw [if_neg e]
  have hm2 := hmap.as hlv rfl
  have hsz : m = sz := by
    have hsome : ∀ (l1 l2 : Int → Value) n, (held g l1 n).isSome = true → (held g l2 n).isSome = true := fun l1 l2 n => by
      unfold held
      split
      · intro e; cases e
      · intro _; rfl
    have h1 := H.map.one_size hm2 key_under (hsome _ _)
    have h2 := hm2.one_size H.map key_under (hsome _ _)
    omega
  have hnx := h.next
  have ha : Below wr.heap.size wr (wr.alloc (.cells #[.map (some w.heap.size), .int .i64 last] 54)) := (Below.refl _ _).alloc (Nat.le_refl _) _
  refine ⟨heap_top _ _, ⟨by omega, by omega⟩, ⟨by omega, by omega⟩, fun k hk => by rw [World.size_alloc]; exact hk.2, (hm2.alloc _).as (fun _ => rfl) hsz.symm, fun n hn => ⟨(H.zero n hn).1, if_pos hn⟩, fun n => ?_, fun n b o c d h0 e => ?_⟩
  · by_cases e : (g n).kind = 0
    · show Ents _ _ (if (g n).kind = 0 then _ else _) _
      rw [if_pos e, (H.zero n e).1]; exact recs_nil _ _ _ _
    · show Ents _ _ (if (g n).kind = 0 then _ else _) _
      rw [if_neg e]; exact ((h.list n e (hl n)).below ha).more ha.size
  · have e : (if (g n).kind = 0 then .slice none 0 0 else lv' n) = Value.slice (some ⟨b, o, none⟩) c d := e
    by_cases e1 : (g n).kind = 0
    · rw [if_pos e1] at e; cases e
    · rw [if_neg e1] at e
      have h1 := h.at_ n b o c d e1 (hl n) h0 e
      have hE := h.list n e1 (hl n)
      rw [e] at hE
      obtain ⟨A', c', e', -, -⟩ := hE.form
      injection e' with e4 e5 e6
      obtain ⟨b', o', hl2, e7, hb', -⟩ := Recs.flat_ hE W06.entC_len (by omega) (k := 0) (by omega)
      cases e7
      exact ⟨by omega, by omega⟩
theorem Going.keep2 {r : Nat} {f : Int → Option Value} (h : Going w1 Try.prog 3 mb r f m left cnt) (hb : Below w1.heap.size w1 w4) (ht : w4.mapTurned w5 sb) (h1 : mb ≠ sb) (h2 : r ≠ sb) : Going w5 Try.prog 3 mb r f m left cnt := by
  have hg := ht.grown
  have hs := hb.size
  have a1 := h.is.lt
  have a2 := h.lt
  exact h.keep ((hg.block _ (by omega) (by intro e; injection e with e; exact h1 e)).trans (hb.block _ a1)) ((hg.block _ (by omega) (by intro e; injection e with e; exact h2 e)).trans (hb.block _ a2))
set_option maxHeartbeats 8000000 in
set_option maxRecDepth 100000 in
theorem copy_any (h : Rep F w v t) (hs : Small t) : Calls Try.prog 10 #[v] w fun e w' => ∃ v' F', e = .returned v' ∧ Rep F' w' v' t ∧ (∀ k, F' k → w.heap.size ≤ k) ∧ Below w.heap.size w w' := by
  obtain ⟨hr, sb, mb, lv, rfl, hM⟩ := h
  have HR := Lib.hid hr
  have H := Lib.hid hM
  have HS := Lib.hid (plain_short hs)
  have hm := hs.1
  have hmm := @run_makeMap Try.prog
  have HM0 := Lib.hid (hM.map.alloc (.map #[] 0))
  have c0 := hM.box.c0
  have hlt := hM.box.lt
  have HML := Lib.hid hM.map.lt
  clear hr hM hs
  generalize hg : plainN t = g at *
  have HG := Lib.hid hg
  clear hg
  obtain ⟨V, hV⟩ : ∃ V : Int → Value, (fun n => nodV (g n) (lv n)) = V := ⟨_, rfl⟩
  have HV : Hid (∀ n, V n = nodV (g n) (lv n)) := fun n => by rw [← hV]
  have HVF : Hid (∀ n v, held g lv n = some v → v = V n) := fun n v hv => by
    unfold held at hv
    split at hv
    · cases hv
    · injection hv with hv; rw [HV.out, hv]
  clear hV
  go_enter Try.func10, Try.ntmps10
  go_wp2_with (first | (at_range; refine wpList_range _ rfl _ 52 rfl 3 51 key_under map_under mb t.L.length (held g lv) rfl HM0.out ?_; intro w1 hgo hgrow hsize; rw [World.size_alloc]) | go_in)
  have C1 : Hid (CopyAt w w1 g (fun _ => .slice none 0 0) (fun i => (held g lv i).isSome) t.L.length 0 t.L.length) := CopyAt.start hgrow (by rw [hsize]; simp)
  have G1 := Lib.hid hgo
  clear hgo hgrow hsize
  rw [World.size_alloc] at G1
  go_frame
  go_loopw [4] (fun _ wr => ∃ (left : Int → Bool) (cnt sz : Nat) (lv' : Int → Value), Hid (Going wr Try.prog 3 mb (w.heap.size + 1) (held g lv) t.L.length left cnt) ∧ Hid (CopyAt w wr g lv' left t.L.length sz cnt)) (fun _ wr => wr.rangeLeft mb (w.heap.size + 1))
  case atStart => exact ⟨_, _, 0, _, G1, C1⟩
  case round =>
    clear G1 C1
    obtain ⟨left, cnt, sz, lv', G, C⟩ := hrel
    go_wp2_with (first | (at_next; refine Go.Proofs.Ytelphegeeiocnaa.Maps.wpList_turn _ rfl _ rfl 3 key_under mb (w.heap.size + 1) t.L.length (held g lv) V HVF.out left cnt rfl G.out ?_ ?_) | go_in)
    · intro _ hl0
      have c1 := (H.out.below C.out.below).box.c1
      have HE := Lib.hid (copy_end C.out hl0 H.out)
      clear hl0
      go_wp2_with fail
      go_ret
      exact ⟨_, (fun k => w.heap.size ≤ k ∧ k < wr.heap.size + 1), rfl, ⟨HR.out, _, _, _, rfl, by rw [HG.out]; exact HE.out⟩, fun _ hk => hk.1, C.out.below.alloc C.out.below.size _⟩
    · intro n w2 cnt2 hfn hln hgo hlt2 hgr hsz hen
      have hk : Hid ((g n).kind ≠ 0) := fun e => by
        unfold held at hfn
        rw [if_pos e] at hfn
        cases hfn
      obtain ⟨A, c, e⟩ := H.out.form n
      have hVn : V n = .agg #[.int .i64 (g n).kind, .int .i64 (g n).up, .string ⟨(g n).data.toArray⟩, .slice A (g n).list.length c] := by
        rw [HV.out n, e]; rfl
      have hE := H.out.list n
      rw [e] at hE
      have HE := Lib.hid hE
      have hln2 := HS.out n
      have hwf := Lib.hid (H.out.wf hk.out)
      rw [hVn] at hen ⊢
      have B2 := Lib.hid (C.out.below1 hgr)
      have GO := Lib.hid hgo
      have GR := Lib.hid hgr
      have SZ := Lib.hid hsz
      have LN := Lib.hid hln
      have LT := Lib.hid hlt2
      clear hE e hVn hfn hgo hgr hsz hln hlt2
      obtain ⟨w3, hw3⟩ : ∃ w3, w2.alloc (.cells #[.int .i64 (g n).kind, .int .i64 (g n).up, .string ⟨(g n).data.toArray⟩, .slice A (g n).list.length c] 51) = w3 := ⟨_, rfl⟩
      have X3 : Hid (NodBox w3 w2.heap.size (g n) (.slice A (g n).list.length c)) := by rw [← hw3]; exact NodBox.new _ _ _
      have B3 : Hid (Below w2.heap.size w2 w3) := by rw [← hw3]; exact (Below.refl _ _).alloc (Nat.le_refl _) _
      have x3 := X3.out.c3
      have HCL := Lib.hid (clone_any (w := w3) (.slice A (g n).list.length c) (g n).list ((HE.out.below (on B2.out B3.out)).more (on B2.out B3.out).size) (by omega))
      generalize hlen : (g n).list.length = k at hen x3 hw3 HCL X3
      have HLE := Lib.hid hlen
      clear hlen
      go_wp2_with fail
      clear hw3
      refine HCL.out.mono ?_
      rintro e w4 ⟨u, rfl, hu, hnew, hb⟩
      obtain ⟨A2, c2, rfl, -, -⟩ := hu.form
      have M2 := H.out.below B2.out
      obtain ⟨-, q2, q3, -, q5⟩ := open_list M2 B3.out (Nat.le_refl _) (g n).list X3.out _ hb hu hnew
      have frz := (X3.out.below hb).fr 3
      have old := (X3.out.below hb).c3
      have N5 : Hid (∀ b o c d, Value.slice A2 (g n).list.length c2 = .slice (some ⟨b, o, none⟩) c d → w2.heap.size ≤ b) := fun b o c d e => Nat.le_trans B3.out.size (hnew b o c d e)
      obtain ⟨w5, hw5⟩ : ∃ w5, w4.setCell ⟨w2.heap.size, 3, none⟩ (.slice A2 (g n).list.length c2) = w5 := ⟨_, rfl⟩
      rw [hw5] at q2 q3 q5
      have U5 := Lib.hid q3
      have B5 := Lib.hid q5
      have y0 := q2.c0
      have y1 := q2.c1
      have y2 := q2.c2
      have y3 := q2.c3
      have hsz := C.out.size
      have hst := (C.out.map4 GR.out SZ.out B5.out).store (t := 52) (e := 51) key_under map_under (by unfold maxLen; omega) (n := n) hwf.out (.agg #[.int .i64 (g n).kind, .int .i64 (g n).up, .string ⟨(g n).data.toArray⟩, .slice A2 (g n).list.length c2])
      obtain ⟨w6, hrun, map6, turn6⟩ := hst
      rw [LN.out, if_pos rfl, if_neg (by simp)] at map6
      have G6 := Lib.hid (Going.keep2 GO.out B5.out turn6 (by have := HML.out; omega) (by omega))
      have C6 := Lib.hid (C.out.step GR.out SZ.out B5.out U5.out N5.out hk.out map6 turn6 LT.out)
      clear q2 q3 q5 M2 hu hnew hb map6 turn6 U5 N5 B5 HCL X3 x3 hen GO
      generalize (g n).list.length = k2 at *
      go_wp2_with fail
      clear hw5
      go_roundw
      case rel => exact ⟨_, _, _, _, G6, C6⟩
      case measure => rw [G6.out.left_eq, G.out.left_eq]; exact LT.out
end
end Go.Proofs.Ytelphegeeiocnaa.W07
