/-
  Texts joined, in build order, each with its own comment and its own conditions: W10Does, W10LawD.
-/
import Derived.Test.YtolhniepejhmfaaGreatDoorJ30
import Derived.Test.YtolhniepejhmfaaGreatDoorJ31
import Derived.Test.YtolhniepejhmfaaGreatDoorJ33
/-
  Layer 10 (fs), a walk of the law FsDoes over the contracts: it returns true, at every list of nodes and of acts; nothing that was there is changed. The conditions stand in the statement.
-/
namespace Go.Proofs.YtolhniepejhmfaaGreatDoor.W10
set_option maxRecDepth 100000
open Go Go.RowKit Go.Proofs.YtolhniepejhmfaaGreatDoor.Strs Go.Proofs.YtolhniepejhmfaaGreatDoor.Recs Go.Proofs.YtolhniepejhmfaaGreatDoor.Range
open Go.Proofs.YtolhniepejhmfaaGreatDoor.M07 (Tr Nd nodeAt Right)
open Go.Proofs.YtolhniepejhmfaaGreatDoor.M09 Go.Proofs.YtolhniepejhmfaaGreatDoor.M10
open Go.Proofs.YtolhniepejhmfaaGreatDoor.W07 (Small Trees Wrote Off heap_top Nodes TreeBox FromOr set_heap nodes_turns off_from off_same right_full same_tree)
open Go.Proofs.YtolhniepejhmfaaGreatDoor.W08 (Sn Snodes isFew few_is)
open Go.Proofs.YtolhniepejhmfaaGreatDoor.W09 (Tk Tasks Within TaskBox Fits off_nodes FromOr.low two_fits made_within)
open Go.Proofs.YtolhniepejhmfaaGreatDoor.Kit (ret_str ret_bool ret_int mk_of mk_bytes ba_ext below_draws on)

/-- where the loop stands: the FS, the plain FS and its box -/
structure GoesF (RepF : Blocks → World → Value → Fs → Prop) (w0 wr : World) (p : Nat) (v : Value) (n : Nat) (x : Fs) (F : Blocks) (u fv : Value) : Prop where
  rep : RepF F wr v x
  box : RefBox wr p u x.t.last fv x.count x.down
  nodes : Nodes wr.heap.size wr u x.t.L
  faults : Faults w0.heap.size wr fv x.faults
  off : Off F u
  offp : ¬ F p
  apart : Off (fun k => k = p) u
  within : Within x.t n
  cnt : 0 ≤ x.count ∧ x.count ≤ n
  new : ∀ k, F k → w0.heap.size ≤ k
  pnew : w0.heap.size ≤ p
  below : Below w0.heap.size w0 wr
/-- behind the FS's own call: the plain FS is still the old one -/
structure MidF (RepF : Blocks → World → Value → Fs → Prop) (w0 w1 : World) (p : Nat) (v : Value) (n : Nat) (x x' : Fs) (F : Blocks) (u fv : Value) : Prop where
  rep : RepF F w1 v x'
  box : RefBox w1 p u x.t.last fv x.count x.down
  nodes : Nodes w1.heap.size w1 u x.t.L
  faults : Faults w0.heap.size w1 fv x.faults
  off : Off F u
  offp : ¬ F p
  apart : Off (fun k => k = p) u
  within : Within x.t n
  cnt : 0 ≤ x.count ∧ x.count ≤ n
  new : ∀ k, F k → w0.heap.size ≤ k
  pnew : w0.heap.size ≤ p
  below : Below w0.heap.size w0 w1
/-- behind the plain call and its store -/
structure MidD (w1 w9 : World) (q : Nat) (u u8 fv : Value) (x' : Fs) : Prop where
  below : Below w1.heap.size w1 w9
  box : RefBox w9 q u8 x'.t.last fv x'.count x'.down
  nodes : Nodes w9.heap.size w9 u8 x'.t.L
  from_ : FromOr u w1.heap.size u8
section
variable {Rep : Blocks → World → Value → Tr → Prop} {RepF : Blocks → World → Value → Fs → Prop} {w0 wr w1 w2 w9 : World} {p q n : Nat} {v u u8 fv fv' : Value} {x x' : Fs} {F F1 : Blocks}
theorem GoesF.boxed (C : Fss Rep RepF) (h : GoesF RepF w0 wr p v n x F u fv) (hb : Below wr.heap.size wr w1) : GoesF RepF w0 w1 p v n x F u fv :=
  ⟨C.below h.rep hb, h.box.below hb, (h.nodes.below hb).more hb.size, h.faults.below (hb.mono h.below.size), h.off, h.offp, h.apart, h.within, h.cnt, h.new, h.pnew, on h.below hb⟩
theorem GoesF.turned (h : GoesF RepF w0 wr p v n x F u fv) (h1 : RepF F1 w1 v x') (h2 : Turns F wr w1) (h3 : ∀ k, F1 k → F k ∨ wr.heap.size ≤ k) : MidF RepF w0 w1 p v n x x' F1 u fv := by
  have hp := h.box.lt
  have hb : Below w0.heap.size wr w1 := h2.below h.new h.below.size
  exact ⟨h1, h.box.turns h2 h.offp, (nodes_turns h.nodes h2 h.off).more h2.size, h.faults.below hb,
    off_same h.nodes (right_full h.within.right) h.off h3, fun hk => (h3 _ hk).elim h.offp (fun e => by omega), h.apart, h.within, h.cnt, fun k hk => (h3 k hk).elim (h.new k) (fun e => Nat.le_trans h.below.size e), h.pnew, h.below.trans hb⟩
/-- the plain FS's box was written; its tree stays -/
theorem MidF.stored (C : Fss Rep RepF) (h : MidF RepF w0 w1 p v n x x' F u fv) (ht : Turns (fun k => k = p) w1 w2) (hx : x'.t = x.t) (hb : RefBox w2 p u x.t.last fv' x'.count x'.down) (hf : Faults w0.heap.size w1 fv' x'.faults) (hc : x'.count = 0) : GoesF RepF w0 w2 p v (n + 1) x' F u fv' := by
  have hbl : Below w0.heap.size w1 w2 := ht.below (fun k e => by have : k = p := e; have := h.pnew; omega) h.below.size
  have hlow := C.low h.rep
  exact {
    rep := C.keep h.rep (fun k hk => ht.block k (hlow k hk) (fun e => h.offp (by have : k = p := e; rw [← this]; exact hk))) ht.size
    box := by rw [hx]; exact hb
    nodes := by rw [hx]; exact (nodes_turns h.nodes ht h.apart).more ht.size
    faults := hf.below hbl
    off := h.off
    offp := h.offp
    apart := h.apart
    within := by rw [hx]; exact h.within.more (Nat.le_succ _)
    cnt := by rw [hc]; exact ⟨by decide, by omega⟩
    new := h.new
    pnew := h.pnew
    below := h.below.trans hbl }
theorem MidF.boxed (C : Fss Rep RepF) (h : MidF RepF w0 w1 p v n x x' F u fv) (hb : Below w1.heap.size w1 w2) : MidF RepF w0 w2 p v n x x' F u fv :=
  ⟨C.below h.rep hb, h.box.below hb, (h.nodes.below hb).more hb.size, h.faults.below (hb.mono h.below.size), h.off, h.offp, h.apart, h.within, h.cnt, h.new, h.pnew, on h.below hb⟩
/-- the plain FS was turned, too -/
theorem MidF.done (C : Fss Rep RepF) (h : MidF RepF w0 w1 p v n x x' F u fv) (m : MidD w1 w9 q u u8 fv x') (hk : Kept x.t x'.t) (hf : x'.faults = x.faults) (hc : x.count ≤ x'.count ∧ x'.count ≤ x.count + 1) : GoesF RepF w0 (store5 w9 p u8 x'.t.last fv x'.count x'.down) p v (n + 1) x' F u8 fv := by
  have h9 := h.boxed C m.below
  have ht := store5_turns w9 p u8 x'.t.last fv x'.count x'.down
  have hbl : Below w0.heap.size w9 (store5 w9 p u8 x'.t.last fv x'.count x'.down) := ht.below (fun k e => by have : k = p := e; have := h.pnew; omega) h9.below.size
  have hlow := C.low h9.rep
  have hlow1 := C.low h.rep
  have hp := h.box.lt
  have hap : Off (fun k => k = p) u8 := off_from h.apart (fun k hk => by have : k = p := hk; omega) m.from_
  exact {
    rep := C.keep h9.rep (fun k hk => ht.block k (hlow k hk) (fun e => h.offp (by have : k = p := e; rw [← this]; exact hk))) ht.size
    box := store5_box h9.box _ _ _ _ _
    nodes := (nodes_turns m.nodes ht hap).more ht.size
    faults := by rw [hf]; exact h9.faults.below hbl
    off := off_from h.off hlow1 m.from_
    offp := h.offp
    apart := hap
    within := h.within.next hk
    cnt := by have := h.cnt; omega
    new := h.new
    pnew := h.pnew
    below := h9.below.trans hbl }
theorem mid_box {w8 : World} (hb : Below w1.heap.size w1 w8) {u0 fv0 : Value} {l0 c0 : Int} {d0 : Bool} (h : RefBox w8 q u0 l0 fv0 c0 d0) (hn : Nodes w8.heap.size w8 u8 x'.t.L) (ho : Off (fun k => k = q) u8) (hq : w1.heap.size ≤ q) (hf : FromOr u w1.heap.size u8) :
    MidD w1 (store5 w8 q u8 x'.t.last fv x'.count x'.down) q u u8 fv x' :=
  have ht := store5_turns w8 q u8 x'.t.last fv x'.count x'.down
  ⟨hb.trans (ht.below (fun k e => by have : k = q := e; omega) hb.size), store5_box h _ _ _ _ _, (nodes_turns hn ht ho).more ht.size, hf⟩
theorem off_new {wA : World} (h : FromOr u wA.heap.size u8) (ho : Off (fun k => k = q) u) (hq : q < wA.heap.size) : Off (fun k => k = q) u8 := off_from ho (fun k hk => by have : k = q := hk; omega) h
theorem off_top {w8 : World} {L : List Nd} (hn : Nodes w8.heap.size w8 u8 L) (h0 : 0 < L.length) : Off (fun k => k = w8.heap.size) u8 := off_nodes hn h0 (fun k hk => by have : k = w8.heap.size := hk; omega)
end
/-- FsErr, the FS written out -/
def FsOut (v fv : Value) (w : World) (R : Fs × Int) (e : Ending) (w' : World) : Prop := ∃ u, e = .returned (.tuple #[.agg #[u, .int .i64 R.1.t.last, fv, .int .i64 R.1.count, .bool R.1.down], .int .i64 R.2]) ∧ Nodes w'.heap.size w' u R.1.t.L ∧ Below w.heap.size w w' ∧ FromOr v w.heap.size u
theorem out_fs {v fv : Value} {w : World} {R : Fs × Int} {e : Ending} {w' : World} (h : FsErr v fv w R e w') : FsOut v fv w R e w' := h
theorem faults_drew {B : Nat} {w : World} {v : Value} {L : List Fl} (h : Faults B w v L) (n : Nat) : Faults B (w.drewN n) v L := ⟨h.recs, h.ats⟩
/-- the cells that the plain call's region reads -/
theorem eight_turns {T : Nat → Prop} {w' w'' : World} {p b q : Nat} {y0 y1 y2 y3 y4 z0 z1 z2 : Value} (h : w'.cell? ⟨p, 0, none⟩ = some y0 ∧ w'.cell? ⟨p, 1, none⟩ = some y1 ∧ w'.cell? ⟨p, 2, none⟩ = some y2 ∧ w'.cell? ⟨p, 3, none⟩ = some y3 ∧ w'.cell? ⟨p, 4, none⟩ = some y4 ∧ w'.cell? ⟨b, q + 2, none⟩ = some z0 ∧ w'.cell? ⟨b, q + 3, none⟩ = some z1 ∧ w'.cell? ⟨b, q + 4, none⟩ = some z2) (t : Turns T w' w'') (hp : ¬ T p) (hb : ¬ T b) :
    w''.cell? ⟨p, 0, none⟩ = some y0 ∧ w''.cell? ⟨p, 1, none⟩ = some y1 ∧ w''.cell? ⟨p, 2, none⟩ = some y2 ∧ w''.cell? ⟨p, 3, none⟩ = some y3 ∧ w''.cell? ⟨p, 4, none⟩ = some y4 ∧ w''.cell? ⟨b, q + 2, none⟩ = some z0 ∧ w''.cell? ⟨b, q + 3, none⟩ = some z1 ∧ w''.cell? ⟨b, q + 4, none⟩ = some z2 :=
  ⟨t.cell h.1 hp, t.cell h.2.1 hp, t.cell h.2.2.1 hp, t.cell h.2.2.2.1 hp, t.cell h.2.2.2.2.1 hp, t.cell h.2.2.2.2.2.1 hb, t.cell h.2.2.2.2.2.2.1 hb, t.cell h.2.2.2.2.2.2.2 hb⟩
theorem eight_on {w' w'' : World} {p b q : Nat} {y0 y1 y2 y3 y4 z0 z1 z2 : Value} (h : w'.cell? ⟨p, 0, none⟩ = some y0 ∧ w'.cell? ⟨p, 1, none⟩ = some y1 ∧ w'.cell? ⟨p, 2, none⟩ = some y2 ∧ w'.cell? ⟨p, 3, none⟩ = some y3 ∧ w'.cell? ⟨p, 4, none⟩ = some y4 ∧ w'.cell? ⟨b, q + 2, none⟩ = some z0 ∧ w'.cell? ⟨b, q + 3, none⟩ = some z1 ∧ w'.cell? ⟨b, q + 4, none⟩ = some z2) (hB : Below w'.heap.size w' w'') :
    w''.cell? ⟨p, 0, none⟩ = some y0 ∧ w''.cell? ⟨p, 1, none⟩ = some y1 ∧ w''.cell? ⟨p, 2, none⟩ = some y2 ∧ w''.cell? ⟨p, 3, none⟩ = some y3 ∧ w''.cell? ⟨p, 4, none⟩ = some y4 ∧ w''.cell? ⟨b, q + 2, none⟩ = some z0 ∧ w''.cell? ⟨b, q + 3, none⟩ = some z1 ∧ w''.cell? ⟨b, q + 4, none⟩ = some z2 :=
  eight_turns h (Turns.new (T := fun _ => False) hB) id id
/-- the cells that the round's last test reads -/
theorem four_keep {W w' w'' : World} {p : Nat} {y0 y1 y2 y3 : Value} (hp : p < W.heap.size) (h : w'.cell? ⟨p, 0, none⟩ = some y0 ∧ w'.cell? ⟨p, 1, none⟩ = some y1 ∧ w'.cell? ⟨p, 3, none⟩ = some y2 ∧ w'.cell? ⟨p, 4, none⟩ = some y3 ∧ Below W.heap.size W w') (hb : Below w'.heap.size w' w'') : w''.cell? ⟨p, 0, none⟩ = some y0 ∧ w''.cell? ⟨p, 1, none⟩ = some y1 ∧ w''.cell? ⟨p, 3, none⟩ = some y2 ∧ w''.cell? ⟨p, 4, none⟩ = some y3 ∧ Below W.heap.size W w'' := by
  have hs := h.2.2.2.2.size
  exact ⟨(hb.cell (by show p < _; omega)).trans h.1, (hb.cell (by show p < _; omega)).trans h.2.1, (hb.cell (by show p < _; omega)).trans h.2.2.1, (hb.cell (by show p < _; omega)).trans h.2.2.2.1, on h.2.2.2.2 hb⟩
theorem four_of {W w' : World} {p : Nat} {y0 y1 y2 y3 : Value} (h : w'.cell? ⟨p, 0, none⟩ = some y0 ∧ w'.cell? ⟨p, 1, none⟩ = some y1 ∧ w'.cell? ⟨p, 3, none⟩ = some y2 ∧ w'.cell? ⟨p, 4, none⟩ = some y3 ∧ Below W.heap.size W w') : Below W.heap.size W w' := h.2.2.2.2
set_option maxHeartbeats 32000000 in
theorem fsDoes_over {Rep : (Nat → Prop) → World → Value → Tr → Prop} {RepF : Blocks → World → Value → Fs → Prop} (T : Trees Rep) (C : Fss Rep RepF) (w : World) (v y : Value) (L : List Sn) (h : Snodes w.heap.size w v L) (K : List Ac) (hK : Acts w.heap.size w y K) :
    Calls Tryz.prog 3 #[v, y] w fun e w' => e = .returned (.bool true) ∧ Below w.heap.size w w' := by
  have HFW := Lib.hid (W08.few_any v L w.heap.size w h)
  have HSW := Lib.hid (short10_any y K w hK)
  have HL := Lib.hid (fun w' => lives10_over T C w')
  have HH := Lib.hid h
  have HK := Lib.hid hK
  obtain ⟨A, c, rfl, -, -⟩ := h.form
  obtain ⟨A2, c2, rfl, hk1, hk2⟩ := hK.recs.form
  unfold maxLen at hk2
  clear h hK
  generalize hm : L.length = m at *
  cases hf : isFew L with
  | false =>
    rw [hf] at HFW
    clear hf hm
    go_enter Tryz.func3, Tryz.ntmps3
    go_wp2_with fail
    refine HFW.out.mono ?_
    rintro e w1 ⟨rfl, hw⟩
    have hw := hw.symm
    subst hw
    go_wp2_with fail
    refine (HL.out _).mono ?_
    rintro e w2 ⟨rfl, hb⟩
    go_wp2_with fail
    go_ret
    exact ⟨rfl, hb⟩
  | true =>
    rw [hf] at HFW
    obtain ⟨hd, hl⟩ := few_is hf
    cases hs : isShort10 K with
    | false =>
      rw [hs] at HSW
      clear hf hm hs hd hl
      go_enter Tryz.func3, Tryz.ntmps3
      go_wp2_with fail
      refine HFW.out.mono ?_
      rintro e w1 ⟨rfl, hw⟩
      have hw := hw.symm
      subst hw
      go_wp2_with fail
      refine HSW.out.mono ?_
      rintro e w1 ⟨rfl, hb1⟩
      have B1 := Lib.hid hb1
      clear hb1
      go_wp2_with fail
      refine (HL.out _).mono ?_
      rintro e w2 ⟨rfl, hb⟩
      go_wp2_with fail
      go_ret
      exact ⟨rfl, on B1.out hb⟩
    | true =>
      rw [hs] at HSW
      obtain ⟨hsd, hsl⟩ := short10_is hs
      have HSD := Lib.hid hsd
      have HM := fun (w1 : World) (hb : Below w.heap.size w w1) => W08.made_over3 T w1 (.slice A m c) L ((HH.out.below hb).more hb.size) hl hd
      have HWI := Lib.hid (made_within hl)
      generalize (W08.made L).1 = T0 at *
      have HM := Lib.hid HM
      clear hf hm hs hd hl hsd
      generalize hq : K.length = q at *
      have HQ := Lib.hid hq
      clear hq
      go_enter Tryz.func3, Tryz.ntmps3
      go_wp2_with fail
      refine HFW.out.mono ?_
      rintro e w1 ⟨rfl, hw⟩
      have hw := hw.symm
      subst hw
      go_wp2_with fail
      refine HSW.out.mono ?_
      rintro e w1 ⟨rfl, hb1⟩
      have B1 := Lib.hid hb1
      have HM := Lib.hid (HM.out w1 hb1)
      clear hb1
      go_wp2_with fail
      refine HM.out.mono ?_
      rintro e w2 ⟨pv, u, F0, rfl, hrep, hn, hF0, hb, hcl⟩
      obtain ⟨Au, cu, rfl, -, -⟩ := hn.form
      obtain ⟨p6, hp6⟩ : ∃ p, w2.heap.size = p := ⟨_, rfl⟩
      obtain ⟨w3, hw3⟩ : ∃ w3, w2.alloc (.cells #[.slice Au T0.L.length cu, .int .i64 T0.last] 30) = w3 := ⟨_, rfl⟩
      have ha : Below w2.heap.size w2 w3 := by rw [← hw3]; exact (Below.refl _ _).alloc (Nat.le_refl _) _
      have BX3 : Hid (TreeBox w3 p6 (.slice Au T0.L.length cu) T0.last) := by show TreeBox _ _ _ _; rw [← hp6, ← hw3]; exact heap_top _ _
      have HNW := Lib.hid (C.new (T.below hrep ha))
      have HN2 := Lib.hid hn
      have HF0 := Lib.hid hF0
      have HCL := Lib.hid hcl
      have B2 := Lib.hid (on B1.out hb)
      have A23 := Lib.hid ha
      have B12 := Lib.hid hb
      clear hrep hn hF0 hb hcl ha HM HFW HSW
      go_wp2_with fail
      clear hw3 hp6
      refine HNW.out.mono ?_
      rintro e w4 ⟨v4, F4, rfl, h4, s4, hb4⟩
      obtain ⟨ad, rfl⟩ := C.full h4
      have b4 := BX3.out.below hb4
      have x0 := b4.c0
      have x1 := b4.c1
      obtain ⟨p8, hp8⟩ : ∃ p, w4.heap.size = p := ⟨_, rfl⟩
      have G0 : Hid (GoesF RepF w (w4.alloc (.cells #[.slice Au T0.L.length cu, .int .i64 T0.last, .slice none 0 0, .int .i64 0, .bool false] 37)) p8 (.pointer (some ad)) (61 + 0) ⟨T0, [], 0, false⟩ F4 (.slice Au T0.L.length cu) (.slice none 0 0)) := by
        have h5 : Below w4.heap.size w4 (w4.alloc (.cells #[.slice Au T0.L.length cu, .int .i64 T0.last, .slice none 0 0, .int .i64 0, .bool false] 37)) := (Below.refl _ _).alloc (Nat.le_refl _) _
        have hb24 := on A23.out hb4
        have hb25 := on hb24 h5
        have hr := right_full HWI.out.right
        have h0w := B2.out.size
        have h1w := B1.out.size
        have h3s := A23.out.size
        have h4s := hb4.size
        have hlow := C.low h4
        exact {
          rep := C.below h4 h5
          box := by rw [← hp8]; exact heap_top _ _
          nodes := (HN2.out.below hb25).more hb25.size
          faults := ⟨recs_nil _ _ _ _, fun x hx => by cases hx⟩
          off := off_same HN2.out hr HCL.out (fun k hk => (s4 k hk).imp id (fun e => Nat.le_trans h3s e))
          offp := fun hk => by have := hlow _ hk; omega
          apart := off_nodes HN2.out hr (fun k hk => by have : k = p8 := hk; omega)
          within := HWI.out
          cnt := ⟨Int.le_refl _, by show (0 : Int) ≤ _; omega⟩
          new := fun k hk => (s4 k hk).elim (fun e => Nat.le_trans h1w (HF0.out k e)) (fun e => by omega)
          pnew := by omega
          below := on B2.out hb25 }
      clear h4 s4 b4 hb4 HNW
      go_wp2_with fail
      clear hp8 x0 x1
      go_loopw [9] (fun i wr => ∃ (k : Nat) (x : Fs) (F : Blocks) (u fv : Value), i = .int .i64 k ∧ k ≤ q ∧ Hid (GoesF RepF w wr p8 (.pointer (some ad)) (61 + k) x F u fv)) (fun i _ => q - (intOf i).toNat)
      case atStart => exact ⟨0, _, _, _, _, rfl, Nat.zero_le _, G0.out⟩
      case round =>
        clear G0
        obtain ⟨k, x, F, u, fv, rfl, hk, hg⟩ := hrel
        by_cases hlt : k < q
        · obtain ⟨b, o, hl1, rfl, hbl, a0, a1, a2, a3, a4⟩ := Acts.at_ (HK.out.below hg.out.below) hlt
          have hbF : ¬ F b := fun hk => by have := hg.out.new _ hk; omega
          have hbp : ¬ b = p8 := by have := hg.out.pnew; omega
          have hxd := HSD.out _ (List.getElem_mem hl1)
          have HIN := Lib.hid ((HK.out.below hg.out.below).inner _ (List.getElem_mem hl1))
          generalize K[k] = z at *
          obtain ⟨xd, xf, xl, xk, xp, xt⟩ := z
          obtain ⟨sp, hsp⟩ : ∃ d : ByteArray, d.data.toList = xp := ⟨⟨xp.toArray⟩, rfl⟩
          obtain ⟨st, hst⟩ : ∃ d : ByteArray, d.data.toList = xt := ⟨⟨xt.toArray⟩, rfl⟩
          subst hsp hst
          have a0 : wr.cell? ⟨b, o + k * 5, none⟩ = some (.int .i64 xd) := a0
          have a1 : wr.cell? ⟨b, o + k * 5 + 1, none⟩ = some xf := a1
          have a2 : wr.cell? ⟨b, o + k * 5 + 2, none⟩ = some (.int .i64 xk) := a2
          have a3 : wr.cell? ⟨b, o + k * 5 + 3, none⟩ = some (.string sp) := by have := a3; rw [mk_bytes] at this; exact this
          have a4 : wr.cell? ⟨b, o + k * 5 + 4, none⟩ = some (.string st) := by have := a4; rw [mk_bytes] at this; exact this
          have hps : sp.size ≤ 1048576 := by have := hxd.1; rw [← Lib.size_eq] at this; omega
          have hts : st.size ≤ 1048576 := by have := hxd.2.1; rw [← Lib.size_eq] at this; omega
          have HIN : Hid (Faults w.heap.size wr xf xl) := HIN.out
          have hnn : 61 + k ≤ 1048576 := by omega
          have hbs := hg.out.below.size
          have hb0 : (0 : Int) ≤ (k : Int) := by omega
          have hb1 : (k : Int) < (q : Int) := by omega
          obtain ⟨Au, cu, rfl, -, -⟩ := hg.out.nodes.form
          obtain ⟨Af, cf, rfl, -, -⟩ := hg.out.faults.recs.form
          clear hxd
          by_cases h0 : xd = 0
          · have t0 : (xd == 0) = true := by simp [h0]
            have HU := Lib.hid (C.up hg.out.rep)
            have HG := Lib.hid hg.out
            clear h0 a1 a2 a3 a4 HIN hg
            go_wp2_with fail
            refine HU.out.mono ?_
            rintro e w6 ⟨rfl, F6, h6, t6, s6⟩
            have M6 := HG.out.turned h6 t6 s6
            have HM6 := Lib.hid M6
            have d0 := M6.box.c0
            have d1 := M6.box.c1
            have d2 := M6.box.c2
            have d3 := M6.box.c3
            have d4 := M6.box.c4
            have v0 := M6.box.fr 0
            have v1 := M6.box.fr 1
            have v2 := M6.box.fr 2
            have v3 := M6.box.fr 3
            have v4 := M6.box.fr 4
            obtain ⟨w7, hw7⟩ : ∃ w7, store5 w6 p8 (.slice Au x.t.L.length cu) x.t.last (.slice none 0 0) 0 false = w7 := ⟨_, rfl⟩
            have G : GoesF RepF w w7 p8 (.pointer (some ad)) (61 + k + 1) ⟨x.t, [], 0, false⟩ F6 (.slice Au x.t.L.length cu) (.slice none 0 0) := by
              rw [← hw7]
              exact M6.stored C (store5_turns _ _ _ _ _ _ _) rfl (store5_box M6.box _ _ _ _ _) ⟨recs_nil _ _ _ _, fun x hx => by cases hx⟩ rfl
            have G := Lib.hid G
            unfold store5 at hw7
            clear M6 h6 t6 s6 HU a0
            have c0 := G.out.box.c0
            have c1 := G.out.box.c1
            have c3 := G.out.box.c3
            have c4 := G.out.box.c4
            have hp8 := G.out.box.lt
            have HCT := Lib.hid (fun (w' : World) (hb : Below w7.heap.size w7 w') => C.count (C.below G.out.rep hb))
            have HDN := Lib.hid (fun (w' : World) (hb : Below w7.heap.size w7 w') => C.down (C.below G.out.rep hb))
            have HTR := Lib.hid (fun (w' : World) (hb : Below w7.heap.size w7 w') => C.tree (C.below G.out.rep hb))
            have HSM := Lib.hid (fun (w' : World) (tv : Value) (Ft : Blocks) (hb : Below w7.heap.size w7 w') (hr : Rep Ft w' tv (⟨x.t, [], 0, false⟩ : Fs).t) => same_tree T w' hr ((G.out.within.good (by omega)).small) _ ((G.out.nodes.below hb).more hb.size))

            go_wp2_with fail
            go_region_held3 (fun w' => w'.cell? ⟨p8, 0, none⟩ = some (.slice Au x.t.L.length cu) ∧ w'.cell? ⟨p8, 1, none⟩ = some (.int .i64 (⟨x.t, [], 0, false⟩ : Fs).t.last) ∧ w'.cell? ⟨p8, 3, none⟩ = some (.int .i64 0) ∧ w'.cell? ⟨p8, 4, none⟩ = some (.bool false) ∧ Below w7.heap.size w7 w')
              (first | exact four_keep hp8 (by assumption) hb24 | exact four_keep hp8 (by assumption) hb23 | exact four_keep hp8 (by assumption) hb22 | exact four_keep hp8 (by assumption) hb21 | exact ⟨c0, c1, c3, c4, (Below.refl _ _).drew⟩ | go_keep)
              (first
                | (go_at_call 14; refine (HCT.out _ (four_of (by assumption))).mono ?_; rintro e w21 ⟨rfl, hb21⟩)
                | (go_at_call 15; refine (HDN.out _ (four_of (by assumption))).mono ?_; rintro e w22 ⟨rfl, hb22⟩)
                | (go_at_call 17; refine (HTR.out _ (four_of (by assumption))).mono ?_; rintro e w23 ⟨tv, Ft, rfl, hr23, -, hb23⟩)
                | (go_at_call 16; refine (HSM.out _ _ _ (four_of (by assumption)) hr23).mono ?_; rintro e w24 ⟨rfl, hb24⟩))
            rename_i hHeld
            have GE := G.out.boxed C (four_of hHeld)
            have GE := Lib.hid GE
            clear hHeld c0 c1 c3 c4 HCT HDN HTR HSM G
            go_wp2_with fail
            go_roundw
            case rel => exact ⟨k + 1, (⟨x.t, [], 0, false⟩ : Fs), F6, _, _, by go_num, by omega, GE⟩
            case measure => simp [intOf]; omega
          · by_cases h1 : xd = 1
            · have t0 : (xd == 0) = false := by simp [h0]
              have t1 : (xd == 1) = true := by simp [h1]
              obtain ⟨Al, cl, rfl, -, -⟩ := HIN.out.recs.form
              have HP := Lib.hid (C.plan hg.out.rep _ xl (HIN.out.more hg.out.below.size))
              have HG := Lib.hid hg.out
              clear h0 h1 a2 a3 a4 hg
              go_wp2_with fail
              refine HP.out.mono ?_
              rintro e w6 ⟨rfl, F6, h6, t6, s6⟩
              have M6 := HG.out.turned h6 t6 s6
              have HM6 := Lib.hid M6
              have hb6 : Below w.heap.size wr w6 := t6.below HG.out.new HG.out.below.size
              have HI6 := Lib.hid (HIN.out.below hb6)
              have e1 := t6.cell a1 hbF
              have d2 := M6.box.c2
              have d3 := M6.box.c3
              have v2 := M6.box.fr 2
              have v3 := M6.box.fr 3
              obtain ⟨w7, hw7⟩ : ∃ w7, (w6.setCell ⟨p8, 2, none⟩ (.slice Al xl.length cl)).setCell ⟨p8, 3, none⟩ (.int .i64 0) = w7 := ⟨_, rfl⟩
              have G : GoesF RepF w w7 p8 (.pointer (some ad)) (61 + k + 1) { x with faults := xl, count := 0 } F6 (.slice Au x.t.L.length cu) (.slice Al xl.length cl) := by
                rw [← hw7]
                exact M6.stored C ((turn1 _ _ _ _).trans (turn1 _ _ _ _)) rfl (set_heap (set_heap M6.box 2 _) 3 _) HI6.out rfl
              have G := Lib.hid G
              clear M6 h6 t6 s6 HP a0 a1
              have c0 := G.out.box.c0
              have c1 := G.out.box.c1
              have c3 := G.out.box.c3
              have c4 := G.out.box.c4
              have hp8 := G.out.box.lt
              have HCT := Lib.hid (fun (w' : World) (hb : Below w7.heap.size w7 w') => C.count (C.below G.out.rep hb))
              have HDN := Lib.hid (fun (w' : World) (hb : Below w7.heap.size w7 w') => C.down (C.below G.out.rep hb))
              have HTR := Lib.hid (fun (w' : World) (hb : Below w7.heap.size w7 w') => C.tree (C.below G.out.rep hb))
              have HSM := Lib.hid (fun (w' : World) (tv : Value) (Ft : Blocks) (hb : Below w7.heap.size w7 w') (hr : Rep Ft w' tv ({ x with faults := xl, count := 0 } : Fs).t) => same_tree T w' hr ((G.out.within.good (by omega)).small) _ ((G.out.nodes.below hb).more hb.size))

              go_wp2_with fail
              go_region_held3 (fun w' => w'.cell? ⟨p8, 0, none⟩ = some (.slice Au x.t.L.length cu) ∧ w'.cell? ⟨p8, 1, none⟩ = some (.int .i64 ({ x with faults := xl, count := 0 } : Fs).t.last) ∧ w'.cell? ⟨p8, 3, none⟩ = some (.int .i64 0) ∧ w'.cell? ⟨p8, 4, none⟩ = some (.bool x.down) ∧ Below w7.heap.size w7 w')
                (first | exact four_keep hp8 (by assumption) hb24 | exact four_keep hp8 (by assumption) hb23 | exact four_keep hp8 (by assumption) hb22 | exact four_keep hp8 (by assumption) hb21 | exact ⟨c0, c1, c3, c4, (Below.refl _ _).drew⟩ | go_keep)
                (first
                  | (go_at_call 14; refine (HCT.out _ (four_of (by assumption))).mono ?_; rintro e w21 ⟨rfl, hb21⟩)
                  | (go_at_call 15; refine (HDN.out _ (four_of (by assumption))).mono ?_; rintro e w22 ⟨rfl, hb22⟩)
                  | (go_at_call 17; refine (HTR.out _ (four_of (by assumption))).mono ?_; rintro e w23 ⟨tv, Ft, rfl, hr23, -, hb23⟩)
                  | (go_at_call 16; refine (HSM.out _ _ _ (four_of (by assumption)) hr23).mono ?_; rintro e w24 ⟨rfl, hb24⟩))
              rename_i hHeld
              have GE := G.out.boxed C (four_of hHeld)
              have GE := Lib.hid GE
              clear hHeld c0 c1 c3 c4 HCT HDN HTR HSM G
              go_wp2_with fail
              go_roundw
              case rel => exact ⟨k + 1, ({ x with faults := xl, count := 0 } : Fs), F6, _, _, by go_num, by omega, GE⟩
              case measure => simp [intOf]; omega
            · have t0 : (xd == 0) = false := by simp [h0]
              have t1 : (xd == 1) = false := by simp [h1]
              have hcn := hg.out.cnt
              have HD := Lib.hid (C.do_ hg.out.rep (hg.out.within.good hnn) ⟨hcn.1, by omega⟩ xk sp st hps hts)
              have HG := Lib.hid hg.out
              have HKP := Lib.hid (kept_fs x xk sp.data.toList st.data.toList)
              have HFA := Lib.hid (faults_fs x xk sp.data.toList st.data.toList)
              have HCO := Lib.hid (count_fs x xk sp.data.toList st.data.toList)
              have HRD := Lib.hid (fun (w' : World) (u : Value) (hf : Fits x.t w' u) (fv : Value) (hL : Faults w'.heap.size w' fv x.faults) => (show Calls Tryz.prog 13 #[.agg #[u, .int .i64 x.t.last, fv, .int .i64 x.count, .bool x.down], .agg #[.int .i64 xk, .string sp, .string st]] w' (FsOut u fv w' (doFs ⟨x.t, x.faults, x.count, x.down⟩ xk sp.data.toList st.data.toList)) from (refDo10_any x.t u w' hf hg.out.within.right fv x.faults hL x.count hcn.1 (by omega) x.down xk sp st (by unfold maxLen; omega)).mono fun _ _ h => out_fs h))
              have hxe : (⟨x.t, x.faults, x.count, x.down⟩ : Fs) = x := rfl
              rw [hxe] at HRD
              generalize doFs x xk sp.data.toList st.data.toList = R at *
              obtain ⟨x', er⟩ := R
              have HKP : Hid (Kept x.t x'.t) := HKP.out
              have HFA : Hid (x'.faults = x.faults) := HFA.out
              have HCO : Hid (x.count ≤ x'.count ∧ x'.count ≤ x.count + 1) := HCO.out
              clear h0 h1 a1 hg hcn hxe
              go_wp2_with fail
              refine HD.out.mono ?_
              rintro e wa ⟨rfl, F6, h6, t6, s6⟩
              have M6 := Lib.hid (HG.out.turned h6 t6 s6)
              have ca : wa.cell? ⟨p8, 0, none⟩ = some (.slice Au x.t.L.length cu) ∧ wa.cell? ⟨p8, 1, none⟩ = some (.int .i64 x.t.last) ∧ wa.cell? ⟨p8, 2, none⟩ = some (.slice Af x.faults.length cf) ∧ wa.cell? ⟨p8, 3, none⟩ = some (.int .i64 x.count) ∧ wa.cell? ⟨p8, 4, none⟩ = some (.bool x.down) ∧ wa.cell? ⟨b, o + k * 5 + 2, none⟩ = some (.int .i64 xk) ∧ wa.cell? ⟨b, o + k * 5 + 3, none⟩ = some (.string sp) ∧ wa.cell? ⟨b, o + k * 5 + 4, none⟩ = some (.string st) :=
                ⟨M6.out.box.c0, M6.out.box.c1, M6.out.box.c2, M6.out.box.c3, M6.out.box.c4, t6.cell a2 hbF, t6.cell a3 hbF, t6.cell a4 hbF⟩
              have hpa := M6.out.box.lt
              have hba := M6.out.below.size
              obtain ⟨wA, hwA⟩ : ∃ wA : World, wa.alloc (.cells #[.slice none 0 0, .int .i64 0, .slice none 0 0, .int .i64 0, .bool false] 37) = wA := ⟨_, rfl⟩
              have hbA : Below wa.heap.size wa wA := by rw [← hwA]; exact (Below.refl _ _).alloc (Nat.le_refl _) _
              have hlt2 : wa.heap.size < wA.heap.size := by have : wA.heap.size = wa.heap.size + 1 := (by rw [← hwA]; exact World.size_alloc _ _); omega
              have TBA : RefBox wA wa.heap.size (.slice none 0 0) 0 (.slice none 0 0) 0 false := by rw [← hwA]; exact heap_top _ _
              have cA := eight_on ca hbA
              have HDA := Lib.hid (HRD.out (wA.drewN 1) _ (two_fits (w := wA.drewN 1) M6.out.within hnn ((M6.out.nodes.below hbA).more hbA.size)) (.slice Af x.faults.length cf) (faults_drew ((M6.out.faults.below (hbA.mono hba)).more (Nat.le_trans hba hbA.size)) 1))
              have HDW := Lib.hid (HRD.out (wa.drewN 1) _ (two_fits (w := wa.drewN 1) M6.out.within hnn M6.out.nodes) (.slice Af x.faults.length cf) (faults_drew (M6.out.faults.more hba) 1))
              obtain ⟨c0, c1, c2', c3, c4, e0, e1, e2⟩ := ca
              obtain ⟨x0, x1, x2, x3, x4, y0, y1, y2⟩ := cA
              clear h6 t6 s6 HD HRD a0 a2 a3 a4
              go_wp2_with fail
              go_region_held3 (fun w' => w'.cell? ⟨p8, 0, none⟩ = some (.slice Au x.t.L.length cu) ∧ w'.cell? ⟨p8, 1, none⟩ = some (.int .i64 x.t.last) ∧ w'.cell? ⟨p8, 2, none⟩ = some (.slice Af x.faults.length cf) ∧ w'.cell? ⟨p8, 3, none⟩ = some (.int .i64 x.count) ∧ w'.cell? ⟨p8, 4, none⟩ = some (.bool x.down) ∧ w'.cell? ⟨b, o + k * 5 + 2, none⟩ = some (.int .i64 xk) ∧ w'.cell? ⟨b, o + k * 5 + 3, none⟩ = some (.string sp) ∧ w'.cell? ⟨b, o + k * 5 + 4, none⟩ = some (.string st))
                (first | exact F5 | exact FN | exact F8 | exact ⟨x0, x1, x2, x3, x4, y0, y1, y2⟩ | exact ⟨c0, c1, c2', c3, c4, e0, e1, e2⟩ | go_keep)
                (first
                  | (go_at_call 13; refine HDA.out.mono ?_; rintro e w8 ⟨u8, rfl, hn8, hb8, hf8⟩; obtain ⟨A8, c8, hue8, -, -⟩ := hn8.form; subst hue8; have hb8' : Below wA.heap.size wA w8 := (below_draws wA 1).trans hb8; have F8 := eight_on (w' := wA) (p := p8) (b := b) (q := o + k * 5) ⟨x0, x1, x2, x3, x4, y0, y1, y2⟩ hb8'; obtain ⟨pQ, hpQ⟩ : ∃ p, wa.heap.size = p := ⟨_, rfl⟩; have TBN : RefBox w8 pQ (.slice none 0 0) 0 (.slice none 0 0) 0 false := (by rw [← hpQ]; exact TBA.below hb8'); have m0 := TBN.c0; have n0 := TBN.fr 0; have m1 := TBN.c1; have n1 := TBN.fr 1; have m2 := TBN.c2; have n2 := TBN.fr 2; have m3 := TBN.c3; have n3 := TBN.fr 3; have m4 := TBN.c4; have n4 := TBN.fr 4; obtain ⟨w9, hw9⟩ : ∃ w', store5 w8 pQ (.slice A8 x'.t.L.length c8) x'.t.last (.slice Af x.faults.length cf) x'.count x'.down = w' := ⟨_, rfl⟩; have F5 := eight_turns F8 (show Turns (fun i => i = pQ) w8 w9 by rw [← hw9]; exact store5_turns _ _ _ _ _ _ _) (by omega) (by omega); have MID := Lib.hid (show MidD wa w9 pQ (.slice Au x.t.L.length cu) (.slice A8 x'.t.L.length c8) (.slice Af x.faults.length cf) x' by rw [← hw9]; exact mid_box (hbA.trans (hb8'.mono (by omega))) TBN hn8 (off_from (off_nodes M6.out.nodes (right_full M6.out.within.right) (fun k hk => by have : k = pQ := hk; omega)) (fun k hk => by have : k = pQ := hk; show k < wA.heap.size; omega) hf8) (by omega) (FromOr.low hf8 (by show _ ≤ wA.heap.size; omega))); unfold store5 at hw9)
                  | (go_at_call 13; refine HDW.out.mono ?_; rintro e w8 ⟨u8, rfl, hn8, hb8, hf8⟩; obtain ⟨A8, c8, hue8, -, -⟩ := hn8.form; subst hue8; have hb8' : Below wa.heap.size wa w8 := (below_draws wa 1).trans hb8; have F8 := eight_on (w' := wa) (p := p8) (b := b) (q := o + k * 5) ⟨c0, c1, c2', c3, c4, e0, e1, e2⟩ hb8'; have hz8 := hb8'.size; obtain ⟨pQ, hpQ⟩ : ∃ p, w8.heap.size = p := ⟨_, rfl⟩; obtain ⟨wN, hwN⟩ : ∃ w', w8.alloc (.cells #[.slice none 0 0, .int .i64 0, .slice none 0 0, .int .i64 0, .bool false] 37) = w' := ⟨_, rfl⟩; have hbN : Below w8.heap.size w8 wN := (by rw [← hwN]; exact (Below.refl _ _).alloc (Nat.le_refl _) _); have TBN : RefBox wN pQ (.slice none 0 0) 0 (.slice none 0 0) 0 false := (by rw [← hpQ, ← hwN]; exact heap_top _ _); have FN := eight_on F8 hbN; have m0 := TBN.c0; have n0 := TBN.fr 0; have m1 := TBN.c1; have n1 := TBN.fr 1; have m2 := TBN.c2; have n2 := TBN.fr 2; have m3 := TBN.c3; have n3 := TBN.fr 3; have m4 := TBN.c4; have n4 := TBN.fr 4; obtain ⟨w9, hw9⟩ : ∃ w', store5 wN pQ (.slice A8 x'.t.L.length c8) x'.t.last (.slice Af x.faults.length cf) x'.count x'.down = w' := ⟨_, rfl⟩; have F5 := eight_turns FN (show Turns (fun i => i = pQ) wN w9 by rw [← hw9]; exact store5_turns _ _ _ _ _ _ _) (by omega) (by omega); have MID := Lib.hid (show MidD wa w9 pQ (.slice Au x.t.L.length cu) (.slice A8 x'.t.L.length c8) (.slice Af x.faults.length cf) x' by rw [← hw9]; exact mid_box (on hb8' hbN) TBN ((hn8.below hbN).more hbN.size) (off_nodes hn8 (right_full (HKP.out.right M6.out.within.right)) (fun k hk => by have : k = pQ := hk; omega)) (by omega) (FromOr.low hf8 (by show _ ≤ wa.heap.size; omega))); unfold store5 at hw9))
              all_goals (
                have m0 := MID.out.box.c0
                have m1 := MID.out.box.c1
                have m2 := MID.out.box.c2
                have m3 := MID.out.box.c3
                have m4 := MID.out.box.c4
                have M9 := M6.out.boxed C MID.out.below
                have d0 := M9.box.c0
                have d1 := M9.box.c1
                have d2 := M9.box.c2
                have d3 := M9.box.c3
                have d4 := M9.box.c4
                have v0 := M9.box.fr 0
                have v1 := M9.box.fr 1
                have v2 := M9.box.fr 2
                have v3 := M9.box.fr 3
                have v4 := M9.box.fr 4
                have G := M6.out.done C MID.out HKP.out HFA.out HCO.out
                obtain ⟨w10, hw10⟩ : ∃ w', store5 w9 p8 (.slice A8 x'.t.L.length c8) x'.t.last (.slice Af x.faults.length cf) x'.count x'.down = w' := ⟨_, rfl⟩
                rw [hw10] at G
                have G := Lib.hid G
                unfold store5 at hw10
                clear F5 HDA HDW c0 c1 c2' c3 c4 e0 e1 e2 x0 x1 x2 x3 x4 y0 y1 y2 MID M9 n0 n1 n2 n3 n4 M6
                have c0 := G.out.box.c0
                have c1 := G.out.box.c1
                have c3 := G.out.box.c3
                have c4 := G.out.box.c4
                have hp8 := G.out.box.lt
                have HCT := Lib.hid (fun (w' : World) (hb : Below w10.heap.size w10 w') => C.count (C.below G.out.rep hb))
                have HDN := Lib.hid (fun (w' : World) (hb : Below w10.heap.size w10 w') => C.down (C.below G.out.rep hb))
                have HTR := Lib.hid (fun (w' : World) (hb : Below w10.heap.size w10 w') => C.tree (C.below G.out.rep hb))
                have HSM := Lib.hid (fun (w' : World) (tv : Value) (Ft : Blocks) (hb : Below w10.heap.size w10 w') (hr : Rep Ft w' tv x'.t) => same_tree T w' hr ((G.out.within.good (by omega)).small) _ ((G.out.nodes.below hb).more hb.size))

                go_wp2_with fail
                go_region_held3 (fun w' => w'.cell? ⟨p8, 0, none⟩ = some (.slice A8 x'.t.L.length c8) ∧ w'.cell? ⟨p8, 1, none⟩ = some (.int .i64 x'.t.last) ∧ w'.cell? ⟨p8, 3, none⟩ = some (.int .i64 x'.count) ∧ w'.cell? ⟨p8, 4, none⟩ = some (.bool x'.down) ∧ Below w10.heap.size w10 w')
                  (first | exact four_keep hp8 (by assumption) hb24 | exact four_keep hp8 (by assumption) hb23 | exact four_keep hp8 (by assumption) hb22 | exact four_keep hp8 (by assumption) hb21 | exact ⟨c0, c1, c3, c4, (Below.refl _ _).drew⟩ | go_keep)
                  (first
                    | (go_at_call 14; refine (HCT.out _ (four_of (by assumption))).mono ?_; rintro e w21 ⟨rfl, hb21⟩)
                    | (go_at_call 15; refine (HDN.out _ (four_of (by assumption))).mono ?_; rintro e w22 ⟨rfl, hb22⟩)
                    | (go_at_call 17; refine (HTR.out _ (four_of (by assumption))).mono ?_; rintro e w23 ⟨tv, Ft, rfl, hr23, -, hb23⟩)
                    | (go_at_call 16; refine (HSM.out _ _ _ (four_of (by assumption)) hr23).mono ?_; rintro e w24 ⟨rfl, hb24⟩))
                rename_i hHeld
                have GE := G.out.boxed C (four_of hHeld)
                have GE := Lib.hid GE
                clear hHeld c0 c1 c3 c4 HCT HDN HTR HSM G
                go_wp2_with fail
                go_roundw
                case rel => exact ⟨k + 1, x', F6, _, _, by go_num, by omega, GE⟩
                case measure => simp [intOf]; omega)
        · go_wp2_with fail
          refine (HL.out _).mono ?_
          rintro e w4 ⟨rfl, hb4⟩
          go_wp2_with fail
          go_ret
          exact ⟨rfl, on hg.out.below hb4⟩
end Go.Proofs.YtolhniepejhmfaaGreatDoor.W10
/-
  Layer 10 (fs): the landed code keeps the contracts that the law FsDoes asks ('fss': XW10Inst); so the law holds. Conditions: none but those that the theorem bears.
-/
namespace Go.Proofs.YtolhniepejhmfaaGreatDoor.W10
open Go Go.RowKit Go.Proofs.YtolhniepejhmfaaGreatDoor.Strs Go.Proofs.YtolhniepejhmfaaGreatDoor.Recs
open Go.Proofs.YtolhniepejhmfaaGreatDoor.W07 (trees)
open Go.Proofs.YtolhniepejhmfaaGreatDoor.W08 (Sn Snodes)

theorem fsDoes_law (w : World) (v : Value) (L : List Sn) (h : Snodes w.heap.size w v L) (y : Value) (K : List Ac) (hK : Acts w.heap.size w y K) :
    Calls Tryz.prog 3 #[v, y] w fun e w' => e = .returned (.bool true) ∧ Below w.heap.size w w' := fsDoes_over trees fss w v y L h K hK
end Go.Proofs.YtolhniepejhmfaaGreatDoor.W10
