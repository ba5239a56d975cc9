/-
  Layer 3 (name), walks: the plain answer's Sort: the texts of any slice (at most 2^40 of them), rising and each once, in new memory; nothing that was there is changed.
-/
import Derived.Test.YtpefncegkhkeaaaW03Find
namespace Go.Proofs.Ytpefncegkhkeaaa.W03
open Go Go.RowKit Go.Proofs.Ytpefncegkhkeaaa.Strs Go.Proofs.Ytpefncegkhkeaaa.M03
open Go.Proofs.Ytpefncegkhkeaaa.Kit (below_draws mk_bytes)

/-- a text that stands behind all of a list -/
def Above (out : List (List UInt8)) (x : List UInt8) : Prop := ∀ y ∈ out, lt y x
def Outer (L out : List (List UInt8)) : Prop := Rises out ∧ (∀ x ∈ out, x ∈ L) ∧ ∀ x ∈ L, x ∈ out ∨ Above out x
def Inner (L : List (List UInt8)) (out : List (List UInt8)) (i : Nat) (found : Bool) (best : ByteArray) : Prop :=
  (found = true → best.data.toList ∈ L ∧ Above out best.data.toList ∧ ∀ j, j < i → Above out (L.getD j []) → ¬ lt (L.getD j []) best.data.toList) ∧ (found = false → ∀ j, j < i → ¬ Above out (L.getD j []))
theorem get_mem {L : List (List UInt8)} {j : Nat} (h : j < L.length) : L.getD j [] ∈ L := by
  have : L.getD j [] = L[j] := by simp [h]
  rw [this]; exact List.getElem_mem h
theorem above_last {init : List (List UInt8)} {last x : List UInt8} (h : Rises (init ++ [last])) : Above (init ++ [last]) x ↔ lt last x := by
  constructor
  · intro ha; exact ha last (by simp)
  · intro hl y hy
    rcases List.mem_append.1 hy with e | e
    · unfold Rises at h
      rw [List.pairwise_append] at h
      exact lt_trans (h.2.2 y e last (by simp)) hl
    · rw [List.mem_singleton.1 e]; exact hl
theorem inner_skip {L out : List (List UInt8)} {i : Nat} {found : Bool} {best : ByteArray} (h : Inner L out i found best) (hn : ¬ Above out (L.getD i [])) : Inner L out (i + 1) found best := by
  refine ⟨fun hf => ⟨(h.1 hf).1, (h.1 hf).2.1, fun j hj ha => ?_⟩, fun hf j hj => ?_⟩
  · by_cases e : j = i
    · rw [e] at ha; exact absurd ha hn
    · exact (h.1 hf).2.2 j (by omega) ha
  · by_cases e : j = i
    · rw [e]; exact hn
    · exact h.2 hf j (by omega)
theorem inner_keep {L out : List (List UInt8)} {i : Nat} {best : ByteArray} (h : Inner L out i true best) (hn : ¬ lt (L.getD i []) best.data.toList) : Inner L out (i + 1) true best := by
  refine ⟨fun hf => ⟨(h.1 hf).1, (h.1 hf).2.1, fun j hj ha => ?_⟩, fun hf => by cases hf⟩
  by_cases e : j = i
  · rw [e]; exact hn
  · exact (h.1 hf).2.2 j (by omega) ha
theorem inner_take {L out : List (List UInt8)} {i : Nat} {found : Bool} {best x : ByteArray} (h : Inner L out i found best) (hi : i < L.length) (hx : x.data.toList = L.getD i []) (ha : Above out x.data.toList) (hn : found = true → lt x.data.toList best.data.toList) : Inner L out (i + 1) true x := by
  refine ⟨fun _ => ⟨by rw [hx]; exact get_mem hi, ha, fun j hj hj2 => ?_⟩, fun hf => by cases hf⟩
  by_cases e : j = i
  · rw [e, ← hx]; exact lt_irrefl _
  · cases hfd : found with
    | true => exact fun hl => (h.1 hfd).2.2 j (by omega) hj2 (lt_trans hl (hn hfd))
    | false => exact absurd hj2 (h.2 hfd j (by omega))
theorem mem_get {L : List (List UInt8)} {x : List UInt8} (h : x ∈ L) : ∃ j, j < L.length ∧ L.getD j [] = x := by
  obtain ⟨j, hj, rfl⟩ := List.mem_iff_getElem.1 h
  exact ⟨j, hj, by simp [hj]⟩
theorem outer_step {L out : List (List UInt8)} {best : ByteArray} (h : Outer L out) (hi : Inner L out L.length true best) : Outer L (out ++ [best.data.toList]) := by
  have hb := hi.1 rfl
  refine ⟨?_, ?_, ?_⟩
  · unfold Rises
    rw [List.pairwise_append]
    exact ⟨h.1, List.pairwise_singleton _ _, fun a ha b hb2 => by rw [List.mem_singleton.1 hb2]; exact hb.2.1 a ha⟩
  · intro x hx
    rcases List.mem_append.1 hx with e | e
    · exact h.2.1 x e
    · rw [List.mem_singleton.1 e]; exact hb.1
  · intro x hx
    rcases h.2.2 x hx with e | e
    · left; simp [e]
    · obtain ⟨j, hj, rfl⟩ := mem_get hx
      have := hb.2.2 j hj e
      rcases lt_total (L.getD j []) best.data.toList with h1 | h1 | h1
      · exact absurd h1 this
      · left; exact List.mem_append.2 (Or.inr (by rw [h1]; simp))
      · right
        intro y hy
        rcases List.mem_append.1 hy with e2 | e2
        · exact e y e2
        · rw [List.mem_singleton.1 e2]; exact h1
theorem outer_done {L out : List (List UInt8)} {best : ByteArray} (h : Outer L out) (hi : Inner L out L.length false best) : Rises out ∧ ∀ x, x ∈ out ↔ x ∈ L := by
  refine ⟨h.1, fun x => ⟨h.2.1 x, fun hx => ?_⟩⟩
  rcases h.2.2 x hx with e | e
  · exact e
  · obtain ⟨j, hj, rfl⟩ := mem_get hx
    exact absurd e (hi.2 rfl j hj)
theorem outer_len {L out : List (List UInt8)} (h : Outer L out) : out.length ≤ L.length := sub_len out L (rises_nodup h.1) h.2.1
/-- what Sort returns -/
def Sorts (w : World) (L : List (List UInt8)) (e : Ending) (w' : World) : Prop :=
  ∃ v R, e = .returned v ∧ w'.ownsRow w.heap.size 9 1 v R.length (R.map strV) ∧ (Rises R ∧ ∀ x, x ∈ R ↔ x ∈ L) ∧ Below w.heap.size w w'
def sliceLen : Value → Nat
  | .slice _ n _ => n
  | _ => 0
theorem split_last (out : List (List UInt8)) : out = [] ∨ ∃ init last, out = init ++ [last] := by
  rcases List.eq_nil_or_concat out with h | ⟨i, l, h⟩
  · exact Or.inl h
  · exact Or.inr ⟨i, l, by rw [h, List.concat_eq_append]⟩
theorem text_info : (Try.prog.info? 9).map (fun i => (i.zero, i.size, i.bytes)) = some (some (.string ⟨#[]⟩), 1, 16) := by kernel_rfl
theorem own_more {w : World} {base : Nat} {v : Value} {out : List (List UInt8)} {now : ByteArray} (h : w.ownsRow base 9 1 v (out.length + 1) (out.map strV ++ [.string now])) : w.ownsRow base 9 1 v (out ++ [now.data.toList]).length ((out ++ [now.data.toList]).map strV) := by
  have e : (out ++ [now.data.toList]).map strV = out.map strV ++ [.string now] := by
    rw [List.map_append]
    show _ ++ [strV now.data.toList] = _
    unfold strV
    rw [mk_bytes]
  rw [e, List.length_append]
  exact h
theorem below_more {w wr w1 : World} {o : Obj} {v : Value} {n : Nat} {xs : List Value} {e : TypeId} (hb : Below w.heap.size w wr) (hown : wr.ownsRow w.heap.size e 1 v n xs) (hg : (wr.alloc o).grownBy w1 v.ownBlock) : Below w.heap.size w w1 :=
  (hb.alloc hb.size o).grown hg (by have := hb.size; simp; omega) (fun k hk => (hown.lt k hk).1)
theorem own_len {w : World} {base : Nat} {e : TypeId} {v : Value} {out : List (List UInt8)} (h : w.ownsRow base e 1 v out.length (out.map strV)) : ∃ A c, v = .slice A out.length c := by
  rcases h.2 with ⟨rfl, h0⟩ | ⟨g, cap, cur, rfl, _⟩
  · have : out = [] := by simpa using h0
    subst this; exact ⟨none, 0, rfl⟩
  · exact ⟨_, _, rfl⟩
theorem own_last {w : World} {base : Nat} {e : TypeId} {v : Value} {init : List (List UInt8)} {last : List UInt8} (h : w.ownsRow base e 1 v (init ++ [last]).length ((init ++ [last]).map strV)) : ∃ g c s, v = .slice (some ⟨g, 0, none⟩) (init.length + 1) c ∧ w.cell? ⟨g, init.length, none⟩ = some (.string s) ∧ s.data.toList = last ∧ init.length + 1 ≤ c := by
  rcases h.2 with ⟨rfl, h0⟩ | ⟨g, cap, cur, rfl, hg, hh, hn, r⟩
  · simp at h0
  · have hl : (init ++ [last]).length = init.length + 1 := by simp
    rw [hl] at hn
    refine ⟨g, cap, ⟨last.toArray⟩, by rw [hl], ?_, rfl, hn⟩
    have := h.cellAt init.length (by simp)
    rw [this, List.getElem?_map]
    simp [strV]

theorem above_nil (x : List UInt8) : Above [] x := fun y hy => by simp at hy
theorem inner_start (L out : List (List UInt8)) (b : ByteArray) : Inner L out 0 false b := ⟨(fun e => by cases e), (fun _ j hj => by omega)⟩
theorem above_not {init : List (List UInt8)} {last x : List UInt8} (h : Rises (init ++ [last])) (hl : ¬ lt last x) : ¬ Above (init ++ [last]) x := fun e => hl ((above_last h).1 e)
set_option maxHeartbeats 4000000 in
set_option maxRecDepth 100000 in
theorem refSort_any (v : Value) (L : List (List UInt8)) (w : World) (h : Texts w.heap.size w v L) (hn : L.length ≤ 1099511627776) :
    Calls Try.prog 15 #[v] w (Sorts w L) := by
  obtain ⟨i0, hi, hz0, hz1, hz2⟩ := info_parts text_info
  obtain ⟨A, c, rfl, hA1, hA2⟩ := h.form
  have H := Lib.hid h
  clear h hA2
  generalize hm : L.length = n at *
  have HM := Lib.hid hm
  clear hm
  go_enter Try.func15, Try.ntmps15
  go_wp2
  go_loopw [3] (fun v wr => ∃ out : List (List UInt8), Hid (Outer L out) ∧ Hid (wr.ownsRow w.heap.size 9 1 v out.length (out.map strV)) ∧ Below w.heap.size w wr) (fun v _ => n - sliceLen v)
  case atStart => exact ⟨[], ⟨List.Pairwise.nil, fun x hx => by simp at hx, fun x _ => Or.inr (fun y hy => by simp at hy)⟩, World.ownsRow_nil _ _ _ _, Below.refl _ _⟩
  case round =>
    obtain ⟨out, ho, hown, hb⟩ := hrel
    have hol := outer_len ho.out
    rw [HM.out] at hol
    have hbs := hb.size
    have HT := Lib.hid (H.out.below hb)
    by_cases hemp : out = []
    · subst hemp
      obtain ⟨OA, oc, rfl⟩ := own_len hown.out
      go_wp2
      go_loopw [4, 5, 6] (fun d f i wq => ∃ (k : Nat) (best : ByteArray) (found : Bool), k ≤ n ∧ i = .int .i64 k ∧ d = .string best ∧ f = .bool found ∧ Hid (Inner L ([] : List (List UInt8)) k found best) ∧ ∃ q, wq = wr.drewN q) (fun _ _ i _ => n - (intOf i).toNat)
      case atStart => exact ⟨0, ⟨#[]⟩, false, Nat.zero_le _, rfl, rfl, rfl, inner_start _ _ _, 0, rfl⟩
      case round =>
        obtain ⟨k, best, found, hk, rfl, rfl, rfl, hin, q, rfl⟩ := hrel
        by_cases hlt : k < n
        · obtain ⟨ad, s, rfl, hbl, hc, hs⟩ := HT.out.at_ hlt
          have HS := Lib.hid hs
          have hkL := Lib.hid (show k < L.length by rw [HM.out]; exact hlt)
          clear hs hbl
          have HAB : Hid (Above ([] : List (List UInt8)) s.data.toList) := above_nil _
          cases found with
          | false =>
            have HI := Lib.hid (inner_take hin.out hkL.out HS.out HAB.out (fun e => by cases e))
            go_wp2_with fail
            go_quiet (fail)
            go_wp2
            go_roundw
            case rel => exact ⟨k + 1, s, true, by omega, by go_num, rfl, rfl, HI, q + nq, by first | rfl | rw [World.drewN_drewN]⟩
            case measure => simp [intOf]; omega
          | true =>
            by_cases hsb : lt s.data.toList best.data.toList
            · have HI := Lib.hid (inner_take hin.out hkL.out HS.out HAB.out (fun _ => hsb))
              have t2 : Op.bytesLess s.toList best.toList = true := by rw [less_bytes]; exact decide_eq_true hsb
              clear hsb
              go_wp2_with fail
              go_quiet (fail)
              go_wp2
              go_roundw
              case rel => exact ⟨k + 1, s, true, by omega, by go_num, rfl, rfl, HI, q + nq, by first | rfl | rw [World.drewN_drewN]⟩
              case measure => simp [intOf]; omega
            · have HI := Lib.hid (inner_keep hin.out (by rw [← HS.out]; exact hsb))
              have t2 : Op.bytesLess s.toList best.toList = false := by rw [less_bytes]; exact decide_eq_false hsb
              clear hsb
              go_wp2_with fail
              go_quiet (fail)
              go_wp2
              go_roundw
              case rel => exact ⟨k + 1, best, _, by omega, by go_num, rfl, rfl, HI, q + nq, by first | rfl | rw [World.drewN_drewN]⟩
              case measure => simp [intOf]; omega
        · have hke : k = L.length := by rw [HM.out]; omega
          have hin2 := hin.out
          rw [hke] at hin2
          have HIN := Lib.hid hin2
          clear hin2 hke
          have hown2 : Hid ((wr.drewN q).ownsRow w.heap.size 9 1 _ ([] : List (List UInt8)).length (([] : List (List UInt8)).map strV)) := hown
          have hb2 : Below w.heap.size w (wr.drewN q) := hb.trans ((below_draws wr q).mono hbs)
          have hbs2 := hb2.size
          have a1 : ([] : List (List UInt8)).length + 1 ≤ maxLen := by unfold maxLen; simp
          have a2 : (([] : List (List UInt8)).length + 1) * 16 ≤ 140737488355328 := by simp
          generalize wr.drewN q = W at *
          cases found with
          | false =>
            have HD := Lib.hid (outer_done ho.out HIN.out)
            go_wp2
            go_ret
            exact ⟨_, ([] : List (List UInt8)), rfl, hown2.out, HD.out, hb2⟩
          | true =>
            have HO := Lib.hid (outer_step ho.out HIN.out)
            go_wp2_with (at_builtin; refine wpList_append_own _ rfl (.tmp 48) (.tmp 50) 27 rfl w.heap.size 9 i0 (.string ⟨#[]⟩) 1 16 Try.underlying27 hi hz0 hz1 hz2 rfl (by decide) _ _ _ rfl (hown2.out.alloc _) ⟨_, 0, none⟩ 1 1 [.string best] rfl rfl (cell_one_new _ _ _) (by intro u hu; simp at hu; subst hu; rfl) a1 a2 (by simp; omega) ?_; intro v1 w1 hown1 hgrow1 _)
            have B1 := Lib.hid (below_more hb2 hown2.out hgrow1)
            have O1 := Lib.hid (own_more hown1)
            clear hown1 hgrow1
            obtain ⟨A1, c1, rfl⟩ := own_len O1.out
            have hl1 := outer_len HO.out
            rw [HM.out] at hl1
            go_wp2
            go_roundw
            case rel => exact ⟨_, HO, O1, B1.out⟩
            case measure => simp [sliceLen] at hl1 ⊢; omega
    · obtain ⟨init, last, rfl⟩ : ∃ init last, out = init ++ [last] := by rcases split_last out with e | e; exact absurd e hemp; exact e
      clear hemp
      obtain ⟨g, oc, ls, rfl, hlc, hls, hoc⟩ := own_last hown.out
      have HLS := Lib.hid hls
      have hol2 : init.length + 1 ≤ n := by simpa using hol
      clear hls hol
      generalize hml : init.length = m at *
      have HML := Lib.hid hml
      clear hml
      have hz1' : (((m : Int) + 1) == 0) = false := by rw [beq_eq_false_iff_ne]; omega
      go_wp2
      go_loopw [4, 5, 6] (fun d f i wq => ∃ (k : Nat) (best : ByteArray) (found : Bool), k ≤ n ∧ i = .int .i64 k ∧ d = .string best ∧ f = .bool found ∧ Hid (Inner L (init ++ [last]) k found best) ∧ ∃ q, wq = wr.drewN q) (fun _ _ i _ => n - (intOf i).toNat)
      case atStart => exact ⟨0, ⟨#[]⟩, false, Nat.zero_le _, rfl, rfl, rfl, inner_start _ _ _, 0, rfl⟩
      case round =>
        obtain ⟨k, best, found, hk, rfl, rfl, rfl, hin, q, rfl⟩ := hrel
        by_cases hlt : k < n
        · obtain ⟨ad, s, rfl, hbl, hc, hs⟩ := HT.out.at_ hlt
          have HS := Lib.hid hs
          have hkL := Lib.hid (show k < L.length by rw [HM.out]; exact hlt)
          clear hs hbl
          by_cases hgt : lt last s.data.toList
          · have HAB0 := Lib.hid ((above_last ho.out.1).2 hgt)
            have t1 : Op.bytesLess s.toList ls.toList = false := by rw [less_bytes, HLS.out]; exact decide_eq_false (lt_asymm hgt)
            have t1' : (s.toList == ls.toList) = false := by rw [same_bytes, HLS.out]; exact decide_eq_false (fun e => lt_irrefl _ (e ▸ hgt))
            clear hgt
            have HAB : Hid (Above (init ++ [last]) s.data.toList) := HAB0.out
            cases found with
            | false =>
              have HI := Lib.hid (inner_take hin.out hkL.out HS.out HAB.out (fun e => by cases e))
              go_wp2_with fail
              go_quiet (fail)
              go_wp2
              go_roundw
              case rel => exact ⟨k + 1, s, true, by omega, by go_num, rfl, rfl, HI, q + nq, by first | rfl | rw [World.drewN_drewN]⟩
              case measure => simp [intOf]; omega
            | true =>
              by_cases hsb : lt s.data.toList best.data.toList
              · have HI := Lib.hid (inner_take hin.out hkL.out HS.out HAB.out (fun _ => hsb))
                have t2 : Op.bytesLess s.toList best.toList = true := by rw [less_bytes]; exact decide_eq_true hsb
                clear hsb
                go_wp2_with fail
                go_quiet (fail)
                go_wp2
                go_roundw
                case rel => exact ⟨k + 1, s, true, by omega, by go_num, rfl, rfl, HI, q + nq, by first | rfl | rw [World.drewN_drewN]⟩
                case measure => simp [intOf]; omega
              · have HI := Lib.hid (inner_keep hin.out (by rw [← HS.out]; exact hsb))
                have t2 : Op.bytesLess s.toList best.toList = false := by rw [less_bytes]; exact decide_eq_false hsb
                clear hsb
                go_wp2_with fail
                go_quiet (fail)
                go_wp2
                go_roundw
                case rel => exact ⟨k + 1, best, _, by omega, by go_num, rfl, rfl, HI, q + nq, by first | rfl | rw [World.drewN_drewN]⟩
                case measure => simp [intOf]; omega
          · have HI := Lib.hid (inner_skip hin.out (by rw [← HS.out]; exact above_not ho.out.1 hgt))
            by_cases heq : s.data.toList = last
            · have t1' : (s.toList == ls.toList) = true := by rw [same_bytes, HLS.out]; exact decide_eq_true heq
              have t1 : Op.bytesLess s.toList ls.toList = false := by rw [less_bytes, HLS.out, heq]; exact decide_eq_false (lt_irrefl _)
              clear heq hgt
              go_wp2_with fail
              go_quiet (fail)
              go_wp2
              go_roundw
              case rel => exact ⟨k + 1, best, _, by omega, by go_num, rfl, rfl, HI, q + nq, by first | rfl | rw [World.drewN_drewN]⟩
              case measure => simp [intOf]; omega
            · have t1' : (s.toList == ls.toList) = false := by rw [same_bytes, HLS.out]; exact decide_eq_false heq
              have t1 : Op.bytesLess s.toList ls.toList = true := by rw [less_bytes, HLS.out]; exact decide_eq_true (by rcases lt_total s.data.toList last with e | e | e; exact e; exact absurd e heq; exact absurd e hgt)
              clear heq hgt
              go_wp2_with fail
              go_quiet (fail)
              go_wp2
              go_roundw
              case rel => exact ⟨k + 1, best, _, by omega, by go_num, rfl, rfl, HI, q + nq, by first | rfl | rw [World.drewN_drewN]⟩
              case measure => simp [intOf]; omega
        · have hke : k = L.length := by rw [HM.out]; omega
          have hin2 := hin.out
          rw [hke] at hin2
          have HIN := Lib.hid hin2
          clear hin2 hke
          have hown2 : Hid ((wr.drewN q).ownsRow w.heap.size 9 1 _ (init ++ [last]).length ((init ++ [last]).map strV)) := hown
          have hb2 : Below w.heap.size w (wr.drewN q) := hb.trans ((below_draws wr q).mono hbs)
          have hbs2 := hb2.size
          have a1 : (init ++ [last]).length + 1 ≤ maxLen := by unfold maxLen; rw [List.length_append, HML.out]; simp; omega
          have a2 : ((init ++ [last]).length + 1) * 16 ≤ 140737488355328 := by rw [List.length_append, HML.out]; simp; omega
          generalize wr.drewN q = W at *
          cases found with
          | false =>
            have HD := Lib.hid (outer_done ho.out HIN.out)
            go_wp2
            go_ret
            exact ⟨_, (init ++ [last]), rfl, hown2.out, HD.out, hb2⟩
          | true =>
            have HO := Lib.hid (outer_step ho.out HIN.out)
            go_wp2_with (at_builtin; refine wpList_append_own _ rfl (.tmp 48) (.tmp 50) 27 rfl w.heap.size 9 i0 (.string ⟨#[]⟩) 1 16 Try.underlying27 hi hz0 hz1 hz2 rfl (by decide) _ _ _ rfl (hown2.out.alloc _) ⟨_, 0, none⟩ 1 1 [.string best] rfl rfl (cell_one_new _ _ _) (by intro u hu; simp at hu; subst hu; rfl) a1 a2 (by simp; omega) ?_; intro v1 w1 hown1 hgrow1 _)
            have B1 := Lib.hid (below_more hb2 hown2.out hgrow1)
            have O1 := Lib.hid (own_more hown1)
            clear hown1 hgrow1
            obtain ⟨A1, c1, rfl⟩ := own_len O1.out
            have hl1 := outer_len HO.out
            rw [HM.out] at hl1
            go_wp2
            go_roundw
            case rel => exact ⟨_, HO, O1, B1.out⟩
            case measure => have hm := HML.out; simp [sliceLen, hm] at hl1 ⊢; omega
end Go.Proofs.Ytpefncegkhkeaaa.W03
