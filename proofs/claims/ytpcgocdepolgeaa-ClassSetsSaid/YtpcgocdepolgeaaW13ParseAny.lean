/-
  Layer 13 (class): the contract of Parse. The conditions stand in the statements.
-/
import Derived.Test.YtpcgocdepolgeaaW13Parsed
namespace Go.Proofs.Ytpcgocdepolgeaa.W13
open Go Go.RowKit Go.Proofs.Ytpcgocdepolgeaa.M13 Go.Proofs.Ytpcgocdepolgeaa.Row256
open Go.Proofs.Ytpcgocdepolgeaa.Kit (ret_str ret_bool ret_int mk_of mk_bytes ba_ext below_draws on drop_bytes)

theorem items_n (s : List UInt8) : ∀ (fuel at_ : Nat) (f : Nat → Bool), (items s fuel at_ f).2.1 ≤ s.length + 1
  | 0, _, _ => Nat.zero_le _
  | fuel + 1, at_, f => by
    unfold items
    split
    · exact Nat.zero_le _
    · split
      · simp only; omega
      · split
        · exact Nat.zero_le _
        · exact items_n s fuel _ _
theorem parse_any {s : ByteArray} (hs : s.size ≤ 4611686018427387000) (w : World) : Calls Try.prog 28 #[.string s] w (Parsed w (parse s.data.toList)) := by
  have hsz : s.data.toList.length = s.size := (Lib.size_eq s).symm
  generalize hl : s.data.toList = l at hsz
  cases l with
  | nil => exact parse_no (by rw [hl]; rfl) (by rw [hl]; rfl) w
  | cons c r =>
    by_cases hc : c = 91
    · subst hc
      have plain : (Lib.hasPrefix (91 :: r) [91, 94] = false) → parse (91 :: r) = (if (items r (r.length + 1) 0 (fun _ => false)).2.2 ≠ 0 then (fun _ => false, 0, (items r (r.length + 1) 0 (fun _ => false)).2.2) else ((items r (r.length + 1) 0 (fun _ => false)).1, 1 + (items r (r.length + 1) 0 (fun _ => false)).2.1, 0)) → Calls Try.prog 28 #[.string s] w (Parsed w (parse (91 :: r))) := by
        intro h2 hp
        rw [hp]
        have hq : (⟨(Lib.trimPrefix s.data.toList [91]).toArray⟩ : ByteArray) = ⟨r.toArray⟩ := by rw [hl]; rfl
        have hqz : (⟨r.toArray⟩ : ByteArray).size = r.length := by simp [ByteArray.size]
        have hn := items_n r (r.length + 1) 0 (fun _ => false)
        rw [List.length_cons] at hsz
        obtain ⟨⟨F, n, er⟩, hit⟩ : ∃ x, items r (r.length + 1) 0 (fun _ => false) = x := ⟨_, rfl⟩
        rw [hit] at hn ⊢
        simp only at hn ⊢
        have hit2 : items (⟨r.toArray⟩ : ByteArray).data.toList ((⟨r.toArray⟩ : ByteArray).size + 1) 0 (fun _ => false) = (F, n, er) := by rw [hqz]; exact hit
        by_cases he : er = 0
        · rw [if_neg (by simpa using he)]
          exact parse_ok (by rw [hl]; exact h2) (by rw [hl]; rfl) hq (by rw [hqz]; omega) hit2 he (by omega) w
        · rw [if_pos he]
          exact parse_bad (by rw [hl]; exact h2) (by rw [hl]; rfl) hq (by rw [hqz]; omega) hit2 he (by omega) w
      cases r with
      | nil => exact plain rfl rfl
      | cons d q =>
        by_cases hd : d = 94
        · subst hd
          have hp : parse (91 :: 94 :: q) = (if (items q (q.length + 1) 0 (fun _ => false)).2.2 ≠ 0 then (fun _ => false, 0, (items q (q.length + 1) 0 (fun _ => false)).2.2) else (fun i => !(items q (q.length + 1) 0 (fun _ => false)).1 i, 2 + (items q (q.length + 1) 0 (fun _ => false)).2.1, 0)) := rfl
          rw [hp]
          have hq : (⟨(Lib.trimPrefix s.data.toList [91, 94]).toArray⟩ : ByteArray) = ⟨q.toArray⟩ := by rw [hl]; rfl
          have hqz : (⟨q.toArray⟩ : ByteArray).size = q.length := by simp [ByteArray.size]
          have hn := items_n q (q.length + 1) 0 (fun _ => false)
          rw [List.length_cons, List.length_cons] at hsz
          obtain ⟨⟨F, n, er⟩, hit⟩ : ∃ x, items q (q.length + 1) 0 (fun _ => false) = x := ⟨_, rfl⟩
          rw [hit] at hn ⊢
          simp only at hn ⊢
          have hit2 : items (⟨q.toArray⟩ : ByteArray).data.toList ((⟨q.toArray⟩ : ByteArray).size + 1) 0 (fun _ => false) = (F, n, er) := by rw [hqz]; exact hit
          by_cases he : er = 0
          · rw [if_neg (by simpa using he)]
            exact parse_oknot (by rw [hl]; rfl) hq (by rw [hqz]; omega) hit2 he (by omega) w
          · rw [if_pos he]
            exact parse_badnot (by rw [hl]; rfl) hq (by rw [hqz]; omega) hit2 he (by omega) w
        · refine plain ?_ ?_
          · have h3 : ¬ 94 = d := fun e => hd e.symm
            simp [Lib.hasPrefix, List.isPrefixOf, h3]
          · conv => lhs; unfold parse
            simp only [if_true, if_neg hd]
    · have h3 : ¬ 91 = c := fun e => hc e.symm
      have hp : parse (c :: r) = (fun _ => false, 0, 3) := by unfold parse; simp only [if_neg hc]
      rw [hp]
      exact parse_no (by rw [hl]; simp [Lib.hasPrefix, List.isPrefixOf, h3]) (by rw [hl]; simp [Lib.hasPrefix, List.isPrefixOf, h3]) w
end Go.Proofs.Ytpcgocdepolgeaa.W13
