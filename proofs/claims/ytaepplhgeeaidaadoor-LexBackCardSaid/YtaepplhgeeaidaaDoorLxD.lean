import Derived.Test.YtaepplhgeeaidaaDoorLxC
import Derived.Test.YtaepplhgeeaidaaDoorLxF
set_option linter.unusedVariables false
set_option linter.unusedSimpArgs false
set_option linter.unusedSectionVars false
set_option maxRecDepth 100000
namespace Go.Proofs.YtaepplhgeeaidaaDoor
open Go Go.RowKit Ev
theorem val_rng {x : B8} {v : Int} (h : valF x = some v) : tyOk 6 (.int .i64 v) = true := by
  unfold valF at h
  split at h
  · rename_i u hu
    split at h
    · injection h with h
      subst h
      unfold Lib.parseIntB at hu
      split at hu
      · cases hu
      · simp only at hu
        split at hu
        · cases hu
        · cases hu
        · split at hu
          · cases hu
          · split at hu
            · cases hu
            · rename_i h1 h2
              injection hu with hu
              subst hu
              refine i64_ty ?_
              split <;> omega
    · cases h
  · cases h
theorem ok_frs {x : B8} (hx : x.length < 9223372036854775808) (neg : Bool) : OkTk (frsF x neg).1 := by
  have o0 : OkTk tok0 := ⟨rfl, by decide, rfl, rfl⟩
  have tk : ∀ n, (x.take n).length < 9223372036854775808 := fun n => by rw [List.length_take]; omega
  unfold frsF
  cases x with
  | nil => exact o0
  | cons c r =>
    have w : OkTk (wordF namF (c :: r)).1 := by
      unfold wordF
      split
      · exact ⟨rfl, tk _, rfl, rfl⟩
      · exact o0
    have q : OkTk (textF (c :: r)).1 := by
      by_cases h : (unqP (c :: r)).2 = 0
      · rw [textF_no h]; exact o0
      · rw [textF_yes h]
        have := unqP_len (c :: r)
        exact ⟨rfl, by show (unqP (c :: r)).1.length < _; omega, rfl, rfl⟩
    have n : OkTk (numF valF (c :: r)).1 := by
      unfold numF
      split
      · exact o0
      · split
        · rename_i v hv
          exact ⟨rfl, tk _, val_rng hv, rfl⟩
        · exact o0
    have g : ∀ k, OkTk (signF (c :: r) k).1 := fun k => ⟨rfl, tk _, rfl, rfl⟩
    rw [firstF_eq]
    repeat' split
    all_goals first | exact w | exact q | exact n | exact g _ | exact o0
theorem ok_put {t : Tok} (h : OkTk t) {n : Nat} (hn : n < 9223372036854775808) : OkTk (putAt t n) := ⟨h.1, h.2.1, h.2.2.1, nat_i64 hn⟩
theorem ok_lexes {s : B8} {i : Nat} {l a : List Tok} (h : Lexes frsF conF s i l a) (hs : s.length < 9223372036854775808) : (∀ t, t ∈ l → OkTk t) → ∀ t, t ∈ a → OkTk t := by
  induction h with
  | done h =>
    intro hl t ht
    rcases List.mem_append.1 ht with h1 | h1
    · exact hl t h1
    · rw [List.mem_singleton.1 h1]
      exact ⟨rfl, show (0 : Nat) < 9223372036854775808 by decide, rfl, nat_i64 hs⟩
  | step h hn g ih =>
    intro hl
    refine ih (fun t ht => ?_)
    rcases List.mem_append.1 ht with h1 | h1
    · exact hl t h1
    · rw [List.mem_singleton.1 h1]
      exact ok_put (ok_frs (by rw [List.length_drop]; omega) _) (by omega)
theorem ok_all (x : B8) : ∀ t, t ∈ (allR x).1 → OkTk t := by
  unfold allR
  split
  · intro t h; cases h
  · rename_i hx
    cases hf : allF frsF conF x with
    | error i => intro t h; cases h
    | ok l => exact ok_lexes (lexes_of _ _ _ _ hf) (by omega) (fun t h => by cases h)
theorem at_all (x : B8) : tyOk 6 (.int .i64 (allR x).2.1) = true ∧ tyOk 6 (.int .i64 (Int.ofNat (allR x).2.2)) = true := by
  have key : ∀ k i l j, i ≤ x.length → allL frsF conF x k i l = .error j → j ≤ x.length := by
    intro k
    induction k with
    | zero => intro i l j hi h; injection h with h; omega
    | succ k ih =>
      intro i l j hi h
      unfold allL at h
      have := firstF_le (nam := namF) (val := valF) (x.drop i) (negF conF l)
      rw [List.length_drop] at this
      have this : (frsF (x.drop i) (negF conF l)).2 ≤ _ := this
      split at h
      · split at h
        · injection h with h; omega
        · exact ih _ _ _ (nx_le (by omega)) h
      · cases h
  unfold allR
  split
  · exact ⟨rfl, rfl⟩
  · rename_i hx
    cases hf : allF frsF conF x with
    | error i =>
      have := key _ _ _ _ (skip_le x false) hf
      exact ⟨rfl, nat_i64 (by show i < _; omega)⟩
    | ok l => exact ⟨rfl, rfl⟩
theorem ft_is (nu : NuIs) : FtIs := fn_of_ts_l (fun q => orc_cons (fn_is (fnis_gv na_is) rfl (enter_of Tryd.func50 (by kernel_rfl) (by kernel_rfl))) (orc_cons (fn_is (fnis_gv rw_is) rfl (enter_of Tryd.func38 (by kernel_rfl) (by kernel_rfl))) (orc_cons (fn_is (fnis_gv ib_is) rfl (enter_of Tryd.func32 (by kernel_rfl) (by kernel_rfl))) (orc_cons (fn_is (fnis_gv uq_is) rfl (enter_of Tryd.func12 (by kernel_rfl) (by kernel_rfl))) (orc_cons (fn_is_l nu rfl (by decide) (enter_of Tryd.func31 (by kernel_rfl) (by kernel_rfl))) (orc_cons (fn_is_l (fnisl_gv cl_is) rfl (by decide) (enter_of Tryd.func51 (by kernel_rfl) (by kernel_rfl))) (ext_nil _ _ _ _))))))) lx_mixed ft_flat (pls := ftpls) rfl ft_checked (fun w args' vals hin hli => by
    match args', hin with
    | [v0, v1], ⟨a, b, hv, h0, e, g, he, h1, hd⟩ =>
      obtain rfl : g = [] := hd
      obtain ⟨t, rfl, rfl, ht⟩ := in_T h0
      obtain ⟨y, rfl, rfl⟩ := in_bool h1
      subst he
      subst hv
      obtain ⟨t', e1, e2, -⟩ := hli 0 (by simp)
      have e1 : Value.string t = .string t' := e1
      injection e1 with e1
      subst e1
      have e2 := e2 (by omega)
      obtain ⟨t', e1, -, e3⟩ := hli 1000 (by simp)
      have e1 : Value.string t = .string t' := e1
      injection e1 with e1
      subst e1
      have e3 := e3 (by omega)
      obtain ⟨c, r, hcr⟩ : ∃ c r, tl t = c :: r := by
        cases h : tl t with
        | nil => have : (tl t).length = 0 := by rw [h]; rfl
                 have e3 : 0 < (tl t).length := e3
                 omega
        | cons c r => exact ⟨c, r, rfl⟩
      have hl : (c :: r).length ≤ 1048576 := by rw [← hcr]; exact e2
      have ok := ok_frs (x := tl t) ht y
      refine ⟨[.int .i64 (frsF (tl t) y).1.1, .string (tx (frsF (tl t) y).1.2.1), .int .i64 (frsF (tl t) y).1.2.2.1, .int .i64 (frsF (tl t) y).1.2.2.2, .int .i64 (Int.ofNat (frsF (tl t) y).2)], ⟨rfl, ?_⟩, ?_⟩
      · have hle : (frsF (tl t) y).2 ≤ (tl t).length := firstF_le (tl t) y
        intro i k v hk hv
        match i with
        | 0 => injection hk with hk; injection hv with hv; subst hk; subst hv; exact ⟨ok.1, rfl⟩
        | 1 => injection hk with hk; injection hv with hv; subst hk; subst hv; exact ⟨str_ty ok.2.1, rfl⟩
        | 2 => injection hk with hk; injection hv with hv; subst hk; subst hv; exact ⟨ok.2.2.1, rfl⟩
        | 3 => injection hk with hk; injection hv with hv; subst hk; subst hv; exact ⟨ok.2.2.2, rfl⟩
        | 4 => injection hk with hk; injection hv with hv; subst hk; subst hv; exact ⟨nat_i64 (Nat.lt_of_le_of_lt hle ht), rfl⟩
        | i + 5 => cases hk
      · have hs : (.string t : Value) = .string (tx (c :: r)) := by rw [← hcr]; rfl
        rw [hcr]
        exact ft_ways rfl hl hs rfl)
theorem al_is (nu : NuIs) : RowXIs Tryd.prog lxTabs lxU 7 alargs [6, 2, 6, 6] 33 true [([6, 6], true)] 20 :=
  rowx_of_ts (fun q => orc_cons (fn_is (fnis_gv sk_is) rfl (enter_of Tryd.func17 (by kernel_rfl) (by kernel_rfl))) (orc_cons (fn_is_l (ft_is nu) rfl (by decide) (enter_of Tryd.func18 (by kernel_rfl) (by kernel_rfl))) (orc_cons (fn_is mn_is rfl (enter_of Tryd.func19 (by kernel_rfl) (by kernel_rfl))) (ext_nil _ _ _ _)))) lx_mixed al_flat (by simp) (pls := alpls) rfl al_checked fun w args' vals hin => by
    match args', hin with
    | [v0], ⟨a, b, hv, h0, hd⟩ =>
      obtain rfl : b = [] := hd
      obtain ⟨t, rfl, rfl, ht⟩ := in_T h0
      subst hv
      obtain ⟨k1, k2⟩ := at_all (tl t)
      refine ⟨(allR (tl t)).1.flatMap eTok, (allR (tl t)).1.length, [.int .i64 (allR (tl t)).2.1, .int .i64 (Int.ofNat (allR (tl t)).2.2)], rfl, rfl, ⟨by have := allR_len (tl t); omega, flat_len eTok_len _, ck_ok (ok_all (tl t))⟩, ⟨rfl, ?_⟩, al0 rfl (x := tl t) rfl⟩
      intro i k v hk hv
      match i with
      | 0 => injection hk with hk; injection hv with hv; subst hk; subst hv; exact ⟨k1, rfl⟩
      | 1 => injection hk with hk; injection hv with hv; subst hk; subst hv; exact ⟨k2, rfl⟩
      | i + 2 => cases hk
end Go.Proofs.YtaepplhgeeaidaaDoor
