import Derived.Test.YtaepplhgeeaidaaDoorLxG
import Derived.Test.YtaepplhgeeaidaaDoorLxA
import Derived.Test.YtaepplhgeeaidaaDoorShelf
set_option linter.unusedVariables false
set_option linter.unusedSimpArgs false
set_option linter.unusedSectionVars false
set_option maxRecDepth 100000
namespace Go.Proofs.YtaepplhgeeaidaaDoor
open Go Go.RowKit Ev
theorem lx_mixed : Tryd.prog.follows .mixedOrders = true := by kernel_rfl
theorem fnis_of {P : Program} {gv : List (Nat × Tr Value)} {U : Nat → List Value → Option Value} {f : FuncId} {ps : List ArgT} {r : ResT} {base : Nat} (h : FnIsN P gv U f ps [] r base) : FnIs P gv U f ps r base := fun w args' vals hg hin => h w args' vals hg hin (fun j hj => by cases hj)
theorem fnis_gv {P : Program} {gv : List (Nat × Tr Value)} {U : Nat → List Value → Option Value} {f : FuncId} {ps : List ArgT} {r : ResT} {base : Nat} (h : FnIs P [] U f ps r base) : FnIs P gv U f ps r base := fun w args' vals _ hin => h w args' vals (fun _ _ h => by cases h) hin
theorem s_T : Tryd.prog.cellsOf 9 = 1 := by decide +kernel
theorem s_I : Tryd.prog.cellsOf 3 = 1 := by decide +kernel
theorem s_K : Tryd.prog.cellsOf 33 = 4 := by decide +kernel
theorem b_K : Tryd.prog.bytesOf 33 = 40 := by decide +kernel
theorem c_int : cellTy Tryd.prog 3 = 6 := by decide +kernel
theorem c_bool : cellTy Tryd.prog 4 = 1 := by decide +kernel
theorem c_u8 : cellTy Tryd.prog 5 = 7 := by decide +kernel
section
variable {R : Addr → Option Value}
theorem rds_T : ∀ (f : Nat) (cs : List Value), Rds Tryd.prog R f 9 cs → ∃ a, cs = [.string a] ∧ QT a := by
  intro f cs h
  cases f with
  | zero => exact h.elim
  | succ f =>
    unfold Rds at h
    rw [Tryd.underlying9] at h
    match cs, h with
    | [.string s], h => exact ⟨s, rfl, h⟩
theorem rds_int {f : Nat} {v : Value} (h : Rds Tryd.prog R f 3 [v]) : ∃ n, v = .int .i64 n ∧ (-9223372036854775808 ≤ n ∧ n ≤ 9223372036854775807) := by
  cases f with
  | zero => exact h.elim
  | succ f =>
    unfold Rds at h
    rw [Tryd.underlying3] at h
    exact ty_i64 (by rw [← c_int]; exact h)
theorem s_I64 : Tryd.prog.cellsOf 2 = 1 := by decide +kernel
theorem c_i64 : cellTy Tryd.prog 2 = 6 := by decide +kernel
theorem rds_i64 {f : Nat} {v : Value} (h : Rds Tryd.prog R f 2 [v]) : ∃ n, v = .int .i64 n ∧ (-9223372036854775808 ≤ n ∧ n ≤ 9223372036854775807) := by
  cases f with
  | zero => exact h.elim
  | succ f =>
    unfold Rds at h
    rw [Tryd.underlying2] at h
    exact ty_i64 (by rw [← c_i64]; exact h)
theorem rds_K : ∀ (f : Nat) (cs : List Value), Rds Tryd.prog R f 33 cs → ∃ a, cs = eTok a ∧ QTk a := by
  intro f cs h
  cases f with
  | zero => exact h.elim
  | succ f =>
    unfold Rds at h
    rw [Tryd.underlying33] at h
    obtain ⟨h1, h2⟩ := h
    rw [s_K] at h1
    match cs, h1 with
    | [c0, c1, c2, c3], _ =>
      have q0 : Rds Tryd.prog R f 3 (([c0, c1, c2, c3].drop 0).take (Tryd.prog.cellsOf 3)) := h2 0 _ rfl
      have q1 : Rds Tryd.prog R f 9 (([c0, c1, c2, c3].drop 1).take (Tryd.prog.cellsOf 9)) := h2 1 _ rfl
      have q2 : Rds Tryd.prog R f 2 (([c0, c1, c2, c3].drop 2).take (Tryd.prog.cellsOf 2)) := h2 2 _ rfl
      have q3 : Rds Tryd.prog R f 3 (([c0, c1, c2, c3].drop 3).take (Tryd.prog.cellsOf 3)) := h2 3 _ rfl
      rw [s_T] at q1
      rw [s_I] at q0 q3
      rw [s_I64] at q2
      obtain ⟨n, e0, hn⟩ := rds_int (v := c0) q0
      obtain ⟨a, ea, ha⟩ := rds_T _ _ q1
      obtain ⟨m, e2, hm⟩ := rds_i64 (v := c2) q2
      obtain ⟨p, e3, hp⟩ := rds_int (v := c3) q3
      subst e0 e2 e3
      obtain rfl : c1 = Value.string a := by
        have h : [c1] = [Value.string a] := ea
        injection h
      exact ⟨(n, tl a, m, p), rfl, hn, ha, hm, hp⟩
theorem in_T {v : Value} {vals : List Value} (h : InOk Tryd.prog R (9, none) v vals) : ∃ s, v = .string s ∧ vals = [.string s] ∧ QT s := by
  obtain ⟨⟨f, h1⟩, h2⟩ := h
  rw [show Tryd.prog.underlying _ = _ from Tryd.underlying9] at h2
  obtain ⟨rfl, hc⟩ := h2
  have hv : vcells v = [v] := by cases v <;> first | rfl | (simp [isCell] at hc)
  rw [hv] at h1
  obtain ⟨s, hs, q⟩ := rds_T _ _ h1
  have hs : [v] = [Value.string s] := hs
  injection hs with hs
  subst hs
  exact ⟨s, rfl, rfl, q⟩
theorem in_bool {v : Value} {vals : List Value} (h : InOk Tryd.prog R (4, none) v vals) : ∃ b, v = .bool b ∧ vals = [.bool b] := by
  obtain ⟨⟨f, h1⟩, h2⟩ := h
  rw [show Tryd.prog.underlying _ = _ from Tryd.underlying4] at h2
  obtain ⟨rfl, hc⟩ := h2
  have hv : vcells v = [v] := by cases v <;> first | rfl | (simp [isCell] at hc)
  rw [hv] at h1
  cases f with
  | zero => exact h1.elim
  | succ f =>
    unfold Rds at h1
    rw [Tryd.underlying4] at h1
    obtain ⟨b, rfl⟩ := ty_bool (by rw [← c_bool]; exact h1)
    exact ⟨b, rfl, rfl⟩
theorem in_Ks {v : Value} {vals : List Value} (h : InOk Tryd.prog R (26, none) v vals) : ∃ ad l c, v = .slice ad (List.length l) c ∧ LstK R ad l ∧ vals = [.agg ⟨l.flatMap eTok⟩] ∧ l.length ≤ c := inG (B := 40) Tryd.underlying26 s_K b_K (by omega) eTok_len rds_K h
end
theorem str_ty {s : T} (h : QT s) : tyOk 2 (.string s) = true := by
  unfold QT at h
  simp only [tyOk]
  simp
  omega
theorem nat_i64 {n : Nat} (h : n < 9223372036854775808) : tyOk 6 (.int .i64 (Int.ofNat n)) = true := i64_ty ⟨by show (-9223372036854775808 : Int) ≤ (n : Int); omega, by show (n : Int) ≤ 9223372036854775807; omega⟩
theorem na_is : FnIs Tryd.prog [] lxU 50 naargs [([1], false)] 0 := fnis_of (fn_of_ts_n (fun _ => ext_nil _ _ _ _) lx_mixed na_flat (pls := napls) rfl na_checked (fun w args' vals hin _ => by
    match args', hin with
    | [v0], ⟨a, b, hv, h0, hd⟩ =>
      obtain rfl : b = [] := hd
      obtain ⟨t, rfl, rfl, ht⟩ := in_T h0
      subst hv
      refine ⟨[.bool (namB t)], ⟨rfl, ?_⟩, na0 rfl ht rfl⟩
      intro i k v hk hv
      match i with
      | 0 => injection hk with hk; injection hv with hv; subst hk; subst hv; exact ⟨rfl, rfl⟩
      | i + 1 => cases hk))
theorem rd_is : FnIs Tryd.prog [] lxU 38 rdargs [([6], false)] 1 := fnis_of (fn_of_ts_n (fun _ => ext_nil _ _ _ _) lx_mixed rd_flat (pls := rdpls) rfl rd_checked (fun w args' vals hin _ => by
    match args', hin with
    | [v0, v1], ⟨a, b, hv, h0, e, g, he, h1, hd⟩ =>
      obtain rfl : g = [] := hd
      obtain ⟨t, rfl, rfl, ht⟩ := in_T h0
      obtain ⟨rfl, -, rfl⟩ := h1
      subst he
      subst hv
      refine ⟨[.int .i64 (Int.ofNat (runF digB (tl t)))], ⟨rfl, ?_⟩, rd0 rfl (x := tl t) ht rfl⟩
      intro i k v hk hv
      match i with
      | 0 => injection hk with hk; injection hv with hv; subst hk; subst hv; exact ⟨nat_i64 (Nat.lt_of_le_of_lt (run_le _ _) ht), rfl⟩
      | i + 1 => cases hk))
theorem rw_is : FnIs Tryd.prog [] lxU 38 rwargs [([6], false)] 2 := fnis_of (fn_of_ts_n (fun _ => ext_nil _ _ _ _) lx_mixed rw_flat (pls := rwpls) rfl rw_checked (fun w args' vals hin _ => by
    match args', hin with
    | [v0, v1], ⟨a, b, hv, h0, e, g, he, h1, hd⟩ =>
      obtain rfl : g = [] := hd
      obtain ⟨t, rfl, rfl, ht⟩ := in_T h0
      obtain ⟨rfl, -, rfl⟩ := h1
      subst he
      subst hv
      refine ⟨[.int .i64 (Int.ofNat (runF wordB (tl t)))], ⟨rfl, ?_⟩, rw0 rfl (x := tl t) ht rfl⟩
      intro i k v hk hv
      match i with
      | 0 => injection hk with hk; injection hv with hv; subst hk; subst hv; exact ⟨nat_i64 (Nat.lt_of_le_of_lt (run_le _ _) ht), rfl⟩
      | i + 1 => cases hk))
theorem sk_is : FnIs Tryd.prog [] lxU 17 skargs [([6], false)] 4 := fnis_of (fn_of_ts_n (fun _ => ext_nil _ _ _ _) lx_mixed sk_flat (pls := skpls) rfl sk_checked (fun w args' vals hin _ => by
    match args', hin with
    | [v0], ⟨a, b, hv, h0, hd⟩ =>
      obtain rfl : b = [] := hd
      obtain ⟨t, rfl, rfl, ht⟩ := in_T h0
      subst hv
      refine ⟨[.int .i64 (Int.ofNat (skipF false (tl t)))], ⟨rfl, ?_⟩, sk0 rfl (x := tl t) ht rfl⟩
      intro i k v hk hv
      match i with
      | 0 => injection hk with hk; injection hv with hv; subst hk; subst hv; exact ⟨nat_i64 (Nat.lt_of_le_of_lt (skip_le _ _) ht), rfl⟩
      | i + 1 => cases hk))
theorem in_u8 {R : Addr → Option Value} {v : Value} {vals : List Value} (h : InOk Tryd.prog R (5, none) v vals) : ∃ n : Int, v = .int .u8 n ∧ vals = [.int .u8 n] := by
  obtain ⟨⟨f, h1⟩, h2⟩ := h
  rw [show Tryd.prog.underlying _ = _ from Tryd.underlying5] at h2
  obtain ⟨rfl, hc⟩ := h2
  have hv : vcells v = [v] := by cases v <;> first | rfl | (simp [isCell] at hc)
  rw [hv] at h1
  cases f with
  | zero => exact h1.elim
  | succ f =>
    unfold Rds at h1
    rw [Tryd.underlying5] at h1
    obtain ⟨k, n, rfl, hk⟩ := ty_int (ty := 7) (by omega) (by rw [← c_u8]; exact h1)
    cases k <;> first | (exfalso; revert hk; decide) | skip
    exact ⟨n, rfl, rfl⟩
theorem ib_is : FnIs Tryd.prog [] lxU 32 [(9, none), (5, none)] [([6], false)] 3 := by
  intro w args' vals _ hin
  match args', hin with
  | [v0, v1], ⟨a, b, hv, h0, e, g, he, h1, hd⟩ =>
    obtain rfl : g = [] := hd
    obtain ⟨t, rfl, rfl, ht⟩ := in_T h0
    obtain ⟨n, rfl, rfl⟩ := in_u8 h1
    subst he
    subst hv
    have rg := idx_rng (tl t) n.toNat.toUInt8
    have hl : ((tl t).length : Int) < 9223372036854775808 := by have : (tl t).length < 9223372036854775808 := ht; omega
    refine ⟨[.int .i64 (idxB (tl t) n)], ⟨rfl, ?_⟩, ?_⟩
    · intro i k v hk hv
      match i with
      | 0 => injection hk with hk; injection hv with hv; subst hk; subst hv; exact ⟨i64_ty ⟨by unfold idxB; omega, by unfold idxB; omega⟩, rfl⟩
      | i + 1 => cases hk
    · exact (Tryd.strings_IndexByte t n w).mono fun e w' ⟨he, hw⟩ => ⟨he, hw ▸ Below.refl _ _⟩
theorem cl_is : FnIsL Tryd.prog [] lxU 51 [(9, none)] [0] [([2], false)] 26 := by
  intro w args' vals _ hin hli
  match args', hin with
  | [v0], ⟨a, b, hv, h0, hd⟩ =>
    obtain rfl : b = [] := hd
    obtain ⟨t, rfl, rfl, ht⟩ := in_T h0
    subst hv
    obtain ⟨t', e1, e2, -⟩ := hli 0 (by simp)
    have e1 : Value.string t = .string t' := e1
    injection e1 with e1
    subst e1
    have e2 := e2 (by omega)
    refine ⟨[.string t], ⟨rfl, ?_⟩, ?_⟩
    · intro i k v hk hv
      match i with
      | 0 => injection hk with hk; injection hv with hv; subst hk; subst hv; exact ⟨str_ty ht, rfl⟩
      | i + 1 => cases hk
    · go_enter Tryd.func51, Tryd.ntmps51
      go_wp2_with (go_at_call 64; refine (Tryd.stringslite_Clone t w (by omega)).mono ?_; rintro e w1 ⟨rfl, hb⟩)
      go_ret
      exact ⟨rfl, hb⟩
theorem maxlen_of {w : World} (hg : GvOk lxTabs w) : ∃ z, w.cell? ⟨1, 0, none⟩ = some (.int .i64 z) := by
  obtain ⟨cs, ty, fr, k1, k2⟩ := hg 1 someInt (by simp [lxTabs])
  rcases k2 0 _ someInt_get with ⟨hf, -⟩ | ⟨-, z, hz⟩
  · cases hf
  · exact ⟨z, by rw [cell_of k1]; exact hz⟩
theorem ue_ty (x : B8) : tyOk 7 (.int .u8 (Int.ofNat (escF x).1.toNat)) = true := by
  have := (escF x).1.toNat_lt
  simp [tyOk, kindCode, IntKind.min, IntKind.max, IntKind.bits, IntKind.signed]
  omega
theorem ue_is : FnIs Tryd.prog [] lxU 23 ueargs [([7], false), ([6], false)] 5 := fnis_of (fn_of_ts_n (fun q => orc_cons (fn_is ib_is rfl (enter_of Tryd.func32 (by kernel_rfl) (by kernel_rfl))) (ext_nil _ _ _ _)) lx_mixed ue_flat (pls := uepls) rfl ue_checked (fun w args' vals hin _ => by
    match args', hin with
    | [v0], ⟨a, b, hv, h0, hd⟩ =>
      obtain rfl : b = [] := hd
      obtain ⟨t, rfl, rfl, ht⟩ := in_T h0
      subst hv
      refine ⟨[.int .u8 (Int.ofNat (escF (tl t)).1.toNat), .int .i64 (Int.ofNat (escF (tl t)).2)], ⟨rfl, ?_⟩, ue0 rfl (x := tl t) ht rfl⟩
      intro i k v hk hv
      match i with
      | 0 => injection hk with hk; injection hv with hv; subst hk; subst hv; exact ⟨ue_ty _, rfl⟩
      | 1 => injection hk with hk; injection hv with hv; subst hk; subst hv; exact ⟨nat_i64 (Nat.lt_of_le_of_lt (esc_le _) ht), rfl⟩
      | i + 2 => cases hk))
theorem unqP_le (x : B8) : (unqP x).2 ≤ x.length := by
  unfold unqP
  cases h : unqF x with
  | none => exact Nat.zero_le _
  | some p => exact (unqF_app [] x h).2
theorem uq_is : FnIs Tryd.prog [] lxU 12 uqargs [([2], false), ([6], false)] 7 := fnis_of (fn_of_ts_n (fun q => orc_cons (fn_is ue_is rfl (enter_of Tryd.func23 (by kernel_rfl) (by kernel_rfl))) (ext_nil _ _ _ _)) lx_mixed uq_flat (pls := uqpls) rfl uq_checked (fun w args' vals hin _ => by
    match args', hin with
    | [v0], ⟨a, b, hv, h0, hd⟩ =>
      obtain rfl : b = [] := hd
      obtain ⟨t, rfl, rfl, ht⟩ := in_T h0
      subst hv
      refine ⟨[.string (tx (unqP (tl t)).1), .int .i64 (Int.ofNat (unqP (tl t)).2)], ⟨rfl, ?_⟩, uq0 rfl (x := tl t) ht rfl⟩
      have hl := unqP_len (tl t)
      intro i k v hk hv
      match i with
      | 0 => injection hk with hk; injection hv with hv; subst hk; subst hv; exact ⟨str_ty (by show (unqP (tl t)).1.length < 9223372036854775808; omega), rfl⟩
      | 1 => injection hk with hk; injection hv with hv; subst hk; subst hv; exact ⟨nat_i64 (Nat.lt_of_le_of_lt (unqP_le _) ht), rfl⟩
      | i + 2 => cases hk))
theorem tk_is : FnIs Tryd.prog [] lxU 9 tkargs [([1], false)] 24 := fnis_of (fn_of_ts_n (fun _ => ext_nil _ _ _ _) lx_mixed tk_flat (pls := tkpls) rfl tk_checked (fun w args' vals hin _ => by
    match args', hin with
    | [v0, v1, v2], ⟨a, b, hv, h0, e, g, he, h1, p, q, hp, h2, hd⟩ =>
      obtain rfl : q = [] := hd
      obtain ⟨ad, l, c, rfl, L, rfl, hc⟩ := in_Ks h0
      obtain ⟨ad2, m, c2, rfl, M, rfl, hc2⟩ := in_Ks h1
      obtain ⟨y, rfl, rfl⟩ := in_bool h2
      subst hp
      subst he
      subst hv
      refine ⟨[.bool (tksB y l m)], ⟨rfl, ?_⟩, tk0 rfl L M rfl rfl rfl⟩
      intro i k v hk hv
      match i with
      | 0 => injection hk with hk; injection hv with hv; subst hk; subst hv; exact ⟨rfl, by show some (Value.bool (tksB y (dTok (l.flatMap eTok)) (dTok (m.flatMap eTok)))) = _; rw [dTok_e, dTok_e]⟩
      | i + 1 => cases hk))
theorem fnisl_gv {P : Program} {gv : List (Nat × Tr Value)} {U : Nat → List Value → Option Value} {f : FuncId} {ps : List ArgT} {ne : List Nat} {r : ResT} {base : Nat} (h : FnIsL P [] U f ps ne r base) : FnIsL P gv U f ps ne r base := fun w args' vals _ hin hli => h w args' vals (fun _ _ h => by cases h) hin hli
theorem co_is : FnIsL Tryd.prog lxTabs lxU 33 [(9, none), (9, none)] [0] [([1], false)] 27 := by
  intro w args' vals hg hin hli
  match args', hin with
  | [v0, v1], ⟨a, b, hv, h0, e, g, he, h1, hd⟩ =>
    obtain rfl : g = [] := hd
    obtain ⟨t, rfl, rfl, ht⟩ := in_T h0
    obtain ⟨u, rfl, rfl, hu⟩ := in_T h1
    subst he
    subst hv
    obtain ⟨t', e1, e2, -⟩ := hli 0 (by simp)
    have e1 : Value.string t = .string t' := e1
    injection e1 with e1
    subst e1
    have e2 := e2 (by omega)
    obtain ⟨m, hm⟩ := maxlen_of hg
    refine ⟨[.bool (decide (0 ≤ Lib.index (tl t) (tl u)))], ⟨rfl, ?_⟩, ?_⟩
    · intro i k v hk hv
      match i with
      | 0 => injection hk with hk; injection hv with hv; subst hk; subst hv; exact ⟨rfl, rfl⟩
      | i + 1 => cases hk
    · exact (Tryd.strings_Contains t u m w (by omega) hm).mono fun e w' ⟨he, hw⟩ => ⟨he, hw ▸ Below.refl _ _⟩
theorem mn_is : FnIs Tryd.prog lxTabs lxU 19 mnargs [([1], false)] 14 := fnis_of (fn_of_ts_n (fun q => orc_cons (fn_is_l co_is rfl (by decide) (enter_of Tryd.func33 (by kernel_rfl) (by kernel_rfl))) (ext_nil _ _ _ _)) lx_mixed mn_flat (pls := mnpls) rfl mn_checked (fun w args' vals hin _ => by
    match args', hin with
    | [v0], ⟨a, b, hv, h0, hd⟩ =>
      obtain rfl : b = [] := hd
      obtain ⟨ad, l, c, rfl, L, rfl, hc⟩ := in_Ks h0
      subst hv
      refine ⟨[.bool (negF conF l)], ⟨rfl, ?_⟩, mn0 rfl L rfl⟩
      intro i k v hk hv
      match i with
      | 0 => injection hk with hk; injection hv with hv; subst hk; subst hv; exact ⟨rfl, by show some (Value.bool (negF conF (dTok (l.flatMap eTok)))) = _; rw [dTok_e]⟩
      | i + 1 => cases hk))
def NuIs : Prop := FnIsL Tryd.prog lxTabs lxU 31 [(9, none)] [0, 1000] [([6, 2, 6, 6], true), ([6], false)] 9
def FtIs : Prop := FnIsL Tryd.prog lxTabs lxU 18 ftargs [0, 1000] [([6, 2, 6, 6], true), ([6], false)] 15
theorem allR_len (x : B8) : (allR x).1.length ≤ 16385 := by
  unfold allR
  split
  · exact Nat.zero_le _
  · cases hf : allF frsF conF x with
    | error i => exact Nat.zero_le _
    | ok l =>
      have := lexes_few (lexes_of _ _ _ _ hf)
      simp only [List.length_nil] at this
      show l.length ≤ _
      omega
def OkTk (x : Tok) : Prop := tyOk 6 (.int .i64 x.1) = true ∧ x.2.1.length < 9223372036854775808 ∧ tyOk 6 (.int .i64 x.2.2.1) = true ∧ tyOk 6 (.int .i64 x.2.2.2) = true
theorem ck_ok {l : List Tok} (h : ∀ x, x ∈ l → OkTk x) : ∀ (i : Nat) (v : Value), (l.flatMap eTok)[i]? = some v → tyOk (([6, 2, 6, 6] : List Nat).getD (i % 4) 0) v = true := by
  intro i v hv
  have hlt : i < l.length * 4 := by
    have := (List.getElem?_eq_some_iff.1 hv).1
    rw [flat_len eTok_len] at this
    exact this
  have hd : i / 4 < l.length := by omega
  have g := flat_get eTok_len l (i / 4) l[i / 4] (List.getElem?_eq_getElem hd) (i % 4) (by omega)
  rw [show i / 4 * 4 + i % 4 = i by omega, hv] at g
  obtain ⟨q0, q1, q2, q3⟩ := h _ (List.getElem_mem hd)
  have hm : i % 4 = 0 ∨ i % 4 = 1 ∨ i % 4 = 2 ∨ i % 4 = 3 := by omega
  rcases hm with hm | hm | hm | hm
  all_goals
    rw [hm] at g ⊢
    injection g with g
    subst g
  · exact q0
  · exact str_ty q1
  · exact q2
  · exact q3
end Go.Proofs.YtaepplhgeeaidaaDoor
