/- LabelTakes: the contracts of all functions but Takes. -/
import Derived.Test.YtcholmmiieddcaaLtX
import Derived.Test.YtcholmmiieddcaaLtA
import Derived.Test.YtcholmmiieddcaaLtK
set_option linter.unusedVariables false
set_option linter.unusedSimpArgs false
set_option linter.unusedSectionVars false
set_option maxRecDepth 100000
namespace Go.Proofs.Ytcholmmiieddcaa
open Go Go.RowKit Ev
theorem lt_mixed : Try.prog.follows .mixedOrders = true := by kernel_rfl
theorem fnis_of {P : Program} {gv : List (Nat × Tr Value)} {U : Nat → List Value → Option Value} {f : FuncId} {ps : List ArgT} {r : ResT} {base : Nat} (h : FnIsN P gv U f ps [] r base) : FnIs P gv U f ps r base := fun w args' vals hg hin => h w args' vals hg hin (fun j hj => by cases hj)
theorem s_T : Try.prog.cellsOf 9 = 1 := by decide +kernel
theorem s_I : Try.prog.cellsOf 3 = 1 := by decide +kernel
theorem s_L : Try.prog.cellsOf 39 = 2 := by decide +kernel
theorem s_E : Try.prog.cellsOf 44 = 2 := by decide +kernel
theorem s_M : Try.prog.cellsOf 32 = 3 := by decide +kernel
theorem b_T : Try.prog.bytesOf 9 = 16 := by decide +kernel
theorem b_L : Try.prog.bytesOf 39 = 32 := by decide +kernel
theorem b_E : Try.prog.bytesOf 44 = 32 := by decide +kernel
theorem b_M : Try.prog.bytesOf 32 = 40 := by decide +kernel
theorem c_int : cellTy Try.prog 3 = 6 := by decide +kernel
theorem c_bool : cellTy Try.prog 4 = 1 := by decide +kernel
section
variable {R : Addr → Option Value}
theorem rds_T : ∀ (f : Nat) (cs : List Value), Rds Try.prog R f 9 cs → ∃ a, cs = eT a ∧ QT a := by
  intro f cs h
  cases f with
  | zero => exact h.elim
  | succ f =>
    unfold Rds at h
    rw [Try.underlying9] at h
    match cs, h with
    | [.string s], h => exact ⟨s, rfl, h⟩
theorem rds_int {f : Nat} {v : Value} (h : Rds Try.prog R f 3 [v]) : ∃ n, v = .int .i64 n ∧ (-9223372036854775808 ≤ n ∧ n ≤ 9223372036854775807) := by
  cases f with
  | zero => exact h.elim
  | succ f =>
    unfold Rds at h
    rw [Try.underlying3] at h
    exact ty_i64 (by rw [← c_int]; exact h)
theorem rds_L2 {t : TypeId} {o : Nat} (hs : Try.prog.cellsOf t = 2) (hu : Try.prog.underlying t = Try.prog.underlying 39) : ∀ (f : Nat) (cs : List Value), Rds Try.prog R f t cs → ∃ a, cs = eL a ∧ QL a := by
  intro f cs h
  cases f with
  | zero => exact h.elim
  | succ f =>
    unfold Rds at h
    rw [hu, Try.underlying39] at h
    obtain ⟨h1, h2⟩ := h
    rw [hs] at h1
    match cs, h1 with
    | [c0, c1], _ =>
      have q0 : Rds Try.prog R f 9 (([c0, c1].drop 0).take (Try.prog.cellsOf 9)) := h2 0 _ rfl
      have q1 : Rds Try.prog R f 9 (([c0, c1].drop 1).take (Try.prog.cellsOf 9)) := h2 1 _ rfl
      rw [s_T] at q0 q1
      obtain ⟨a, ea, ha⟩ := rds_T _ _ q0
      obtain ⟨b, eb, hb⟩ := rds_T _ _ q1
      obtain rfl : c0 = Value.string a := by
        have h : [c0] = [Value.string a] := ea
        injection h
      obtain rfl : c1 = Value.string b := by
        have h : [c1] = [Value.string b] := eb
        injection h
      exact ⟨(a, b), rfl, ha, hb⟩
theorem rds_L : ∀ (f : Nat) (cs : List Value), Rds Try.prog R f 39 cs → ∃ a, cs = eL a ∧ QL a := rds_L2 (o := 0) s_L rfl
theorem rds_E : ∀ (f : Nat) (cs : List Value), Rds Try.prog R f 44 cs → ∃ a, cs = eL a ∧ QL a := rds_L2 (o := 0) s_E (by kernel_rfl)
theorem rds_M : ∀ (f : Nat) (cs : List Value), Rds Try.prog R f 32 cs → ∃ a, cs = eM a ∧ QM a := by
  intro f cs h
  cases f with
  | zero => exact h.elim
  | succ f =>
    unfold Rds at h
    rw [Try.underlying32] at h
    obtain ⟨h1, h2⟩ := h
    rw [s_M] at h1
    match cs, h1 with
    | [c0, c1, c2], _ =>
      have q0 : Rds Try.prog R f 3 (([c0, c1, c2].drop 0).take (Try.prog.cellsOf 3)) := h2 0 _ rfl
      have q1 : Rds Try.prog R f 9 (([c0, c1, c2].drop 1).take (Try.prog.cellsOf 9)) := h2 1 _ rfl
      have q2 : Rds Try.prog R f 9 (([c0, c1, c2].drop 2).take (Try.prog.cellsOf 9)) := h2 2 _ rfl
      rw [s_T] at q1 q2
      rw [s_I] at q0
      obtain ⟨n, e0, hn⟩ := rds_int (v := c0) q0
      obtain ⟨a, ea, ha⟩ := rds_T _ _ q1
      obtain ⟨b, eb, hb⟩ := rds_T _ _ q2
      subst e0
      obtain rfl : c1 = Value.string a := by
        have h : [c1] = [Value.string a] := ea
        injection h
      obtain rfl : c2 = Value.string b := by
        have h : [c2] = [Value.string b] := eb
        injection h
      exact ⟨(n, a, b), rfl, hn, ha, hb⟩
theorem in_T {v : Value} {vals : List Value} (h : InOk Try.prog R (9, none) v vals) : ∃ s, v = .string s ∧ vals = [.string s] ∧ QT s := by
  obtain ⟨⟨f, h1⟩, h2⟩ := h
  rw [show Try.prog.underlying _ = _ from Try.underlying9] at h2
  obtain ⟨rfl, hc⟩ := h2
  have hv : vcells v = [v] := by cases v <;> first | rfl | (simp [isCell] at hc)
  rw [hv] at h1
  obtain ⟨s, hs, q⟩ := rds_T _ _ h1
  have hs : [v] = [Value.string s] := hs
  injection hs with hs
  subst hs
  exact ⟨s, rfl, rfl, q⟩
theorem in_int {v : Value} {vals : List Value} (h : InOk Try.prog R (3, none) v vals) : ∃ n, v = .int .i64 n ∧ vals = [.int .i64 n] := by
  obtain ⟨⟨f, h1⟩, h2⟩ := h
  rw [show Try.prog.underlying _ = _ from Try.underlying3] at h2
  obtain ⟨rfl, hc⟩ := h2
  have hv : vcells v = [v] := by cases v <;> first | rfl | (simp [isCell] at hc)
  rw [hv] at h1
  obtain ⟨n, rfl, -⟩ := rds_int h1
  exact ⟨n, rfl, rfl⟩
theorem in_bool {v : Value} {vals : List Value} (h : InOk Try.prog R (4, none) v vals) : ∃ b, v = .bool b ∧ vals = [.bool b] := by
  obtain ⟨⟨f, h1⟩, h2⟩ := h
  rw [show Try.prog.underlying _ = _ from Try.underlying4] at h2
  obtain ⟨rfl, hc⟩ := h2
  have hv : vcells v = [v] := by cases v <;> first | rfl | (simp [isCell] at hc)
  rw [hv] at h1
  cases f with
  | zero => exact h1.elim
  | succ f =>
    unfold Rds at h1
    rw [Try.underlying4] at h1
    obtain ⟨b, rfl⟩ := ty_bool (by rw [← c_bool]; exact h1)
    exact ⟨b, rfl, rfl⟩
theorem in_Ls {v : Value} {vals : List Value} (h : InOk Try.prog R (22, none) v vals) : ∃ ad l c, v = .slice ad (List.length l) c ∧ LstG eL 2 32 QL R ad l ∧ vals = [.agg ⟨l.flatMap eL⟩] ∧ l.length ≤ c := inG (B := 32) Try.underlying22 s_L b_L (by decide) eL_len rds_L h
theorem in_Es {v : Value} {vals : List Value} (h : InOk Try.prog R (41, none) v vals) : ∃ ad l c, v = .slice ad (List.length l) c ∧ LstG eL 2 32 QL R ad l ∧ vals = [.agg ⟨l.flatMap eL⟩] ∧ l.length ≤ c := inG (B := 32) Try.underlying41 s_E b_E (by decide) eL_len rds_E h
theorem in_Ms {v : Value} {vals : List Value} (h : InOk Try.prog R (23, none) v vals) : ∃ ad l c, v = .slice ad (List.length l) c ∧ LstG eM 3 40 QM R ad l ∧ vals = [.agg ⟨l.flatMap eM⟩] ∧ l.length ≤ c := inG (B := 40) Try.underlying23 s_M b_M (by decide) eM_len rds_M h
theorem in_Ts {v : Value} {vals : List Value} (h : InOk Try.prog R (24, none) v vals) : ∃ ad l c, v = .slice ad (List.length l) c ∧ LstG eT 1 16 QT R ad l ∧ vals = [.agg ⟨l.flatMap eT⟩] ∧ l.length ≤ c := inG (B := 16) Try.underlying24 s_T b_T (by decide) eT_len rds_T h
end
theorem few_i64 {n : Int} (h : n = -1 ∨ n = 0 ∨ n = 1) : tyOk 6 (.int .i64 n) = true := i64_ty (by omega)
theorem str_ty {s : T} (h : QT s) : tyOk 2 (.string s) = true := by
  unfold QT at h
  simp only [tyOk]
  simp
  omega
theorem cl_ok {l : List Lab} (h : ∀ x, x ∈ l → QL x) : ∀ (i : Nat) (v : Value), (l.flatMap eL)[i]? = some v → tyOk (([2, 2] : List Nat).getD (i % 2) 0) v = true := by
  intro i v hv
  have hlt : i < l.length * 2 := by
    have := (List.getElem?_eq_some_iff.1 hv).1
    rw [flat_len eL_len] at this
    exact this
  have hd : i / 2 < l.length := by omega
  have g := flat_get eL_len l (i / 2) l[i / 2] (List.getElem?_eq_getElem hd) (i % 2) (by omega)
  rw [show i / 2 * 2 + i % 2 = i by omega, hv] at g
  have q := h _ (List.getElem_mem hd)
  have hm : i % 2 = 0 ∨ i % 2 = 1 := by omega
  rcases hm with hm | hm
  · rw [hm] at g ⊢
    injection g with g
    subst g
    exact str_ty q.1
  · rw [hm] at g ⊢
    injection g with g
    subst g
    exact str_ty q.2
theorem pick_mem {l : List Lab} {ns : List T} {b : Bool} {x : Lab} (h : x ∈ pickL l ns b) : x ∈ l := by
  unfold pickL at h
  split at h
  · exact (List.mem_filter.1 h).1
  · cases h
theorem pick_le (l : List Lab) (ns : List T) (b : Bool) : (pickL l ns b).length ≤ l.length := by
  unfold pickL
  split
  · exact List.length_filter_le _ _
  · exact Nat.zero_le _
theorem name_is : FnIs Try.prog [] ltU 33 naargs [([1], false)] 0 := fnis_of (fn_of_ts_n (fun _ => ext_nil _ _ _ _) lt_mixed na_flat (pls := napls) rfl na_checked (fun w args' vals hin _ => by
    match args', hin with
    | [v0], ⟨a, b, hv, h0, hd⟩ =>
      obtain rfl : b = [] := hd
      obtain ⟨t, rfl, rfl, ht⟩ := in_T h0
      subst hv
      refine ⟨[.bool (namB t)], ⟨rfl, ?_⟩, na0 rfl ht rfl⟩
      intro i k v hk hv
      match i with
      | 0 => injection hk with hk; injection hv with hv; subst hk; subst hv; exact ⟨rfl, rfl⟩
      | i + 1 => cases hk))
theorem cmp_is : FnIs Try.prog [] ltU 44 ([(9, none), (9, none)] : List ArgT) [([6], false)] 1 := by
  intro w args' vals _ hin
  match args', hin with
  | [v0, v1], ⟨a, b, hv, h0, e, g, he, h1, hd⟩ =>
    obtain rfl : g = [] := hd
    obtain ⟨s, rfl, rfl, hs⟩ := in_T h0
    obtain ⟨t, rfl, rfl, ht⟩ := in_T h1
    subst he
    subst hv
    refine ⟨[.int .i64 (cmpT s t)], ⟨rfl, ?_⟩, ?_⟩
    · intro i k v hk hv
      match i with
      | 0 => injection hk with hk; injection hv with hv; subst hk; subst hv; exact ⟨few_i64 (cmp_rng s t), rfl⟩
      | i + 1 => cases hk
    · exact (cmp_any s t w).mono fun e w' ⟨he, hw⟩ => ⟨he, hw ▸ Below.refl _ _⟩
theorem xw_is : FnIs Try.prog [] ltU 32 xwargs [([6], false)] 2 := fnis_of (fn_of_ts_n (fun q => orc_cons (fn_is name_is rfl (enter_of Try.func33 (by kernel_rfl) (by kernel_rfl))) (ext_nil _ _ _ _)) lt_mixed xw_flat (pls := xwpls) rfl xw_checked (fun w args' vals hin _ => by
    match args', hin with
    | [v0, v1], ⟨a, b, hv, h0, e, g, he, h1, hd⟩ =>
      obtain rfl : g = [] := hd
      obtain ⟨ad, l, c, rfl, L, rfl, hc⟩ := in_Es h0
      obtain ⟨rfl, -, rfl⟩ := h1
      subst he
      subst hv
      refine ⟨[.int .i64 (idxF wrL 0 l)], ⟨rfl, ?_⟩, xw0 rfl L rfl⟩
      intro i k v hk hv
      match i with
      | 0 => injection hk with hk; injection hv with hv; subst hk; subst hv; exact ⟨i64_ty (idx_i64 wrL l 0 (by have := (lstG_few L).1; omega)), by show some (Value.int .i64 (idxF wrL 0 (dL (l.flatMap eL)))) = _; rw [dL_e]⟩
      | i + 1 => cases hk))
theorem xm_is : FnIs Try.prog [] ltU 35 xmargs [([6], false)] 3 := fnis_of (fn_of_ts_n (fun q => orc_cons (fn_is name_is rfl (enter_of Try.func33 (by kernel_rfl) (by kernel_rfl))) (ext_nil _ _ _ _)) lt_mixed xm_flat (pls := xmpls) rfl xm_checked (fun w args' vals hin _ => by
    match args', hin with
    | [v0, v1], ⟨a, b, hv, h0, e, g, he, h1, hd⟩ =>
      obtain rfl : g = [] := hd
      obtain ⟨ad, l, c, rfl, L, rfl, hc⟩ := in_Ms h0
      obtain ⟨rfl, -, rfl⟩ := h1
      subst he
      subst hv
      refine ⟨[.int .i64 (idxF wrM 0 l)], ⟨rfl, ?_⟩, xm0 rfl L rfl⟩
      intro i k v hk hv
      match i with
      | 0 => injection hk with hk; injection hv with hv; subst hk; subst hv; exact ⟨i64_ty (idx_i64 wrM l 0 (by have := (lstG_few L).1; omega)), by show some (Value.int .i64 (idxF wrM 0 (dM (l.flatMap eM)))) = _; rw [dM_e]⟩
      | i + 1 => cases hk))
theorem as_is : FnIs Try.prog [] ltU 17 asargs [([1], false)] 6 := fnis_of (fn_of_ts_n (fun q => orc_cons (fn_is cmp_is rfl (enter_of Try.func44 (by kernel_rfl) (by kernel_rfl))) (ext_nil _ _ _ _)) lt_mixed as_flat (pls := aspls) rfl as_checked (fun w args' vals hin _ => by
    match args', hin with
    | [v0, v1], ⟨a, b, hv, h0, e, g, he, h1, hd⟩ =>
      obtain rfl : g = [] := hd
      obtain ⟨ad, l, c, rfl, L, rfl, hc⟩ := in_Es h0
      obtain ⟨rfl, -, rfl⟩ := h1
      subst he
      subst hv
      refine ⟨[.bool (ascF l)], ⟨rfl, ?_⟩, as0 rfl L rfl⟩
      intro i k v hk hv
      match i with
      | 0 => injection hk with hk; injection hv with hv; subst hk; subst hv; exact ⟨rfl, by show some (Value.bool (ascF (dL (l.flatMap eL)))) = _; rw [dL_e]⟩
      | i + 1 => cases hk))
theorem si_is : FnIs Try.prog [] ltU 45 siargs [([6], false)] 9 := fnis_of (fn_of_ts_n (fun _ => ext_nil _ _ _ _) lt_mixed si_flat (pls := sipls) rfl si_checked (fun w args' vals hin _ => by
    match args', hin with
    | [v0, v1], ⟨a, b, hv, h0, e, g, he, h1, hd⟩ =>
      obtain rfl : g = [] := hd
      obtain ⟨ad, l, c, rfl, L, rfl, hc⟩ := in_Ts h0
      obtain ⟨n, rfl, rfl, hn⟩ := in_T h1
      subst he
      subst hv
      refine ⟨[.int .i64 (idxF (fun s => eqT s n) 0 l)], ⟨rfl, ?_⟩, si0 rfl L rfl rfl⟩
      intro i k v hk hv
      match i with
      | 0 => injection hk with hk; injection hv with hv; subst hk; subst hv; exact ⟨i64_ty (idx_i64 _ l 0 (by have := (lstG_few L).1; omega)), by show some (Value.int .i64 (idxF (fun s => eqT s n) 0 (dT (l.flatMap eT)))) = _; rw [dT_e]⟩
      | i + 1 => cases hk))
theorem li_is : FnIs Try.prog [] ltU 7 liargs [([1], false)] 10 := fnis_of (fn_of_ts_n (fun _ => ext_nil _ _ _ _) lt_mixed li_flat (pls := lipls) rfl li_checked (fun w args' vals hin _ => by
    match args', hin with
    | [v0, v1], ⟨a, b, hv, h0, e, g, he, h1, hd⟩ =>
      obtain rfl : g = [] := hd
      obtain ⟨ad, l, c, rfl, L, rfl, hc⟩ := in_Ts h0
      obtain ⟨K, rfl, rfl⟩ := in_int h1
      subst he
      subst hv
      refine ⟨[.bool (litF K 0 l)], ⟨rfl, ?_⟩, li0 rfl L rfl rfl⟩
      intro i k v hk hv
      match i with
      | 0 => injection hk with hk; injection hv with hv; subst hk; subst hv; exact ⟨rfl, by show some (Value.bool (litF K 0 (dT (l.flatMap eT)))) = _; rw [dT_e]⟩
      | i + 1 => cases hk))
theorem la_is : FnIs Try.prog [] ltU 9 laargs [([1], false)] 11 := fnis_of (fn_of_ts_n (fun _ => ext_nil _ _ _ _) lt_mixed la_flat (pls := lapls) rfl la_checked (fun w args' vals hin _ => by
    match args', hin with
    | [v0, v1], ⟨a, b, hv, h0, e, g, he, h1, hd⟩ =>
      obtain rfl : g = [] := hd
      obtain ⟨ad, l, c, rfl, L, rfl, hc⟩ := in_Ls h0
      obtain ⟨ad2, m, c2, rfl, M, rfl, hc2⟩ := in_Ls h1
      subst he
      subst hv
      refine ⟨[.bool (labB l m)], ⟨rfl, ?_⟩, la0 rfl L M rfl rfl⟩
      intro i k v hk hv
      match i with
      | 0 => injection hk with hk; injection hv with hv; subst hk; subst hv; exact ⟨rfl, by show some (Value.bool (labB (dL (l.flatMap eL)) (dL (m.flatMap eL)))) = _; rw [dL_e, dL_e]⟩
      | i + 1 => cases hk))
theorem fi_is : FnIs Try.prog [] ltU 37 fiargs [([2, 2], true)] 7 := fnis_of (fn_of_ts_n (fun q => orc_cons (fn_is cmp_is rfl (enter_of Try.func44 (by kernel_rfl) (by kernel_rfl))) (ext_nil _ _ _ _)) lt_mixed fi_flat (pls := fipls) rfl fi_checked (fun w args' vals hin _ => by
    match args', hin with
    | [v0, v1, v2], ⟨a, b, hv, h0, e, g, he, h1, p, q, hp, h2, hd⟩ =>
      obtain rfl : q = [] := hd
      obtain ⟨ad, l, c, rfl, L, rfl, hc⟩ := in_Es h0
      obtain ⟨n, rfl, rfl, hn⟩ := in_T h1
      obtain ⟨rfl, -, rfl⟩ := h2
      subst hp
      subst he
      subst hv
      refine ⟨[.string (fstT l n).1, .string (fstT l n).2], ⟨rfl, ?_⟩, fi0 rfl L rfl rfl⟩
      intro i k v hk hv
      have hq : QL (fstT l n) := by
        unfold fstT
        cases hf : l.find? (fun x => cmpT x.1 n == 0) with
        | none => exact ⟨by unfold QT; decide, by unfold QT; decide⟩
        | some x => exact (lstG_few L).2.2 x (List.mem_of_find?_eq_some hf)
      match i with
      | 0 => injection hk with hk; injection hv with hv; subst hk; subst hv; exact ⟨str_ty hq.1, by show some (Value.string (fstT (dL (l.flatMap eL)) n).1) = _; rw [dL_e]⟩
      | 1 => injection hk with hk; injection hv with hv; subst hk; subst hv; exact ⟨str_ty hq.2, by show some (Value.string (fstT (dL (l.flatMap eL)) n).2) = _; rw [dL_e]⟩
      | i + 2 => cases hk))
theorem en_is : RowIs Try.prog [] ltU 14 enargs [2, 2] 44 false 4 :=
  row_of_ts (fun _ => ext_nil _ _ _ _) lt_mixed en_flat (pls := enpls) rfl en_checked fun w args' vals hin => by
    match args', hin with
    | [v0], ⟨a, b, hv, h0, hd⟩ =>
      obtain rfl : b = [] := hd
      obtain ⟨ad, l, c, rfl, L, rfl, hc⟩ := in_Ls h0
      subst hv
      obtain ⟨f1, f2, f3⟩ := lstG_few L
      refine ⟨l.flatMap eL, l.length, ?_, ?_, ⟨f1, flat_len eL_len l, cl_ok f3⟩, en0 L rfl⟩
      · show some (Value.agg ⟨(dL (l.flatMap eL)).flatMap eL⟩) = _
        rw [dL_e]
      · show some (Value.int .i64 (.ofNat (dL (l.flatMap eL)).length)) = _
        rw [dL_e]
theorem ck_ext (q : List (Value × Bool)) : ExtOk Try.prog (cxOf Try.prog [] [] [] (ckOrc q) q ltU) :=
  orc_cons (row_is en_is (enter_of Try.func14 (by kernel_rfl) (by kernel_rfl))) (orc_cons (fn_is xw_is rfl (enter_of Try.func32 (by kernel_rfl) (by kernel_rfl))) (orc_cons (fn_is as_is rfl (enter_of Try.func17 (by kernel_rfl) (by kernel_rfl))) (ext_nil _ _ _ _)))
theorem chkL_rng (l : List Lab) : tyOk 6 (.int .i64 (chkL l)) = true := i64_ty (by unfold chkL; split; · decide
                                                                                   · split <;> decide)
theorem chkM_rng (l : List Mat) : tyOk 6 (.int .i64 (chkM l)) = true := i64_ty (by unfold chkM; split; · decide
                                                                                   · split <;> decide)
theorem ck_is : FnIs Try.prog [] ltU 5 ckargs [([6], false)] 12 := fnis_of (fn_of_ts_n ck_ext lt_mixed ck_flat (pls := ckpls) rfl ck_checked (fun w args' vals hin _ => by
    match args', hin with
    | [v0], ⟨a, b, hv, h0, hd⟩ =>
      obtain rfl : b = [] := hd
      obtain ⟨ad, l, c, rfl, L, rfl, hc⟩ := in_Ls h0
      subst hv
      refine ⟨[.int .i64 (chkL l)], ⟨rfl, ?_⟩, ck0 rfl L rfl⟩
      intro i k v hk hv
      match i with
      | 0 => injection hk with hk; injection hv with hv; subst hk; subst hv; exact ⟨chkL_rng l, by show some (Value.int .i64 (chkL (dL (l.flatMap eL)))) = _; rw [dL_e]⟩
      | i + 1 => cases hk))
theorem cm_is : FnIs Try.prog [] ltU 6 cmargs [([6], false)] 13 := fnis_of (fn_of_ts_n (fun q => orc_cons (fn_is xm_is rfl (enter_of Try.func35 (by kernel_rfl) (by kernel_rfl))) (ext_nil _ _ _ _)) lt_mixed cm_flat (pls := cmpls) rfl cm_checked (fun w args' vals hin _ => by
    match args', hin with
    | [v0], ⟨a, b, hv, h0, hd⟩ =>
      obtain rfl : b = [] := hd
      obtain ⟨ad, l, c, rfl, L, rfl, hc⟩ := in_Ms h0
      subst hv
      refine ⟨[.int .i64 (chkM l)], ⟨rfl, ?_⟩, cm0 rfl L rfl⟩
      intro i k v hk hv
      match i with
      | 0 => injection hk with hk; injection hv with hv; subst hk; subst hv; exact ⟨chkM_rng l, by show some (Value.int .i64 (chkM (dM (l.flatMap eM)))) = _; rw [dM_e]⟩
      | i + 1 => cases hk))
theorem pk_ext (q : List (Value × Bool)) : ExtOk Try.prog (cxOf Try.prog [] [] [] (pkOrc q) q ltU) :=
  orc_cons (fn_is ck_is rfl (enter_of Try.func5 (by kernel_rfl) (by kernel_rfl))) (orc_cons (fn_is si_is rfl (enter_of Try.func45 (by kernel_rfl) (by kernel_rfl))) (ext_nil _ _ _ _))
theorem pk_is : RowIs Try.prog [] ltU 23 pkargs [2, 2] 39 true 14 :=
  row_of_ts pk_ext lt_mixed pk_flat (pls := pkpls) rfl pk_checked fun w args' vals hin => by
    match args', hin with
    | [v0, v1, v2], ⟨a, b, hv, h0, e, g, he, h1, p, q, hp, h2, hd⟩ =>
      obtain rfl : q = [] := hd
      obtain ⟨ad, l, c, rfl, L, rfl, hc⟩ := in_Ls h0
      obtain ⟨ad2, ns, c2, rfl, M, rfl, hc2⟩ := in_Ts h1
      obtain ⟨y, rfl, rfl⟩ := in_bool h2
      subst hp
      subst he
      subst hv
      obtain ⟨f1, f2, f3⟩ := lstG_few L
      have hle := pick_le l ns y
      refine ⟨(pickL l ns y).flatMap eL, (pickL l ns y).length, ?_, ?_, ⟨by omega, flat_len eL_len _, cl_ok fun x hx => f3 x (pick_mem hx)⟩, pk0 rfl (fun c a b => n_beq (by decide +kernel) c a b) L M rfl rfl rfl⟩
      · show some (Value.agg ⟨(pickL (dL (l.flatMap eL)) (dT (ns.flatMap eT)) y).flatMap eL⟩) = _
        rw [dL_e, dT_e]
      · show some (Value.int .i64 (.ofNat (pickL (dL (l.flatMap eL)) (dT (ns.flatMap eT)) y).length)) = _
        rw [dL_e, dT_e]
end Go.Proofs.Ytcholmmiieddcaa
