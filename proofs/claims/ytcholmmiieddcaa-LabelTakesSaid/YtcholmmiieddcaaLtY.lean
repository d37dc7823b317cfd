/- LabelTakes: the call. -/
import Derived.Test.YtcholmmiieddcaaLtJ
set_option linter.unusedVariables false
set_option linter.unusedSimpArgs false
set_option maxRecDepth 100000
namespace Go.Proofs.Ytcholmmiieddcaa
open Go Go.RowKit Ev
theorem tk_is : FnIs Try.prog [] ltU 8 ([(23, none), (22, none)] : List ArgT) [([1], false)] 16 := by
  intro w args' vals _ hin
  match args', hin with
  | [v0, v1], ⟨a, b, hv, h0, e, g, he, h1, hd⟩ =>
    obtain rfl : g = [] := hd
    have h0' := h0
    have h1' := h1
    obtain ⟨ad, m, c, -, M, rfl, -⟩ := in_Ms h0
    obtain ⟨ad2, l, c2, -, L, rfl, -⟩ := in_Ls h1
    subst he
    subst hv
    refine ⟨[.bool (takB m l)], ⟨rfl, ?_⟩, (takes_any v0 v1 m l w h0' h1').mono fun e w' ⟨he, hb⟩ => ⟨he, hb⟩⟩
    intro i k v hk hv
    match i with
    | 0 => injection hk with hk; injection hv with hv; subst hk; subst hv; exact ⟨rfl, by show some (Value.bool (takB (dM (m.flatMap eM)) (dL (l.flatMap eL)))) = _; rw [dM_e, dL_e]⟩
    | i + 1 => cases hk
def ltEx : List (FuncId × ExtK) := [(63, .cmpstr), (56, .noEscape)]
theorem lt_e0 : ExtIs Try.prog 63 .cmpstr := ⟨_, Try.func63, by kernel_rfl, rfl, by kernel_rfl, by kernel_rfl⟩
theorem lt_e1 : ExtIs Try.prog 56 .noEscape := ⟨_, Try.func56, by kernel_rfl, rfl, by kernel_rfl, by kernel_rfl⟩
theorem lt_rl : tells true (evFn (cxOf Try.prog ltEx [] [] []) 100000 60 (.fn 4) [] ⟨.nil, 100, 100⟩) = true := by decide +kernel
theorem true_of {P : Program} {ex : List (FuncId × ExtK)} {me : List (TypeId × String × FuncId)} {gv : List (Nat × Tr Value)} {qs : List (Value × Bool)} {U : Nat → List Value → Option Value} {f : FuncId}
    (hent : ∀ (l : Array Value) (w : World), (callFunc f l).run P w = .ok (.enter f l) w) (h : ∀ w, Calls P f #[] w (fun e w' => e = .returned (.bool true) ∧ Below w.heap.size w w')) : OrcIs P (cxOf P ex me gv [] qs U) f trueO := by
  refine OrvIs.orc ⟨hent, fun args hp v hv m args' w gw _ hargs => ?_⟩
  unfold trueO0 at hv
  split at hv
  · injection hv with hv
    subst hv
    obtain ⟨h1, -⟩ := hargs
    obtain rfl : args' = [] := List.length_eq_zero_iff.1 h1.symm
    exact h w
  · cases hv
theorem lt_lives {q : List (Value × Bool)} : OrcIs Try.prog (cxOf Try.prog [] [] [] [] q ltU) 4 trueO := true_of (enter_of Try.func4 (by kernel_rfl) (by kernel_rfl)) (fun w => told (ext_cons lt_e0 (ext_cons lt_e1 (ext_nil _ [] []))) lt_mixed lt_rl w)
theorem lt_ext (q : List (Value × Bool)) : ExtOk Try.prog (cxOf Try.prog [] [] [] (ltOrc q) q ltU) :=
  orc_cons lt_lives (orc_cons (fn_is ck_is rfl (enter_of Try.func5 (by kernel_rfl) (by kernel_rfl))) (orc_cons (fn_is cm_is rfl (enter_of Try.func6 (by kernel_rfl) (by kernel_rfl)))
    (orc_cons (fn_is li_is rfl (enter_of Try.func7 (by kernel_rfl) (by kernel_rfl))) (orc_cons (fn_is la_is rfl (enter_of Try.func9 (by kernel_rfl) (by kernel_rfl))) (orc_cons (fn_is tk_is rfl (enter_of Try.func8 (by kernel_rfl) (by kernel_rfl)))
    (orc_cons (row_is pk_is (enter_of Try.func23 (by kernel_rfl) (by kernel_rfl))) (ext_nil _ _ _ _)))))))
theorem in_row {P : Program} {R : Addr → Option Value} {t e : TypeId} {v : Value} (hu : P.underlying t = some (.slice e)) (hv : vcells v = [v]) {f : Nat} (h : Rds P R f t (vcells v)) {l : List Value} (hl : readSl R (P.cellsOf e) v = some l) : InOk P R (t, none) v [.agg ⟨l⟩] := by
  refine ⟨⟨f, h⟩, ?_⟩
  rw [show P.underlying _ = _ from hu]
  exact ⟨l, hl, rfl⟩
theorem lt_walk (w : World) (r : Reach) (b0 : Nat) (args : List Value) (hl : [22, 23, 23, 24, 24].length = args.length)
    (hok : ∀ (j : Nat) t v, ([22, 23, 23, 24, 24] : List TypeId)[j]? = some t → args[j]? = some v → Value.okWide Try.prog w r b0 t v)
    (hd : ∀ (j : Nat) t v, ([22, 23, 23, 24, 24] : List TypeId)[j]? = some t → args[j]? = some v → ∃ f, Rds Try.prog (fun a => w.cell? a) f t (vcells v)) :
    Calls Try.prog 3 ⟨args⟩ w fun e w' => e = .returned (.bool true) ∧ Below w.heap.size w w' := by
  match args, hl with
  | [v0, v1, v2, v3, v4], _ =>
    obtain ⟨f0, d0⟩ := hd 0 _ _ rfl rfl
    obtain ⟨f1, d1⟩ := hd 1 _ _ rfl rfl
    obtain ⟨f2, d2⟩ := hd 2 _ _ rfl rfl
    obtain ⟨f3, d3⟩ := hd 3 _ _ rfl rfl
    obtain ⟨f4, d4⟩ := hd 4 _ _ rfl rfl
    have p0 := one_cell Try.underlying22 (hok 0 _ _ rfl rfl)
    have p1 := one_cell Try.underlying23 (hok 1 _ _ rfl rfl)
    have p2 := one_cell Try.underlying23 (hok 2 _ _ rfl rfl)
    have p3 := one_cell Try.underlying24 (hok 3 _ _ rfl rfl)
    have p4 := one_cell Try.underlying24 (hok 4 _ _ rfl rfl)
    have e0 := d0
    have e1 := d1
    have e2 := d2
    have e3 := d3
    have e4 := d4
    rw [p0] at e0
    rw [p1] at e1
    rw [p2] at e2
    rw [p3] at e3
    rw [p4] at e4
    obtain ⟨a0, l, c0, rfl, L, r0, -⟩ := lstG_of (B := 32) Try.underlying22 s_L b_L (by decide) eL_len rds_L e0
    obtain ⟨a1, m, c1, rfl, M, r1, hcm⟩ := lstG_of (B := 40) Try.underlying23 s_M b_M (by decide) eM_len rds_M e1
    obtain ⟨a2, n, c2, rfl, N, r2, -⟩ := lstG_of (B := 40) Try.underlying23 s_M b_M (by decide) eM_len rds_M e2
    obtain ⟨a3, ns, c3, rfl, A, r3, -⟩ := lstG_of (B := 16) Try.underlying24 s_T b_T (by decide) eT_len rds_T e3
    obtain ⟨a4, bs, c4, rfl, B, r4, -⟩ := lstG_of (B := 16) Try.underlying24 s_T b_T (by decide) eT_len rds_T e4
    have hin : InsOk Try.prog (fun a => w.cell? a) ltargs [.slice a0 l.length c0, .slice a1 m.length c1, .slice a2 n.length c2, .slice a3 ns.length c3, .slice a4 bs.length c4] ([.agg ⟨l.flatMap eL⟩] ++ ([.agg ⟨m.flatMap eM⟩] ++ ([.agg ⟨n.flatMap eM⟩] ++ ([.agg ⟨ns.flatMap eT⟩] ++ ([.agg ⟨bs.flatMap eT⟩] ++ []))))) :=
      ⟨_, _, rfl, in_row Try.underlying22 p0 d0 (by rw [s_L]; exact r0), _, _, rfl, in_row Try.underlying23 p1 d1 (by rw [s_M]; exact r1), _, _, rfl, in_row Try.underlying23 p2 d2 (by rw [s_M]; exact r2), _, _, rfl, in_row Try.underlying24 p3 d3 (by rw [s_T]; exact r3), _, _, rfl, in_row Try.underlying24 p4 d4 (by rw [s_T]; exact r4), rfl⟩
    have hck := lt_checked
    unfold chkF at hck
    split at hck
    case h_2 => cases hck
    rename_i fi hfi
    rw [Bool.and_eq_true] at hck
    obtain ⟨hr, hf⟩ := ins_entry (u := uRd (cxOf Try.prog [] [] [] (ltOrc []) [] ltU) (fun a => w.cell? a)) (s := startS ltargs [.slice a0 l.length c0, .slice a1 m.length c1, .slice a2 n.length c2, .slice a3 ns.length c3, .slice a4 bs.length c4]) (fun vs => uRd_rd _ _ 8 vs (by omega)) ltargs _ _ 0 lt_flat hin (fun j _ => by rw [Nat.zero_add]; rfl)
    refine ts_call lt_ext lt_mixed hfi hck.1 (pls := ltpls) rfl hck.2 (old_all w) hr hf (fun _ _ h => by cases h) (lt0 (cx := cxOf Try.prog [] [] [] (ltOrc []) [] ltU) rfl (R := fun a => w.cell? a) (fun c a b => n_beq (by decide +kernel) c a b) L M N A B hcm rfl rfl rfl rfl rfl) (fun s vs rs m hp w' v' hs hu hq hv _ _ hb _ => ?_)
    subst hs
    have hq' : denV m.s m.u 9 (oneA vs) = some (.bool true) := by rw [hu]; exact hq
    exact ⟨by rw [denV_ok 9 hv hq'], hb⟩
end Go.Proofs.Ytcholmmiieddcaa
