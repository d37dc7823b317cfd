import Derived.Test.YtaepplhgeeaidaaDoorLbJ
import Derived.Test.YtaepplhgeeaidaaDoorLxO
import Derived.Test.YtaepplhgeeaidaaDoorShelf
import Derived.Shelf.Strings.Builder1
import Derived.Test.YtaepplhgeeaidaaDoorEvSy
section
set_option linter.unusedVariables false
set_option linter.unusedSimpArgs false
set_option linter.unusedSectionVars false
set_option maxRecDepth 100000
namespace Go.Proofs.YtaepplhgeeaidaaDoor
open Go Go.RowKit Ev
def lbRen : Go.Shelf.Ren := ⟨fun | 167 => 13 | n => Tryd.lays156_ren.f n, Tryd.lays156_ren.t, Tryd.lays156_ren.g⟩
theorem lb167 : Go.Proofs.Lays.n167 Tryd.prog lbRen := {
  mixed := Tryd.lays156.mixed
  f167 := Tryd.func13.trans (congrArg some (by kernel_rfl))
  f240 := Tryd.func24.trans (congrArg some (by kernel_rfl))
  f276 := Tryd.func37.trans (congrArg some (by kernel_rfl))
  t0 := Tryd.lays156.t0
  a0 := Tryd.lays156.a0
  z0 := Tryd.lays156.z0
  v0 := Tryd.lays156.v0
  t4 := Tryd.lays156.t4
  a4 := Tryd.lays156.a4
  z4 := Tryd.lays156.z4
  v4 := Tryd.lays156.v4
  t5 := Tryd.underlying5
  a5 := Tryd.isAgg5
  z5 := Tryd.sizeOf5
  v5 := Tryd.zeroValue5
  t9 := Tryd.lays156.t9
  a9 := Tryd.lays156.a9
  z9 := Tryd.lays156.z9
  v9 := Tryd.lays156.v9
  t20 := Tryd.lays156.t20
  a20 := Tryd.lays156.a20
  z20 := Tryd.lays156.z20
  v20 := Tryd.lays156.v20
  t37 := Tryd.lays156.t37
  a37 := Tryd.lays156.a37
  z37 := Tryd.lays156.z37
  v37 := Tryd.lays156.v37
  t70 := Tryd.lays156.t70
  a70 := Tryd.lays156.a70
  z70 := Tryd.lays156.z70
  v70 := Tryd.lays156.v70
  t72 := Tryd.lays156.t72
  a72 := Tryd.lays156.a72
  z72 := Tryd.lays156.z72
  v72 := Tryd.lays156.v72
  t75 := Tryd.lays156.t75
  a75 := Tryd.lays156.a75
  z75 := Tryd.lays156.z75
  v75 := Tryd.lays156.v75
  t164 := Tryd.lays156.t164
  a164 := Tryd.lays156.a164
  z164 := Tryd.lays156.z164
  v164 := Tryd.lays156.v164 }
theorem lbX : Builder.Extra Tryd.prog lbRen := {
  sizeBuilder := by kernel_rfl
  liesBuilder := by kernel_rfl
  t5 := Tryd.underlying5
  a5 := Tryd.isAgg5
  z5 := Tryd.sizeOf5
  v5 := Tryd.zeroValue5
  infoByte := by kernel_rfl
  cellsByte := by kernel_rfl
  sizeByte := by kernel_rfl
  neB5 := by decide }
theorem hxD_at : ∀ (n : Nat) (h : n < (⟨#[48, 49, 50, 51, 52, 53, 54, 55, 56, 57, 97, 98, 99, 100, 101, 102]⟩ : ByteArray).size), (⟨#[48, 49, 50, 51, 52, 53, 54, 55, 56, 57, 97, 98, 99, 100, 101, 102]⟩ : ByteArray)[n]'h = hxD n
  | 0, _ | 1, _ | 2, _ | 3, _ | 4, _ | 5, _ | 6, _ | 7, _ | 8, _ | 9, _ | 10, _ | 11, _ | 12, _ | 13, _ | 14, _ | 15, _ => rfl
  | n + 16, h => absurd h (by show ¬ n + 16 < 16; omega)
theorem quo_any (u : ByteArray) (hu : u.size ≤ 1048576) (w : World) : Calls Tryd.prog 6 #[.string u] w fun e w' => e = .returned (.string (tx (quoF (tl u)))) ∧ Below w.heap.size w w' :=
  quote_any u hu w qB hxD (fun c h => by unfold qB; rw [if_pos h]) (fun c h1 h2 => by unfold qB; rw [if_neg h1]; exact if_pos h2) (fun c h1 h2 => by unfold qB; rw [if_neg h1]; exact if_neg (by unfold plB; rw [h2]; exact Bool.false_ne_true)) hxD_at
    (fun B b bs c w h1 h2 h3 => Any.Builder_WriteByte lb167 lbX B b bs c w h1 h2 h3)
    (fun B b bs s w h1 h2 h3 => Any.Builder_WriteString { Tryd.lays156 with } Tryd.Builder_Extra_156 B b bs s w h1 h2 h3)
    (fun B b l w h1 h2 => Tryd.Builder_String B b l w h1 h2)
theorem joi_any (ad : Option Addr) (l : List Tok) (c : Nat) (w : World) (hg : GvOk lxTabs w) (M : LstK (fun a => w.cell? a) ad l) (h8 : l.length ≤ 20000) (hx : ∀ x, x ∈ l → x.2.1.length ≤ 1048576 ∧ (-9223372036854775808 ≤ x.2.2.1 ∧ x.2.2.1 ≤ 9223372036854775807)) :
    Calls Tryd.prog 8 #[.slice ad l.length c] w fun e w' => e = .returned (.string (tx (joinT l))) ∧ Below w.heap.size w w' :=
  join_any ad l c w M h8 hx (fun u w' hu => quo_any u hu w') (fun v w' hv hb => fmt_any hg hv w' hb)
    (fun b xs c w' h1 h2 h3 h4 h5 => Tryd.strings_Join b 0 c xs ⟨#[32]⟩ w' (fun j x hj => by rw [Nat.zero_add]; exact h1 j x hj) h2 (by omega) h4 h5)
def unqA (x : B8) : Value := .tuple #[.string (tx (if (unqP x).2 = 0 ∨ (unqP x).2 < x.length then [] else (unqP x).1)), .bool (!decide ((unqP x).2 = 0 ∨ (unqP x).2 < x.length))]
set_option maxHeartbeats 4000000 in
theorem unquote_any (u : ByteArray) (hu : QT u) (w : World) : Calls Tryd.prog 5 #[.string u] w fun e w' => e = .returned (unqA (tl u)) ∧ Below w.heap.size w w' := by
  have C : ∀ w : World, Calls Tryd.prog 12 #[.string u] w fun e w' => e = .returned (.tuple #[.string (tx (unqP (tl u)).1), .int .i64 (((unqP (tl u)).2 : Nat) : Int)]) ∧ Below w.heap.size w w' := fun w => by
    obtain ⟨cs, ⟨hl, hc⟩, hC⟩ := uq_is w [.string u] _ (fun g t hg => by cases hg) ⟨[.string u], [], rfl, in_str hu, rfl⟩
    refine hC.mono fun e w' ⟨he, hb⟩ => ⟨?_, hb⟩
    match cs, hl with
    | [x, y], _ =>
      have e0 : some (Value.string (tx (unqP (tl u)).1)) = some x := (hc 0 2 x rfl rfl).2
      have e1 : some (Value.int .i64 (Int.ofNat (unqP (tl u)).2)) = some y := (hc 1 6 y rfl rfl).2
      injection e0 with e0
      injection e1 with e1
      subst e0 e1
      exact he
  unfold unqA
  have hts : (tl u).length = u.size := rfl
  rw [hts]
  generalize (unqP (tl u)).1 = s at *
  generalize (unqP (tl u)).2 = n at *
  have HC := Lib.hid C
  clear C hts
  by_cases h0 : n = 0
  · subst h0
    rw [if_pos (.inl rfl), decide_eq_true (p := 0 = 0 ∨ 0 < u.size) (.inl rfl)]
    show Calls _ _ _ _ fun e w' => e = .returned (.tuple #[.string (tx []), .bool false]) ∧ _
    have e1 : (((0 : Nat) : Int) == 0) = true := rfl
    go_enter Tryd.func5, Tryd.ntmps5
    go_wp2_with (go_at_call 12; refine (HC.out _).mono ?_; rintro e w1 ⟨rfl, hb⟩)
    go_ret2
    exact ⟨rfl, hb⟩
  · have e1 : ((n : Int) == 0) = false := beq_eq_false_iff_ne.2 (by omega)
    by_cases h1 : n < u.size
    · rw [if_pos (.inr h1), decide_eq_true (p := n = 0 ∨ n < u.size) (.inr h1)]
      show Calls _ _ _ _ fun e w' => e = .returned (.tuple #[.string (tx []), .bool false]) ∧ _
      go_enter Tryd.func5, Tryd.ntmps5
      go_wp2_with (go_at_call 12; refine (HC.out _).mono ?_; rintro e w1 ⟨rfl, hb⟩)
      go_ret2
      exact ⟨rfl, hb⟩
    · have hn : ¬ (n = 0 ∨ n < u.size) := by omega
      rw [if_neg hn, decide_eq_false hn]
      show Calls _ _ _ _ fun e w' => e = .returned (.tuple #[.string (tx s), .bool true]) ∧ _
      clear hn
      go_enter Tryd.func5, Tryd.ntmps5
      go_wp2_with (go_at_call 12; refine (HC.out _).mono ?_; rintro e w1 ⟨rfl, hb⟩)
      go_ret2
      exact ⟨rfl, hb⟩
end Go.Proofs.YtaepplhgeeaidaaDoor
end
section
set_option linter.unusedVariables false
set_option linter.unusedSimpArgs false
set_option linter.unusedSectionVars false
set_option maxRecDepth 100000
namespace Go.Proofs.YtaepplhgeeaidaaDoor
open Go Go.RowKit Ev
def TokOk (w : World) (v : Value) (l : List Tok) : Prop := InOk Tryd.prog (fun a => w.cell? a) (26, none) v [.agg ⟨l.flatMap eTok⟩]
theorem in_mono {P : Program} {r r' : Addr → Option Value} (h : ∀ a v, r a = some v → r' a = some v) {t e : TypeId} (hu : P.underlying t = some (.slice e)) {v : Value} {vals : List Value} (hi : InOk P r (t, none) v vals) : InOk P r' (t, none) v vals := by
  obtain ⟨⟨f, h1⟩, h2⟩ := hi
  refine ⟨⟨f, rds_mono h f t _ h1 f (Nat.le_refl _)⟩, ?_⟩
  rw [show P.underlying _ = _ from hu] at h2 ⊢
  obtain ⟨l, h3, h4⟩ := h2
  refine ⟨l, ?_, h4⟩
  unfold readSl at h3 ⊢
  split at h3
  · exact h3
  · exact readN_mono h _ _ h3
  · cases h3
theorem TokOk.on {w w' : World} {v : Value} {l : List Tok} (h : TokOk w v l) (hb : Below w.heap.size w w') : TokOk w' v l := in_mono (dat_on hb) Tryd.underlying26 h
theorem TokOk.lst {w : World} {ad : Option Addr} {l : List Tok} {n c : Nat} (h : TokOk w (.slice ad n c) l) : n = l.length ∧ LstK (fun a => w.cell? a) ad l := by
  obtain ⟨ad', m', c', hv, M, hmv, -⟩ := in_Ks h
  injection hmv with hmv
  injection hmv with hmv
  injection hmv with hmv
  have hme := congrArg dTok hmv
  rw [dTok_e, dTok_e] at hme
  subst hme
  injection hv with h1 h2
  subst h1
  exact ⟨h2, M⟩
theorem flat_K : flatT Tryd.prog 30 33 = some [3, 9, 2, 3] := by decide +kernel
theorem all_any (u : ByteArray) (hu : QT u) (w : World) (hg : GvOk lxTabs w) : Calls Tryd.prog 7 #[.string u] w fun e w' => Below w.heap.size w w' ∧ ∃ ad c, e = .returned (.tuple #[.slice ad (allR (tl u)).1.length c, .agg #[.int .i64 (allR (tl u)).2.1, .int .i64 ((allR (tl u)).2.2 : Int)]]) ∧ ((allR (tl u)).1 ≠ [] → TokOk w' (.slice ad (allR (tl u)).1.length c) (allR (tl u)).1) := by
  obtain ⟨cells, k, cs, u1, u2, ⟨c1, c2, c3⟩, ⟨o1, o2⟩, hC⟩ := (al_is nu_is) w [.string u] _ hg ⟨[.string u], [], rfl, in_str hu, rfl⟩
  have u1 : some (Value.agg ⟨(allR (tl u)).1.flatMap eTok⟩) = some (.agg ⟨cells⟩) := u1
  have u2 : some (Value.int .i64 (.ofNat (allR (tl u)).1.length)) = some (.int .i64 (.ofNat k)) := u2
  injection u1 with u1
  injection u1 with u1
  injection u1 with u1
  injection u2 with u2
  injection u2 with _ u2
  injection u2 with u2
  subst u1 u2
  match cs, o1 with
  | [x, y], _ =>
    have e0 : some (Value.int .i64 (allR (tl u)).2.1) = some x := (o2 0 6 x rfl rfl).2
    have e1 : some (Value.int .i64 (Int.ofNat (allR (tl u)).2.2)) = some y := (o2 1 6 y rfl rfl).2
    injection e0 with e0
    injection e1 with e1
    subst e0 e1
    refine hC.mono fun e w' ⟨hb, hr⟩ => ⟨hb, ?_⟩
    rcases hr with ⟨-, hk0, he⟩ | ⟨-, c, o, c', cs, fr, he, hc, hh, hf, hkc, hroom, hcs⟩
    · refine ⟨none, 0, by rw [he, hk0]; rfl, fun hne => absurd (List.eq_nil_of_length_eq_zero hk0) hne⟩
    · refine ⟨some ⟨c, o, none⟩, c', he, fun hne => ?_⟩
      have hcell : ∀ (j : Nat) (v : Value), ((allR (tl u)).1.flatMap eTok)[j]? = some v → w'.cell? ((⟨c, o, none⟩ : Addr).add j) = some v := by
        intro j v hj
        have := hcs j v hj
        unfold World.cell? Addr.add
        by_cases hj0 : j = 0
        · subst hj0
          simp only [if_true, hh]
          simpa using this
        · simp only [hj0, if_false, hh]
          simpa using this
      have hlen : ((allR (tl u)).1.flatMap eTok).length = (allR (tl u)).1.length * 4 := flat_len eTok_len _
      have hfew := allR_len (tl u)
      refine ⟨?_, ?_⟩
      · refine row_rds Tryd.underlying26 flat_K (by rw [s_K]; rfl) hkc c1 (by rw [b_K]; omega) hlen hcell (fun q v v' hq' hv' => ?_)
        have hty := c3 q v' hv'
        have hm : q % 4 = 0 ∨ q % 4 = 1 ∨ q % 4 = 2 ∨ q % 4 = 3 := by omega
        have hq'' : ([3, 9, 2, 3] : List TypeId)[q % 4]? = some v := hq'
        have hty : tyOk (([6, 2, 6, 6] : List Nat).getD (q % 4) 0) v' = true := hty
        rcases hm with hm | hm | hm | hm
        all_goals
          rw [hm] at hq'' hty
          injection hq'' with hq''
          subst hq''
        · exact leaf_rds (by decide +kernel) (by rw [c_int]; exact hty)
        · exact leaf_rds (by decide +kernel) (by rw [show cellTy Tryd.prog 9 = 2 by decide +kernel]; exact hty)
        · exact leaf_rds (by decide +kernel) (by rw [c_i64]; exact hty)
        · exact leaf_rds (by decide +kernel) (by rw [c_int]; exact hty)
      · rw [show Tryd.prog.underlying _ = _ from Tryd.underlying26]
        refine ⟨(allR (tl u)).1.flatMap eTok, ?_, rfl⟩
        rw [s_K]
        exact readN_of _ _ hlen hcell
theorem tok_any (v1 v2 : Value) (l m : List Tok) (b : Bool) (w : World) (h1 : TokOk w v1 l) (h2 : TokOk w v2 m) : Calls Tryd.prog 9 #[v1, v2, .bool b] w fun e w' => e = .returned (.bool (tksB b l m)) ∧ Below w.heap.size w w' := by
  have hB : InOk Tryd.prog (fun a => w.cell? a) (4, none) (.bool b) [.bool b] := by
    refine ⟨⟨1, ?_⟩, ?_⟩
    · unfold Rds
      rw [Tryd.underlying4]
      show tyOk (cellTy Tryd.prog 4) (.bool b) = true
      rw [c_bool]
      rfl
    · rw [show Tryd.prog.underlying _ = _ from Tryd.underlying4]
      exact ⟨rfl, rfl⟩
  obtain ⟨cs, ⟨hl, hc⟩, hC⟩ := tk_is w [v1, v2, .bool b] _ (fun g t hg => by cases hg) ⟨_, _, rfl, h1, _, _, rfl, h2, [.bool b], [], rfl, hB, rfl⟩
  refine hC.mono fun e w' ⟨he, hb⟩ => ⟨?_, hb⟩
  match cs, hl with
  | [x], _ =>
    have e0 : some (Value.bool (tksB b (dTok (l.flatMap eTok)) (dTok (m.flatMap eTok)))) = some x := (hc 0 1 x rfl rfl).2
    rw [dTok_e, dTok_e] at e0
    injection e0 with e0
    subst e0
    exact he
noncomputable def lbOrcs : List (FuncId × OrcF) := [(43, byteO), (55, textO)]
theorem lb_rl : tells true (evFn (cxOf Tryd.prog [] [] lxTabs lbOrcs) 100000 60 (.fn 4) [] ⟨.nil, 100, 100⟩) = true := by decide +kernel
theorem lb_lives (w : World) (hg : GvOk lxTabs w) : Calls Tryd.prog 4 #[] w fun e w' => e = .returned (.bool true) ∧ Below w.heap.size w w' :=
  toldG (orc_cons (byteO_is (enter_of Tryd.func43 (by kernel_rfl) (by kernel_rfl)) Tryd.stringslite_IndexByte)
      (orc_cons (textO_is (enter_of Tryd.func55 (by kernel_rfl) (by kernel_rfl)) (t := someInt) (g := 1) (by simp [cxOf, lxTabs]) someInt_get (fun s sub m w h1 h2 => Tryd.stringslite_Index s sub m w h1 h2)) (ext_nil _ lxTabs))) lx_mixed lb_rl w hg
end Go.Proofs.YtaepplhgeeaidaaDoor
end
section
set_option linter.unusedVariables false
set_option linter.unusedSimpArgs false
set_option linter.unusedSectionVars false
set_option maxRecDepth 100000
namespace Go.Proofs.YtaepplhgeeaidaaDoor
open Go Go.RowKit Ev
theorem unqA_quo (x : B8) : unqA (quoF x) = .tuple #[.string (tx (if x.length ≤ 64 then x else [])), .bool (decide (x.length ≤ 64))] := by
  have h := unqF_quo x []
  rw [List.append_nil] at h
  unfold unqA unqP
  rw [h]
  by_cases h64 : x.length ≤ 64
  · rw [if_pos h64, if_pos h64, decide_eq_true h64]
    have hn : ¬ ((quoF x).length = 0 ∨ (quoF x).length < (quoF x).length) := by
      have : 0 < (quoF x).length := by unfold quoF; simp
      omega
    show Value.tuple #[.string (tx (if (quoF x).length = 0 ∨ (quoF x).length < (quoF x).length then [] else x)), .bool (!decide ((quoF x).length = 0 ∨ (quoF x).length < (quoF x).length))] = _
    rw [if_neg hn, decide_eq_false hn]
    rfl
  · rw [if_neg h64, if_neg h64, decide_eq_false h64]
    show Value.tuple #[.string (tx (if 0 = 0 ∨ 0 < (quoF x).length then [] else [])), .bool (!decide (0 = 0 ∨ 0 < (quoF x).length))] = _
    rw [if_pos (.inl rfl), decide_eq_true (p := 0 = 0 ∨ 0 < (quoF x).length) (.inl rfl)]
    rfl
theorem unq_quo_any (t : ByteArray) (ht : t.size ≤ 3000) (w : World) : Calls Tryd.prog 5 #[.string (tx (quoF (tl t)))] w fun e w' => e = .returned (.tuple #[.string (tx (if t.size ≤ 64 then tl t else [])), .bool (decide (t.size ≤ 64))]) ∧ Below w.heap.size w w' := by
  have q : QT (tx (quoF (tl t))) := by
    show (quoF (tl t)).length < 9223372036854775808
    have := qs_four (tl t)
    have h2 : (tl t).length = t.size := rfl
    unfold quoF
    rw [List.length_cons, List.length_append]
    show _ + 1 + 1 < _
    omega
  have := unquote_any (tx (quoF (tl t))) q w
  rw [tl_tx, unqA_quo] at this
  exact this
set_option maxHeartbeats 4000000 in
theorem lb_big (s t : ByteArray) (hb : 3000 < s.size ∨ 3000 < t.size) (w : World) (hg : GvOk lxTabs w) : Calls Tryd.prog 3 #[.string s, .string t] w fun e w' => e = .returned (.bool true) ∧ Below w.heap.size w w' := by
  by_cases h : 3000 < s.size
  · go_enter Tryd.func3, Tryd.ntmps3
    go_wp2_with (first
      | (go_at_call 4; refine (lb_lives _ (gv_on hg (by first | exact Below.refl _ _ | exact bdn (Below.refl _ _) _ | exact (Below.refl _ _).drew))).mono ?_; rintro e w1 ⟨rfl, B1⟩))
    go_ret
    exact ⟨rfl, B1⟩
  · have h2 : 3000 < t.size := by omega
    go_enter Tryd.func3, Tryd.ntmps3
    go_wp2_with (first
      | (go_at_call 4; refine (lb_lives _ (gv_on hg (by first | exact Below.refl _ _ | exact bdn (Below.refl _ _) _ | exact (Below.refl _ _).drew))).mono ?_; rintro e w1 ⟨rfl, B1⟩))
    go_ret
    exact ⟨rfl, B1⟩
set_option maxHeartbeats 4000000 in
theorem lb_err (s t : ByteArray) (hs : s.size ≤ 3000) (ht : t.size ≤ 3000) (i : Nat) (hi : i < s.size) (he : allR (tl s) = ([], 13, i)) (w : World) (hg : GvOk lxTabs w) : Calls Tryd.prog 3 #[.string s, .string t] w fun e w' => e = .returned (.bool true) ∧ Below w.heap.size w w' := by
  have HA : ∀ w', Below w.heap.size w w' → Calls Tryd.prog 7 #[.string s] w' fun e w2 => Below w'.heap.size w' w2 ∧ ∃ ad c, e = .returned (.tuple #[.slice ad 0 c, .agg #[.int .i64 13, .int .i64 (i : Int)]]) := fun w' hb' => by
    have := all_any s (by show s.size < 9223372036854775808; omega) w' (gv_on hg hb')
    rw [he] at this
    exact this.mono fun e w2 ⟨h1, ad, c, h2, h3⟩ => ⟨h1, ad, c, h2⟩
  have HA := Lib.hid HA
  have HU := unq_quo_any t ht
  by_cases h64 : t.size ≤ 64
  · rw [if_pos h64, decide_eq_true h64, tx_tl] at HU
    have HU := Lib.hid HU
    go_enter Tryd.func3, Tryd.ntmps3
    go_wp2_with (first
      | (go_at_call 4; refine (lb_lives _ (gv_on hg (by first | exact Below.refl _ _ | exact bdn (Below.refl _ _) _ | exact (Below.refl _ _).drew))).mono ?_; rintro e w1 ⟨rfl, B1⟩)
      | (go_at_call 6; refine (quo_any t (by omega) _).mono ?_; rintro e w2 ⟨rfl, hb2⟩; have B2 := B1.trans (hb2.mono B1.size); clear hb2)
      | (go_at_call 5; refine (HU.out _).mono ?_; rintro e w3 ⟨rfl, hb3⟩; have B3 := B2.trans (hb3.mono B2.size); clear hb3)
      | (go_at_call 7; refine (HA.out _ (by first | exact B3 | exact B3.alloc (Nat.le_refl _) _)).mono ?_; rintro e w4 ⟨hb4, ad, c, rfl⟩))
    go_ret
    exact ⟨rfl, (B3.trans (hb4.mono B3.size)).alloc (Nat.le_trans B3.size hb4.size) _⟩
  · rw [if_neg h64, decide_eq_false h64] at HU
    have HU := Lib.hid HU
    go_enter Tryd.func3, Tryd.ntmps3
    go_wp2_with (first
      | (go_at_call 4; refine (lb_lives _ (gv_on hg (by first | exact Below.refl _ _ | exact bdn (Below.refl _ _) _ | exact (Below.refl _ _).drew))).mono ?_; rintro e w1 ⟨rfl, B1⟩)
      | (go_at_call 6; refine (quo_any t (by omega) _).mono ?_; rintro e w2 ⟨rfl, hb2⟩; have B2 := B1.trans (hb2.mono B1.size); clear hb2)
      | (go_at_call 5; refine (HU.out _).mono ?_; rintro e w3 ⟨rfl, hb3⟩; have B3 := B2.trans (hb3.mono B2.size); clear hb3)
      | (go_at_call 7; refine (HA.out _ (by first | exact B3 | exact B3.alloc (Nat.le_refl _) _)).mono ?_; rintro e w4 ⟨hb4, ad, c, rfl⟩))
    go_ret
    exact ⟨rfl, (B3.trans (hb4.mono B3.size)).alloc (Nat.le_trans B3.size hb4.size) _⟩
structure Fine (s : ByteArray) (n : Nat) (l : List Tok) : Prop where
  all : allR (tl s) = (l, 0, 0)
  len : l.length = n + 1
  few : l.length ≤ 16385
  last : l[n]? = some (endT s.size)
  rise : Rise l
  ok : ∀ x, x ∈ l → x.2.1.length ≤ 1048576 ∧ (-9223372036854775808 ≤ x.2.2.1 ∧ x.2.2.1 ≤ 9223372036854775807)
  back : ∃ b, allF frsF conF (joinT l) = .ok b ∧ Alike l b
theorem lt_cell {W : World} {x : Addr} {k : Nat} {v : Value} (h : W.cell? (x.add k) = some v) : x.block < W.heap.size := by
  have := World.block_lt_of_cell? W _ h
  unfold Addr.add at this
  split at this <;> exact this
theorem all_c {W : World} {a : Addr} {v : Value} {o : Obj} (h : W.cell? a = some v) : (W.alloc o).cell? a = some v := (World.cell?_alloc_lt W o a (World.block_lt_of_cell? W a h)).trans h
theorem i64_rng {n : Int} (h : tyOk 6 (.int .i64 n) = true) : -9223372036854775808 ≤ n ∧ n ≤ 9223372036854775807 := by
  obtain ⟨m, e, h⟩ := ty_i64 h
  injection e with _ e
  rw [e]
  exact h
theorem fine_of {s : ByteArray} (hs : s.size ≤ 16384) {l : List Tok} (h : allF frsF conF (tl s) = .ok l) : ∃ n, Fine s n l := by
  have hts : (tl s).length = s.size := rfl
  have ha : allR (tl s) = (l, 0, 0) := by
    unfold allR
    rw [if_neg (by rw [hts]; omega), h]
  obtain ⟨hr, hl⟩ := all_rises h
  have hne : l ≠ [] := by intro e; rw [e] at hl; cases hl
  have hlen : l.length = l.length - 1 + 1 := by
    have : 0 < l.length := List.length_pos_iff.2 hne
    omega
  have ok := ok_all (tl s)
  rw [ha] at ok
  have few := allR_len (tl s)
  rw [ha] at few
  refine ⟨l.length - 1, ha, hlen, few, by rw [List.getLast?_eq_getElem?] at hl; exact hl, hr, fun x hx => ⟨?_, i64_rng (ok x hx).2.2.1⟩, all_back h⟩
  have := all_txt h x hx
  rw [hts] at this
  omega
theorem fine_all {s : ByteArray} {n : Nat} {l : List Tok} (F : Fine s n l) (hs : s.size ≤ 16384) (w' : World) (hg : GvOk lxTabs w') : Calls Tryd.prog 7 #[.string s] w' fun e w2 => Below w'.heap.size w' w2 ∧ ∃ x c, e = .returned (.tuple #[.slice (some x) (n + 1) c, .agg #[.int .i64 0, .int .i64 0]]) ∧ TokOk w2 (.slice (some x) (n + 1) c) l := by
  have := all_any s (by show s.size < 9223372036854775808; omega) w' hg
  rw [F.all] at this
  refine this.mono fun e w2 ⟨h1, ad, c, h2, h3⟩ => ⟨h1, ?_⟩
  have hlen := F.len
  have h2 : e = .returned (.tuple #[.slice ad l.length c, .agg #[.int .i64 0, .int .i64 ((0 : Nat) : Int)]]) := h2
  have h3 : TokOk w2 (.slice ad l.length c) l := h3 (by intro e; have e : l = [] := e; rw [e] at hlen; cases hlen)
  rw [hlen] at h2 h3
  obtain ⟨-, M⟩ := h3.lst
  obtain ⟨x, a, rfl, hv, -, g, -⟩ := lstG_at M (i := n) (by omega)
  exact ⟨x, c, h2, h3⟩
end Go.Proofs.YtaepplhgeeaidaaDoor
end
