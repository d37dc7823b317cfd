/- For every input: at the landed commit the Go function waterwheellaw02.NumberRing returns true, and its arguments read behind the call as before. No condition. The call is reckoned with arguments that are not known. -/
import Derived.Test.YtblddomiecjhiaaRows
import Derived.Test.YtblddomiecjhiaaEvTr
import Derived.Test.YtblddomiecjhiaaGrL
import Derived.ShutString
import Derived.ProofKit
import Derived.OpenShut
import Derived.ChangeOld
import Derived.Lib.SmallJoins
namespace Go.Proofs.Ytblddomiecjhiaa.numberRing
open Go.ChangeShapes Go.WideShapes Go.ChangeAt Go.RowKit Go.Deep Go.Joins
set_option linter.unusedVariables false

theorem own : ownKnob Try.prog.godebug = none := by kernel_rfl
theorem laidOut : laidOutB Try.prog = true := by kernel_rfl
theorem mixed : Try.prog.follows .mixedOrders = true := by kernel_rfl

theorem e0 : Ev.ExtIs Try.prog 55 .add64 := ⟨_, Try.func55, by kernel_rfl, rfl, by kernel_rfl, by kernel_rfl⟩
theorem e1 : Ev.ExtIs Try.prog 54 .sub64 := ⟨_, Try.func54, by kernel_rfl, rfl, by kernel_rfl, by kernel_rfl⟩

def ptys : List TypeId := [26, 26, 26]

/-! What is not known: three values; what Check and do tell of them. -/
noncomputable def U (k : Nat) (l : List Value) : Option Value :=
  match k, l with
  | 0, [.int .i64 a, .bool ao] => some (.int .i64 (chkZ a ao))
  | 1, [.int .i64 op, .int .i64 a, .bool ao, .int .i64 b, .bool bo] => some (.int .i64 (doN op a ao b bo))
  | 2, [.int .i64 op, .int .i64 a, .bool ao, .int .i64 b, .bool bo] => some (.bool (doB op a ao b bo))
  | _, _ => none
def A : List Value := [Ev.unk 6 0, Ev.unk 1 1]
def B : List Value := [Ev.unk 6 2, Ev.unk 1 3]
def C : List Value := [Ev.unk 6 4, Ev.unk 1 5]
def chk (x : List Value) : Value := Ev.sy 6 17 x
def okT (x : List Value) : Value := Ev.sy 1 1 [Ev.num 11, Ev.num 22, .bool true, chk x, .int .i64 0]
def D (op : Int) (x y : List Value) : List Value := [Ev.sy 6 18 (.int .i64 op :: (x ++ y)), Ev.sy 1 19 (.int .i64 op :: (x ++ y))]
def nn (x : List Value) : Value := x.getD 0 .nilIface
def ov (x : List Value) : Value := x.getD 1 .nilIface
def eqN (x y : List Value) : Value := Ev.sy 1 1 [Ev.num 11, Ev.num 2, .bool false, nn x, nn y]
def eqO (x y : List Value) : Value := Ev.sy 1 1 [Ev.num 11, Ev.num 4, .bool false, ov x, ov y]
def oks : List (Value × Bool) := [(okT A, true), (okT B, true), (okT C, true)]
def ap (x y : List Value) : List (List (Value × Bool)) := [oks ++ [(ov x, false), (ov y, false), (eqN x y, false)], oks ++ [(ov x, false), (ov y, false), (eqO x y, false)]]
def xd : List Value := D 3 A (D 1 B C)
def yd : List Value := D 1 (D 3 A B) (D 3 A C)
/-- What can't be. -/
def cls : List (List (Value × Bool)) := ap (D 1 (D 1 A B) C) (D 1 A (D 1 B C)) ++ ap (D 3 (D 3 A B) C) (D 3 A (D 3 B C)) ++ ap xd yd ++
  [oks ++ [(ov A, true), (ov xd, false)], oks ++ [(ov A, true), (ov yd, false)], oks ++ [(ov B, true), (ov xd, false)], oks ++ [(ov B, true), (ov yd, false)], oks ++ [(ov C, true), (ov xd, false)], oks ++ [(ov C, true), (ov yd, false)]]

/-! The contracts. -/
def isDo (x y : Value) : Bool := match x, y with
  | .func (.methodOf 18 _) l _, .func (.methodOf 19 _) l' _ => Ev.lEq (Ev.vEq 60) l.toList l'.toList
  | _, _ => false
noncomputable def fine (q : List (Value × Bool)) (x y : Value) : Bool := (Ev.symOf 6 x && Ev.symOf 1 y) && ((match Ev.lookS (okT [x, y]) q with | some b => b | none => false) || isDo x y)
def checkO : Ev.OrcF := fun args hp => match args with
  | [.agg ⟨[x, y]⟩] => match Ev.symOf 6 x && Ev.symOf 1 y with
    | true => some [(.ret (chk [x, y]), hp)]
    | false => none
  | _ => none
noncomputable def doO (q : List (Value × Bool)) : Ev.OrcF := fun args hp => match args with
  | [.int .i64 op, .agg ⟨[x, y]⟩, .agg ⟨[z, t]⟩] => match (Ev.intEq op 1 || Ev.intEq op 3) && (fine q x y && fine q z t) with
    | true => some [(.ret (.agg ⟨D op [x, y] [z, t]⟩), hp)]
    | false => none
  | _ => none

theorem sw_ok {a : Int} (h : SW a) : Ev.tyOk 6 (.int .i64 a) = true := by
  unfold SW at h
  simp [Ev.tyOk, Ev.kindCode, IntKind.min, IntKind.max, IntKind.bits, IntKind.signed]; omega
theorem chk_ok (a : Int) (ao : Bool) : Ev.tyOk 6 (.int .i64 (chkZ a ao)) = true := by
  rcases chkZ_02 a ao with h | h <;> rw [h] <;> rfl

section
variable {cx : Ev.Cx} {m : Ev.Emb} (hU : cx.U = U) (aok : Ev.AsOk cx m)
include hU aok
theorem user (k : Nat) (l : List Value) : m.u (k + 16) l = U k l := by rw [aok.user, hU]

theorem chk_rv {x y : Value} {a : Int} {ao : Bool} (hx : Ev.RV m x (.int .i64 a)) (hy : Ev.RV m y (.bool ao)) (sx : Ev.isSym x = true) (sy : Ev.isSym y = true) : Ev.RV m (chk [x, y]) (.int .i64 (chkZ a ao)) := by
  refine Ev.RV.app (k := 16) (l' := [.int .i64 a, .bool ao]) (.cons hx (.cons hy (.nil m))) (by simp [Ev.symFlat, sx, sy]) ?_ (chk_ok a ao)
  rw [show (16 : Nat) = 0 + 16 from rfl, user hU aok]
  rfl

theorem okT_rv {x y : Value} {a : Int} {ao : Bool} (hx : Ev.RV m x (.int .i64 a)) (hy : Ev.RV m y (.bool ao)) (sx : Ev.isSym x = true) (sy : Ev.isSym y = true) : Ev.RV m (okT [x, y]) (.bool (chkZ a ao == 0)) := by
  refine Ev.RV.app (k := 0) (l' := [Ev.num 11, Ev.num 22, .bool true, .int .i64 (chkZ a ao), .int .i64 0]) (.cons (.flat _ rfl) (.cons (.flat _ rfl) (.cons (.flat _ rfl) (.cons (chk_rv hU aok hx hy sx sy) (.cons (.flat _ rfl) (.nil m)))))) rfl ?_ rfl
  rw [aok.ops 0 _ (by omega)]
  rfl

/-- What may be reckoned with: a number in its range, and no wrong value. -/
theorem fine_ok {x y x' y' : Value} (h : fine cx.as x y = true) (hx : Ev.RV m x x') (hy : Ev.RV m y y') : ∃ a ao, x' = .int .i64 a ∧ y' = .bool ao ∧ SW a ∧ chkZ a ao = 0 := by
  unfold fine at h
  rw [Bool.and_eq_true, Bool.and_eq_true, Bool.or_eq_true] at h
  obtain ⟨⟨h1, h2⟩, h3⟩ := h
  obtain ⟨a, rfl, ha⟩ := Ev.symOf_i64 h1 hx
  obtain ⟨ao, rfl⟩ := Ev.symOf_bool h2 hy
  refine ⟨a, ao, rfl, rfl, ha, ?_⟩
  rcases h3 with h3 | h3
  · split at h3
    · rename_i b hb
      subst h3
      obtain ⟨⟨d, hd⟩, ht⟩ := (okT_rv hU aok hx hy (Ev.symOf_sym h1) (Ev.symOf_sym h2)).sym_iff rfl
      have := aok.as _ _ (Ev.lookS_mem hb) rfl d _ hd ht
      injection this with this
      simpa using this
    · cases h3
  · unfold isDo at h3
    split at h3
    · rename_i n1 l1 y1 n2 l2 y2
      obtain ⟨l1⟩ := l1
      obtain ⟨l2⟩ := l2
      obtain rfl : l1 = l2 := Ev.lEq_ok (Ev.vEq_ok 60) _ _ h3
      obtain ⟨⟨d, hd⟩, -⟩ := hx.sym_iff rfl
      obtain ⟨⟨d', hd'⟩, -⟩ := hy.sym_iff rfl
      obtain ⟨e, l, -, k1, k2⟩ := Ev.den_app hd
      obtain ⟨e', l', -, k1', k2'⟩ := Ev.den_app hd'
      obtain rfl := Ev.mapO_two k1 k1'
      rw [show (17 : Nat) = 1 + 16 from rfl, user hU aok] at k2
      rw [show (18 : Nat) = 2 + 16 from rfl, user hU aok] at k2'
      unfold U at k2
      split at k2
      · exfalso; omega
      · cases k2; cases k2'; exact do_chk _ _ _ _ _
      · exfalso; omega
      · cases k2
    · cases h3

theorem do_rv {op : Int} {x y z t : Value} {a b : Int} {ao bo : Bool} (hx : Ev.RV m x (.int .i64 a)) (hy : Ev.RV m y (.bool ao)) (hz : Ev.RV m z (.int .i64 b)) (ht : Ev.RV m t (.bool bo))
    (sx : Ev.isSym x = true) (sy : Ev.isSym y = true) (sz : Ev.isSym z = true) (st : Ev.isSym t = true) :
    Ev.RV m (.agg ⟨D op [x, y] [z, t]⟩) (.agg ⟨[.int .i64 (doN op a ao b bo), .bool (doB op a ao b bo)]⟩) := by
  have hl : Ev.RVs m [.int .i64 op, x, y, z, t] [.int .i64 op, .int .i64 a, .bool ao, .int .i64 b, .bool bo] := .cons (.flat _ rfl) (.cons hx (.cons hy (.cons hz (.cons ht (.nil m)))))
  have hf : [Value.int .i64 op, x, y, z, t].all Ev.symFlat = true := by simp [Ev.symFlat, sx, sy, sz, st, Ev.flat]
  have r1 : Ev.RV m (Ev.sy 6 18 [.int .i64 op, x, y, z, t]) (.int .i64 (doN op a ao b bo)) := by
    refine Ev.RV.app (k := 17) hl hf ?_ (sw_ok (do_sw _ _ _ _ _))
    rw [show (17 : Nat) = 1 + 16 from rfl, user hU aok]
    rfl
  have r2 : Ev.RV m (Ev.sy 1 19 [.int .i64 op, x, y, z, t]) (.bool (doB op a ao b bo)) := by
    refine Ev.RV.app (k := 18) hl hf ?_ rfl
    rw [show (18 : Nat) = 2 + 16 from rfl, user hU aok]
    rfl
  have := Ev.RVs.cons r1 (Ev.RVs.cons r2 (Ev.RVs.nil m))
  exact .agg _ _ this.1 this.2
end

theorem check_is (ex : List (FuncId × Ev.ExtK)) (q : List (Value × Bool)) : Ev.OrcIs Try.prog (Ev.cxOf Try.prog ex [] [] [] q U) 14 checkO := by
  refine Ev.orc_sym (Ev.enter_of Try.func14 (by kernel_rfl) (by kernel_rfl)) (fun args hp l h => ?_) (fun args hp v h m args' w aok hargs => ?_)
  · unfold checkO at h
    split at h
    · split at h
      · injection h with h; exact ⟨_, h.symm⟩
      · cases h
    · cases h
  · unfold checkO at h
    split at h
    · rename_i x y
      split at h
      · rename_i hs
        rw [Bool.and_eq_true] at hs
        injection h with h
        injection h with h
        injection h with h
        injection h with h
        subst h
        obtain ⟨p, t1, rfl, h1, h2⟩ := hargs.head
        obtain rfl := h2.nil_left
        obtain ⟨xs, rfl, g1⟩ := h1.agg_iff
        obtain ⟨x', t2, rfl, k1, k2⟩ := g1.head
        obtain ⟨y', t3, rfl, k3, k4⟩ := k2.head
        obtain rfl := k4.nil_left
        obtain ⟨a, rfl, -⟩ := Ev.symOf_i64 hs.1 k1
        obtain ⟨ao, rfl⟩ := Ev.symOf_bool hs.2 k3
        exact ⟨_, chk_rv rfl aok k1 k3 (Ev.symOf_sym hs.1) (Ev.symOf_sym hs.2), check_any a ao w⟩
      · cases h
    · cases h

theorem do_is (ex : List (FuncId × Ev.ExtK)) (q : List (Value × Bool)) : Ev.OrcIs Try.prog (Ev.cxOf Try.prog ex [] [] [] q U) 38 (doO q) := by
  refine Ev.orc_sym (Ev.enter_of Try.func38 (by kernel_rfl) (by kernel_rfl)) (fun args hp l h => ?_) (fun args hp v h m args' w aok hargs => ?_)
  · unfold doO at h
    split at h
    · split at h
      · injection h with h; exact ⟨_, h.symm⟩
      · cases h
    · cases h
  · unfold doO at h
    split at h
    · rename_i op x y z t
      split at h
      · rename_i hs
        rw [Bool.and_eq_true, Bool.and_eq_true, Bool.or_eq_true] at hs
        obtain ⟨ho, f1, f2⟩ := hs
        injection h with h
        injection h with h
        injection h with h
        injection h with h
        subst h
        obtain ⟨p, t1, rfl, h1, h2⟩ := hargs.head
        obtain ⟨p2, t2, rfl, h3, h4⟩ := h2.head
        obtain ⟨p3, t3, rfl, h5, h6⟩ := h4.head
        obtain rfl := h6.nil_left
        obtain rfl := h1.flat_iff rfl
        obtain ⟨xs, rfl, g3⟩ := h3.agg_iff
        obtain ⟨x', t4, rfl, k1, k2⟩ := g3.head
        obtain ⟨y', t5, rfl, k3, k4⟩ := k2.head
        obtain rfl := k4.nil_left
        obtain ⟨ys, rfl, g5⟩ := h5.agg_iff
        obtain ⟨z', t6, rfl, k5, k6⟩ := g5.head
        obtain ⟨t', t7, rfl, k7, k8⟩ := k6.head
        obtain rfl := k8.nil_left
        obtain ⟨a, ao, rfl, rfl, sa, qa⟩ := fine_ok (cx := Ev.cxOf Try.prog ex [] [] [] q U) rfl aok f1 k1 k3
        obtain ⟨b, bo, rfl, rfl, sb, qb⟩ := fine_ok (cx := Ev.cxOf Try.prog ex [] [] [] q U) rfl aok f2 k5 k7
        have hop : op = 1 ∨ op = 3 := ho.imp (Ev.intEq_ok _ _) (Ev.intEq_ok _ _)
        have sy : ∀ u v, fine q u v = true → Ev.isSym u = true ∧ Ev.isSym v = true := fun u v h => by
          unfold fine at h
          rw [Bool.and_eq_true, Bool.and_eq_true] at h
          exact ⟨Ev.symOf_sym h.1.1, Ev.symOf_sym h.1.2⟩
        exact ⟨_, do_rv rfl aok k1 k3 k5 k7 (sy _ _ f1).1 (sy _ _ f1).2 (sy _ _ f2).1 (sy _ _ f2).2, ldo_any op a ao b bo w sa sb (by omega) (by omega) qa qb⟩
      · cases h
    · cases h

theorem reckoned_lives : Ev.tells true (Ev.evFn (Ev.cxOf Try.prog [(55, .add64), (54, .sub64)] [] [] []) 100000 60 (.fn 13) [] ⟨.nil, 100, 100⟩) = true := by decide +kernel
noncomputable def orcs (q : List (Value × Bool)) : List (FuncId × Ev.OrcF) := [(13, Ev.trueO), (14, checkO), (38, doO q)]
theorem ext (q : List (Value × Bool)) : Ev.ExtOk Try.prog (Ev.cxOf Try.prog [(55, .add64), (54, .sub64)] [] [] (orcs q) q U) :=
  Ev.orc_cons (Ev.trueO_is (Ev.enter_of Try.func13 (by kernel_rfl) (by kernel_rfl)) (Ev.ext_cons e0 (Ev.ext_cons e1 (Ev.ext_nil _ [] []))) mixed reckoned_lives) (Ev.orc_cons (check_is _ q) (Ev.orc_cons (do_is _ q) (Ev.ext_cons e0 (Ev.ext_cons e1 (Ev.ext_nil _ [] q U)))))

/-! The ways. -/
def t0 : Value := (Ev.sy 1 1 [(.int .u64 (11)), (.int .u64 (22)), (.bool true), (Ev.sy 6 17 [(Ev.sy 6 0 [(.int .u64 (0))]), (Ev.sy 1 0 [(.int .u64 (1))])]), (.int .i64 (0))])
def t1 : Value := (Ev.sy 1 1 [(.int .u64 (11)), (.int .u64 (22)), (.bool true), (Ev.sy 6 17 [(Ev.sy 6 0 [(.int .u64 (2))]), (Ev.sy 1 0 [(.int .u64 (3))])]), (.int .i64 (0))])
def t2 : Value := (Ev.sy 1 1 [(.int .u64 (11)), (.int .u64 (22)), (.bool true), (Ev.sy 6 17 [(Ev.sy 6 0 [(.int .u64 (4))]), (Ev.sy 1 0 [(.int .u64 (5))])]), (.int .i64 (0))])
def t3 : Value := (Ev.sy 1 19 [(.int .i64 (1)), (Ev.sy 6 18 [(.int .i64 (1)), (Ev.sy 6 0 [(.int .u64 (0))]), (Ev.sy 1 0 [(.int .u64 (1))]), (Ev.sy 6 0 [(.int .u64 (2))]), (Ev.sy 1 0 [(.int .u64 (3))])]), (Ev.sy 1 19 [(.int .i64 (1)), (Ev.sy 6 0 [(.int .u64 (0))]), (Ev.sy 1 0 [(.int .u64 (1))]), (Ev.sy 6 0 [(.int .u64 (2))]), (Ev.sy 1 0 [(.int .u64 (3))])]), (Ev.sy 6 0 [(.int .u64 (4))]), (Ev.sy 1 0 [(.int .u64 (5))])])
def t4 : Value := (Ev.sy 1 19 [(.int .i64 (3)), (Ev.sy 6 18 [(.int .i64 (3)), (Ev.sy 6 0 [(.int .u64 (0))]), (Ev.sy 1 0 [(.int .u64 (1))]), (Ev.sy 6 0 [(.int .u64 (2))]), (Ev.sy 1 0 [(.int .u64 (3))])]), (Ev.sy 1 19 [(.int .i64 (3)), (Ev.sy 6 0 [(.int .u64 (0))]), (Ev.sy 1 0 [(.int .u64 (1))]), (Ev.sy 6 0 [(.int .u64 (2))]), (Ev.sy 1 0 [(.int .u64 (3))])]), (Ev.sy 6 0 [(.int .u64 (4))]), (Ev.sy 1 0 [(.int .u64 (5))])])
def t5 : Value := (Ev.sy 1 19 [(.int .i64 (3)), (Ev.sy 6 0 [(.int .u64 (0))]), (Ev.sy 1 0 [(.int .u64 (1))]), (Ev.sy 6 18 [(.int .i64 (1)), (Ev.sy 6 0 [(.int .u64 (2))]), (Ev.sy 1 0 [(.int .u64 (3))]), (Ev.sy 6 0 [(.int .u64 (4))]), (Ev.sy 1 0 [(.int .u64 (5))])]), (Ev.sy 1 19 [(.int .i64 (1)), (Ev.sy 6 0 [(.int .u64 (2))]), (Ev.sy 1 0 [(.int .u64 (3))]), (Ev.sy 6 0 [(.int .u64 (4))]), (Ev.sy 1 0 [(.int .u64 (5))])])])
def t6 : Value := (Ev.sy 1 0 [(.int .u64 (1))])
def t7 : Value := (Ev.sy 1 19 [(.int .i64 (1)), (Ev.sy 6 18 [(.int .i64 (3)), (Ev.sy 6 0 [(.int .u64 (0))]), (Ev.sy 1 0 [(.int .u64 (1))]), (Ev.sy 6 0 [(.int .u64 (2))]), (Ev.sy 1 0 [(.int .u64 (3))])]), (Ev.sy 1 19 [(.int .i64 (3)), (Ev.sy 6 0 [(.int .u64 (0))]), (Ev.sy 1 0 [(.int .u64 (1))]), (Ev.sy 6 0 [(.int .u64 (2))]), (Ev.sy 1 0 [(.int .u64 (3))])]), (Ev.sy 6 18 [(.int .i64 (3)), (Ev.sy 6 0 [(.int .u64 (0))]), (Ev.sy 1 0 [(.int .u64 (1))]), (Ev.sy 6 0 [(.int .u64 (4))]), (Ev.sy 1 0 [(.int .u64 (5))])]), (Ev.sy 1 19 [(.int .i64 (3)), (Ev.sy 6 0 [(.int .u64 (0))]), (Ev.sy 1 0 [(.int .u64 (1))]), (Ev.sy 6 0 [(.int .u64 (4))]), (Ev.sy 1 0 [(.int .u64 (5))])])])
def t8 : Value := (Ev.sy 1 0 [(.int .u64 (3))])
def t9 : Value := (Ev.sy 1 0 [(.int .u64 (5))])
def t10 : Value := (Ev.sy 1 1 [(.int .u64 (11)), (.int .u64 (2)), (.bool false), (Ev.sy 6 18 [(.int .i64 (3)), (Ev.sy 6 0 [(.int .u64 (0))]), (Ev.sy 1 0 [(.int .u64 (1))]), (Ev.sy 6 18 [(.int .i64 (1)), (Ev.sy 6 0 [(.int .u64 (2))]), (Ev.sy 1 0 [(.int .u64 (3))]), (Ev.sy 6 0 [(.int .u64 (4))]), (Ev.sy 1 0 [(.int .u64 (5))])]), (Ev.sy 1 19 [(.int .i64 (1)), (Ev.sy 6 0 [(.int .u64 (2))]), (Ev.sy 1 0 [(.int .u64 (3))]), (Ev.sy 6 0 [(.int .u64 (4))]), (Ev.sy 1 0 [(.int .u64 (5))])])]), (Ev.sy 6 18 [(.int .i64 (1)), (Ev.sy 6 18 [(.int .i64 (3)), (Ev.sy 6 0 [(.int .u64 (0))]), (Ev.sy 1 0 [(.int .u64 (1))]), (Ev.sy 6 0 [(.int .u64 (2))]), (Ev.sy 1 0 [(.int .u64 (3))])]), (Ev.sy 1 19 [(.int .i64 (3)), (Ev.sy 6 0 [(.int .u64 (0))]), (Ev.sy 1 0 [(.int .u64 (1))]), (Ev.sy 6 0 [(.int .u64 (2))]), (Ev.sy 1 0 [(.int .u64 (3))])]), (Ev.sy 6 18 [(.int .i64 (3)), (Ev.sy 6 0 [(.int .u64 (0))]), (Ev.sy 1 0 [(.int .u64 (1))]), (Ev.sy 6 0 [(.int .u64 (4))]), (Ev.sy 1 0 [(.int .u64 (5))])]), (Ev.sy 1 19 [(.int .i64 (3)), (Ev.sy 6 0 [(.int .u64 (0))]), (Ev.sy 1 0 [(.int .u64 (1))]), (Ev.sy 6 0 [(.int .u64 (4))]), (Ev.sy 1 0 [(.int .u64 (5))])])])])
def t11 : Value := (Ev.sy 1 1 [(.int .u64 (11)), (.int .u64 (4)), (.bool false), (Ev.sy 1 19 [(.int .i64 (3)), (Ev.sy 6 0 [(.int .u64 (0))]), (Ev.sy 1 0 [(.int .u64 (1))]), (Ev.sy 6 18 [(.int .i64 (1)), (Ev.sy 6 0 [(.int .u64 (2))]), (Ev.sy 1 0 [(.int .u64 (3))]), (Ev.sy 6 0 [(.int .u64 (4))]), (Ev.sy 1 0 [(.int .u64 (5))])]), (Ev.sy 1 19 [(.int .i64 (1)), (Ev.sy 6 0 [(.int .u64 (2))]), (Ev.sy 1 0 [(.int .u64 (3))]), (Ev.sy 6 0 [(.int .u64 (4))]), (Ev.sy 1 0 [(.int .u64 (5))])])]), (Ev.sy 1 19 [(.int .i64 (1)), (Ev.sy 6 18 [(.int .i64 (3)), (Ev.sy 6 0 [(.int .u64 (0))]), (Ev.sy 1 0 [(.int .u64 (1))]), (Ev.sy 6 0 [(.int .u64 (2))]), (Ev.sy 1 0 [(.int .u64 (3))])]), (Ev.sy 1 19 [(.int .i64 (3)), (Ev.sy 6 0 [(.int .u64 (0))]), (Ev.sy 1 0 [(.int .u64 (1))]), (Ev.sy 6 0 [(.int .u64 (2))]), (Ev.sy 1 0 [(.int .u64 (3))])]), (Ev.sy 6 18 [(.int .i64 (3)), (Ev.sy 6 0 [(.int .u64 (0))]), (Ev.sy 1 0 [(.int .u64 (1))]), (Ev.sy 6 0 [(.int .u64 (4))]), (Ev.sy 1 0 [(.int .u64 (5))])]), (Ev.sy 1 19 [(.int .i64 (3)), (Ev.sy 6 0 [(.int .u64 (0))]), (Ev.sy 1 0 [(.int .u64 (1))]), (Ev.sy 6 0 [(.int .u64 (4))]), (Ev.sy 1 0 [(.int .u64 (5))])])])])
def t12 : Value := (Ev.sy 1 19 [(.int .i64 (3)), (Ev.sy 6 0 [(.int .u64 (0))]), (Ev.sy 1 0 [(.int .u64 (1))]), (Ev.sy 6 18 [(.int .i64 (3)), (Ev.sy 6 0 [(.int .u64 (2))]), (Ev.sy 1 0 [(.int .u64 (3))]), (Ev.sy 6 0 [(.int .u64 (4))]), (Ev.sy 1 0 [(.int .u64 (5))])]), (Ev.sy 1 19 [(.int .i64 (3)), (Ev.sy 6 0 [(.int .u64 (2))]), (Ev.sy 1 0 [(.int .u64 (3))]), (Ev.sy 6 0 [(.int .u64 (4))]), (Ev.sy 1 0 [(.int .u64 (5))])])])
def t13 : Value := (Ev.sy 1 1 [(.int .u64 (11)), (.int .u64 (2)), (.bool false), (Ev.sy 6 18 [(.int .i64 (3)), (Ev.sy 6 18 [(.int .i64 (3)), (Ev.sy 6 0 [(.int .u64 (0))]), (Ev.sy 1 0 [(.int .u64 (1))]), (Ev.sy 6 0 [(.int .u64 (2))]), (Ev.sy 1 0 [(.int .u64 (3))])]), (Ev.sy 1 19 [(.int .i64 (3)), (Ev.sy 6 0 [(.int .u64 (0))]), (Ev.sy 1 0 [(.int .u64 (1))]), (Ev.sy 6 0 [(.int .u64 (2))]), (Ev.sy 1 0 [(.int .u64 (3))])]), (Ev.sy 6 0 [(.int .u64 (4))]), (Ev.sy 1 0 [(.int .u64 (5))])]), (Ev.sy 6 18 [(.int .i64 (3)), (Ev.sy 6 0 [(.int .u64 (0))]), (Ev.sy 1 0 [(.int .u64 (1))]), (Ev.sy 6 18 [(.int .i64 (3)), (Ev.sy 6 0 [(.int .u64 (2))]), (Ev.sy 1 0 [(.int .u64 (3))]), (Ev.sy 6 0 [(.int .u64 (4))]), (Ev.sy 1 0 [(.int .u64 (5))])]), (Ev.sy 1 19 [(.int .i64 (3)), (Ev.sy 6 0 [(.int .u64 (2))]), (Ev.sy 1 0 [(.int .u64 (3))]), (Ev.sy 6 0 [(.int .u64 (4))]), (Ev.sy 1 0 [(.int .u64 (5))])])])])
def t14 : Value := (Ev.sy 1 1 [(.int .u64 (11)), (.int .u64 (4)), (.bool false), (Ev.sy 1 19 [(.int .i64 (3)), (Ev.sy 6 18 [(.int .i64 (3)), (Ev.sy 6 0 [(.int .u64 (0))]), (Ev.sy 1 0 [(.int .u64 (1))]), (Ev.sy 6 0 [(.int .u64 (2))]), (Ev.sy 1 0 [(.int .u64 (3))])]), (Ev.sy 1 19 [(.int .i64 (3)), (Ev.sy 6 0 [(.int .u64 (0))]), (Ev.sy 1 0 [(.int .u64 (1))]), (Ev.sy 6 0 [(.int .u64 (2))]), (Ev.sy 1 0 [(.int .u64 (3))])]), (Ev.sy 6 0 [(.int .u64 (4))]), (Ev.sy 1 0 [(.int .u64 (5))])]), (Ev.sy 1 19 [(.int .i64 (3)), (Ev.sy 6 0 [(.int .u64 (0))]), (Ev.sy 1 0 [(.int .u64 (1))]), (Ev.sy 6 18 [(.int .i64 (3)), (Ev.sy 6 0 [(.int .u64 (2))]), (Ev.sy 1 0 [(.int .u64 (3))]), (Ev.sy 6 0 [(.int .u64 (4))]), (Ev.sy 1 0 [(.int .u64 (5))])]), (Ev.sy 1 19 [(.int .i64 (3)), (Ev.sy 6 0 [(.int .u64 (2))]), (Ev.sy 1 0 [(.int .u64 (3))]), (Ev.sy 6 0 [(.int .u64 (4))]), (Ev.sy 1 0 [(.int .u64 (5))])])])])
def t15 : Value := (Ev.sy 1 19 [(.int .i64 (1)), (Ev.sy 6 0 [(.int .u64 (0))]), (Ev.sy 1 0 [(.int .u64 (1))]), (Ev.sy 6 18 [(.int .i64 (1)), (Ev.sy 6 0 [(.int .u64 (2))]), (Ev.sy 1 0 [(.int .u64 (3))]), (Ev.sy 6 0 [(.int .u64 (4))]), (Ev.sy 1 0 [(.int .u64 (5))])]), (Ev.sy 1 19 [(.int .i64 (1)), (Ev.sy 6 0 [(.int .u64 (2))]), (Ev.sy 1 0 [(.int .u64 (3))]), (Ev.sy 6 0 [(.int .u64 (4))]), (Ev.sy 1 0 [(.int .u64 (5))])])])
def t16 : Value := (Ev.sy 1 1 [(.int .u64 (11)), (.int .u64 (2)), (.bool false), (Ev.sy 6 18 [(.int .i64 (1)), (Ev.sy 6 18 [(.int .i64 (1)), (Ev.sy 6 0 [(.int .u64 (0))]), (Ev.sy 1 0 [(.int .u64 (1))]), (Ev.sy 6 0 [(.int .u64 (2))]), (Ev.sy 1 0 [(.int .u64 (3))])]), (Ev.sy 1 19 [(.int .i64 (1)), (Ev.sy 6 0 [(.int .u64 (0))]), (Ev.sy 1 0 [(.int .u64 (1))]), (Ev.sy 6 0 [(.int .u64 (2))]), (Ev.sy 1 0 [(.int .u64 (3))])]), (Ev.sy 6 0 [(.int .u64 (4))]), (Ev.sy 1 0 [(.int .u64 (5))])]), (Ev.sy 6 18 [(.int .i64 (1)), (Ev.sy 6 0 [(.int .u64 (0))]), (Ev.sy 1 0 [(.int .u64 (1))]), (Ev.sy 6 18 [(.int .i64 (1)), (Ev.sy 6 0 [(.int .u64 (2))]), (Ev.sy 1 0 [(.int .u64 (3))]), (Ev.sy 6 0 [(.int .u64 (4))]), (Ev.sy 1 0 [(.int .u64 (5))])]), (Ev.sy 1 19 [(.int .i64 (1)), (Ev.sy 6 0 [(.int .u64 (2))]), (Ev.sy 1 0 [(.int .u64 (3))]), (Ev.sy 6 0 [(.int .u64 (4))]), (Ev.sy 1 0 [(.int .u64 (5))])])])])
def t17 : Value := (Ev.sy 1 1 [(.int .u64 (11)), (.int .u64 (4)), (.bool false), (Ev.sy 1 19 [(.int .i64 (1)), (Ev.sy 6 18 [(.int .i64 (1)), (Ev.sy 6 0 [(.int .u64 (0))]), (Ev.sy 1 0 [(.int .u64 (1))]), (Ev.sy 6 0 [(.int .u64 (2))]), (Ev.sy 1 0 [(.int .u64 (3))])]), (Ev.sy 1 19 [(.int .i64 (1)), (Ev.sy 6 0 [(.int .u64 (0))]), (Ev.sy 1 0 [(.int .u64 (1))]), (Ev.sy 6 0 [(.int .u64 (2))]), (Ev.sy 1 0 [(.int .u64 (3))])]), (Ev.sy 6 0 [(.int .u64 (4))]), (Ev.sy 1 0 [(.int .u64 (5))])]), (Ev.sy 1 19 [(.int .i64 (1)), (Ev.sy 6 0 [(.int .u64 (0))]), (Ev.sy 1 0 [(.int .u64 (1))]), (Ev.sy 6 18 [(.int .i64 (1)), (Ev.sy 6 0 [(.int .u64 (2))]), (Ev.sy 1 0 [(.int .u64 (3))]), (Ev.sy 6 0 [(.int .u64 (4))]), (Ev.sy 1 0 [(.int .u64 (5))])]), (Ev.sy 1 19 [(.int .i64 (1)), (Ev.sy 6 0 [(.int .u64 (2))]), (Ev.sy 1 0 [(.int .u64 (3))]), (Ev.sy 6 0 [(.int .u64 (4))]), (Ev.sy 1 0 [(.int .u64 (5))])])])])
def tree : Ev.PT := (.node t0 (.node t1 (.node t2 (.node t3 (.node t4 (.node t5 (.node t6 (.node t7 .leaf (.dead 7)) (.node t8 (.node t7 .leaf (.dead 9)) (.node t9 (.node t7 .leaf (.dead 11)) .leaf))) (.node t7 (.node t6 (.dead 6) (.node t8 (.dead 8) (.node t9 (.dead 10) .leaf))) (.node t10 (.node t11 (.node t6 (.dead 6) (.node t8 (.dead 8) (.node t9 (.dead 10) .leaf))) (.dead 5)) (.dead 4)))) (.node t12 (.node t5 (.node t6 (.node t7 .leaf (.dead 7)) (.node t8 (.node t7 .leaf (.dead 9)) (.node t9 (.node t7 .leaf (.dead 11)) .leaf))) (.node t7 (.node t6 (.dead 6) (.node t8 (.dead 8) (.node t9 (.dead 10) .leaf))) (.node t10 (.node t11 (.node t6 (.dead 6) (.node t8 (.dead 8) (.node t9 (.dead 10) .leaf))) (.dead 5)) (.dead 4)))) (.node t13 (.node t14 (.node t5 (.node t6 (.node t7 .leaf (.dead 7)) (.node t8 (.node t7 .leaf (.dead 9)) (.node t9 (.node t7 .leaf (.dead 11)) .leaf))) (.node t7 (.node t6 (.dead 6) (.node t8 (.dead 8) (.node t9 (.dead 10) .leaf))) (.node t10 (.node t11 (.node t6 (.dead 6) (.node t8 (.dead 8) (.node t9 (.dead 10) .leaf))) (.dead 5)) (.dead 4)))) (.dead 3)) (.dead 2)))) (.node t15 (.node t4 (.node t5 (.node t6 (.node t7 .leaf (.dead 7)) (.node t8 (.node t7 .leaf (.dead 9)) (.node t9 (.node t7 .leaf (.dead 11)) .leaf))) (.node t7 (.node t6 (.dead 6) (.node t8 (.dead 8) (.node t9 (.dead 10) .leaf))) (.node t10 (.node t11 (.node t6 (.dead 6) (.node t8 (.dead 8) (.node t9 (.dead 10) .leaf))) (.dead 5)) (.dead 4)))) (.node t12 (.node t5 (.node t6 (.node t7 .leaf (.dead 7)) (.node t8 (.node t7 .leaf (.dead 9)) (.node t9 (.node t7 .leaf (.dead 11)) .leaf))) (.node t7 (.node t6 (.dead 6) (.node t8 (.dead 8) (.node t9 (.dead 10) .leaf))) (.node t10 (.node t11 (.node t6 (.dead 6) (.node t8 (.dead 8) (.node t9 (.dead 10) .leaf))) (.dead 5)) (.dead 4)))) (.node t13 (.node t14 (.node t5 (.node t6 (.node t7 .leaf (.dead 7)) (.node t8 (.node t7 .leaf (.dead 9)) (.node t9 (.node t7 .leaf (.dead 11)) .leaf))) (.node t7 (.node t6 (.dead 6) (.node t8 (.dead 8) (.node t9 (.dead 10) .leaf))) (.node t10 (.node t11 (.node t6 (.dead 6) (.node t8 (.dead 8) (.node t9 (.dead 10) .leaf))) (.dead 5)) (.dead 4)))) (.dead 3)) (.dead 2)))) (.node t16 (.node t17 (.node t4 (.node t5 (.node t6 (.node t7 .leaf (.dead 7)) (.node t8 (.node t7 .leaf (.dead 9)) (.node t9 (.node t7 .leaf (.dead 11)) .leaf))) (.node t7 (.node t6 (.dead 6) (.node t8 (.dead 8) (.node t9 (.dead 10) .leaf))) (.node t10 (.node t11 (.node t6 (.dead 6) (.node t8 (.dead 8) (.node t9 (.dead 10) .leaf))) (.dead 5)) (.dead 4)))) (.node t12 (.node t5 (.node t6 (.node t7 .leaf (.dead 7)) (.node t8 (.node t7 .leaf (.dead 9)) (.node t9 (.node t7 .leaf (.dead 11)) .leaf))) (.node t7 (.node t6 (.dead 6) (.node t8 (.dead 8) (.node t9 (.dead 10) .leaf))) (.node t10 (.node t11 (.node t6 (.dead 6) (.node t8 (.dead 8) (.node t9 (.dead 10) .leaf))) (.dead 5)) (.dead 4)))) (.node t13 (.node t14 (.node t5 (.node t6 (.node t7 .leaf (.dead 7)) (.node t8 (.node t7 .leaf (.dead 9)) (.node t9 (.node t7 .leaf (.dead 11)) .leaf))) (.node t7 (.node t6 (.dead 6) (.node t8 (.dead 8) (.node t9 (.dead 10) .leaf))) (.node t10 (.node t11 (.node t6 (.dead 6) (.node t8 (.dead 8) (.node t9 (.dead 10) .leaf))) (.dead 5)) (.dead 4)))) (.dead 3)) (.dead 2)))) (.dead 1)) (.dead 0)))) .leaf) .leaf) .leaf)

theorem reckoned : Ev.walkT (fun q => Ev.tellsA (Ev.cxOf Try.prog [(55, .add64), (54, .sub64)] [] [] (orcs q) q U) true (Ev.evFn (Ev.cxOf Try.prog [(55, .add64), (54, .sub64)] [] [] (orcs q) q U) 100000 60 (.fn 8) (Ev.symArgs Try.prog ptys 0) ⟨.nil, 100, 100⟩)) cls tree [] = true := by decide +kernel

theorem syms : Ev.symArgs Try.prog ptys 0 = [.agg ⟨A⟩, .agg ⟨B⟩, .agg ⟨C⟩] := by kernel_rfl

/-- No clause holds. -/
noncomputable def sOf (a : Int) (ao : Bool) (b : Int) (bo : Bool) (c : Int) (co : Bool) (i : Nat) : Value := [Value.int .i64 a, .bool ao, .int .i64 b, .bool bo, .int .i64 c, .bool co].getD i undef
noncomputable def uC : Nat → List Value → Option Value := Ev.uOf (Ev.cxOf Try.prog [(55, .add64), (54, .sub64)] [] [] [] [] U)
section
variable {a b c : Int} {ao bo co : Bool}
theorem at_ {cl : List (Value × Bool)} (h : ∀ e b', (e, b') ∈ cl → Ev.Holds (sOf a ao b bo c co) uC e b') (k : Nat) (e : Value) (t r : Bool) (hk : cl[k]? = some (e, t))
    (hd : Ev.den (sOf a ao b bo c co) uC 9 e = some (.bool r)) : r = t := by
  have := h e t (List.mem_of_getElem? hk) 9 _ hd rfl
  injection this
theorem cl0 (h : ∀ e b', (e, b') ∈ oks ++ [(ov (D 1 (D 1 A B) C), false), (ov (D 1 A (D 1 B C)), false), (eqN (D 1 (D 1 A B) C) (D 1 A (D 1 B C)), false)] → Ev.Holds (sOf a ao b bo c co) uC e b') : False := by
  have qa : chkZ a ao = 0 := by simpa using at_ h 0 (okT A) true (chkZ a ao == 0) rfl (by kernel_rfl)
  have qb : chkZ b bo = 0 := by simpa using at_ h 1 (okT B) true (chkZ b bo == 0) rfl (by kernel_rfl)
  have qc : chkZ c co = 0 := by simpa using at_ h 2 (okT C) true (chkZ c co == 0) rfl (by kernel_rfl)
  have hx : doB 1 (doN 1 a ao b bo) (doB 1 a ao b bo) c co = false := at_ h 3 (ov (D 1 (D 1 A B) C)) false _ rfl (by kernel_rfl)
  have hy : doB 1 a ao (doN 1 b bo c co) (doB 1 b bo c co) = false := at_ h 4 (ov (D 1 A (D 1 B C))) false _ rfl (by kernel_rfl)
  have hn : (doN 1 (doN 1 a ao b bo) (doB 1 a ao b bo) c co == doN 1 a ao (doN 1 b bo c co) (doB 1 b bo c co)) = false := at_ h 5 (eqN (D 1 (D 1 A B) C) (D 1 A (D 1 B C))) false _ rfl (by kernel_rfl)
  rcases ring_assoc (op := 1) (by omega) qa qb qc with h1 | ⟨h1, h2⟩ | ⟨h1, h2, h3⟩
  · rw [h1] at hx; cases hx
  · rw [h2] at hy; cases hy
  · rw [h3] at hn; simp at hn
theorem cl1 (h : ∀ e b', (e, b') ∈ oks ++ [(ov (D 1 (D 1 A B) C), false), (ov (D 1 A (D 1 B C)), false), (eqO (D 1 (D 1 A B) C) (D 1 A (D 1 B C)), false)] → Ev.Holds (sOf a ao b bo c co) uC e b') : False := by
  have qa : chkZ a ao = 0 := by simpa using at_ h 0 (okT A) true (chkZ a ao == 0) rfl (by kernel_rfl)
  have qb : chkZ b bo = 0 := by simpa using at_ h 1 (okT B) true (chkZ b bo == 0) rfl (by kernel_rfl)
  have qc : chkZ c co = 0 := by simpa using at_ h 2 (okT C) true (chkZ c co == 0) rfl (by kernel_rfl)
  have hx : doB 1 (doN 1 a ao b bo) (doB 1 a ao b bo) c co = false := at_ h 3 (ov (D 1 (D 1 A B) C)) false _ rfl (by kernel_rfl)
  have hy : doB 1 a ao (doN 1 b bo c co) (doB 1 b bo c co) = false := at_ h 4 (ov (D 1 A (D 1 B C))) false _ rfl (by kernel_rfl)
  have hn : (doB 1 (doN 1 a ao b bo) (doB 1 a ao b bo) c co == doB 1 a ao (doN 1 b bo c co) (doB 1 b bo c co)) = false := at_ h 5 (eqO (D 1 (D 1 A B) C) (D 1 A (D 1 B C))) false _ rfl (by kernel_rfl)
  rw [hx, hy] at hn
  cases hn
theorem cl2 (h : ∀ e b', (e, b') ∈ oks ++ [(ov (D 3 (D 3 A B) C), false), (ov (D 3 A (D 3 B C)), false), (eqN (D 3 (D 3 A B) C) (D 3 A (D 3 B C)), false)] → Ev.Holds (sOf a ao b bo c co) uC e b') : False := by
  have qa : chkZ a ao = 0 := by simpa using at_ h 0 (okT A) true (chkZ a ao == 0) rfl (by kernel_rfl)
  have qb : chkZ b bo = 0 := by simpa using at_ h 1 (okT B) true (chkZ b bo == 0) rfl (by kernel_rfl)
  have qc : chkZ c co = 0 := by simpa using at_ h 2 (okT C) true (chkZ c co == 0) rfl (by kernel_rfl)
  have hx : doB 3 (doN 3 a ao b bo) (doB 3 a ao b bo) c co = false := at_ h 3 (ov (D 3 (D 3 A B) C)) false _ rfl (by kernel_rfl)
  have hy : doB 3 a ao (doN 3 b bo c co) (doB 3 b bo c co) = false := at_ h 4 (ov (D 3 A (D 3 B C))) false _ rfl (by kernel_rfl)
  have hn : (doN 3 (doN 3 a ao b bo) (doB 3 a ao b bo) c co == doN 3 a ao (doN 3 b bo c co) (doB 3 b bo c co)) = false := at_ h 5 (eqN (D 3 (D 3 A B) C) (D 3 A (D 3 B C))) false _ rfl (by kernel_rfl)
  rcases ring_assoc (op := 3) (by omega) qa qb qc with h1 | ⟨h1, h2⟩ | ⟨h1, h2, h3⟩
  · rw [h1] at hx; cases hx
  · rw [h2] at hy; cases hy
  · rw [h3] at hn; simp at hn
theorem cl3 (h : ∀ e b', (e, b') ∈ oks ++ [(ov (D 3 (D 3 A B) C), false), (ov (D 3 A (D 3 B C)), false), (eqO (D 3 (D 3 A B) C) (D 3 A (D 3 B C)), false)] → Ev.Holds (sOf a ao b bo c co) uC e b') : False := by
  have qa : chkZ a ao = 0 := by simpa using at_ h 0 (okT A) true (chkZ a ao == 0) rfl (by kernel_rfl)
  have qb : chkZ b bo = 0 := by simpa using at_ h 1 (okT B) true (chkZ b bo == 0) rfl (by kernel_rfl)
  have qc : chkZ c co = 0 := by simpa using at_ h 2 (okT C) true (chkZ c co == 0) rfl (by kernel_rfl)
  have hx : doB 3 (doN 3 a ao b bo) (doB 3 a ao b bo) c co = false := at_ h 3 (ov (D 3 (D 3 A B) C)) false _ rfl (by kernel_rfl)
  have hy : doB 3 a ao (doN 3 b bo c co) (doB 3 b bo c co) = false := at_ h 4 (ov (D 3 A (D 3 B C))) false _ rfl (by kernel_rfl)
  have hn : (doB 3 (doN 3 a ao b bo) (doB 3 a ao b bo) c co == doB 3 a ao (doN 3 b bo c co) (doB 3 b bo c co)) = false := at_ h 5 (eqO (D 3 (D 3 A B) C) (D 3 A (D 3 B C))) false _ rfl (by kernel_rfl)
  rw [hx, hy] at hn
  cases hn
theorem cl4 (h : ∀ e b', (e, b') ∈ oks ++ [(ov xd, false), (ov yd, false), (eqN xd yd, false)] → Ev.Holds (sOf a ao b bo c co) uC e b') : False := by
  have qa : chkZ a ao = 0 := by simpa using at_ h 0 (okT A) true (chkZ a ao == 0) rfl (by kernel_rfl)
  have qb : chkZ b bo = 0 := by simpa using at_ h 1 (okT B) true (chkZ b bo == 0) rfl (by kernel_rfl)
  have qc : chkZ c co = 0 := by simpa using at_ h 2 (okT C) true (chkZ c co == 0) rfl (by kernel_rfl)
  have hx : doB 3 a ao (doN 1 b bo c co) (doB 1 b bo c co) = false := at_ h 3 (ov xd) false _ rfl (by kernel_rfl)
  have hy : doB 1 (doN 3 a ao b bo) (doB 3 a ao b bo) (doN 3 a ao c co) (doB 3 a ao c co) = false := at_ h 4 (ov yd) false _ rfl (by kernel_rfl)
  have hn : (doN 3 a ao (doN 1 b bo c co) (doB 1 b bo c co) == doN 1 (doN 3 a ao b bo) (doB 3 a ao b bo) (doN 3 a ao c co) (doB 3 a ao c co)) = false := at_ h 5 (eqN xd yd) false _ rfl (by kernel_rfl)
  rcases ring_dist qa qb qc with h1 | ⟨h1, h2⟩ | ⟨h1, h2, h3⟩
  · rw [h1] at hx; cases hx
  · rw [h2] at hy; cases hy
  · rw [h3] at hn; simp at hn
theorem cl5 (h : ∀ e b', (e, b') ∈ oks ++ [(ov xd, false), (ov yd, false), (eqO xd yd, false)] → Ev.Holds (sOf a ao b bo c co) uC e b') : False := by
  have qa : chkZ a ao = 0 := by simpa using at_ h 0 (okT A) true (chkZ a ao == 0) rfl (by kernel_rfl)
  have qb : chkZ b bo = 0 := by simpa using at_ h 1 (okT B) true (chkZ b bo == 0) rfl (by kernel_rfl)
  have qc : chkZ c co = 0 := by simpa using at_ h 2 (okT C) true (chkZ c co == 0) rfl (by kernel_rfl)
  have hx : doB 3 a ao (doN 1 b bo c co) (doB 1 b bo c co) = false := at_ h 3 (ov xd) false _ rfl (by kernel_rfl)
  have hy : doB 1 (doN 3 a ao b bo) (doB 3 a ao b bo) (doN 3 a ao c co) (doB 3 a ao c co) = false := at_ h 4 (ov yd) false _ rfl (by kernel_rfl)
  have hn : (doB 3 a ao (doN 1 b bo c co) (doB 1 b bo c co) == doB 1 (doN 3 a ao b bo) (doB 3 a ao b bo) (doN 3 a ao c co) (doB 3 a ao c co)) = false := at_ h 5 (eqO xd yd) false _ rfl (by kernel_rfl)
  rw [hx, hy] at hn
  cases hn
theorem cl6 (h : ∀ e b', (e, b') ∈ oks ++ [(ov A, true), (ov xd, false)] → Ev.Holds (sOf a ao b bo c co) uC e b') : False := by
  have qa : chkZ a ao = 0 := by simpa using at_ h 0 (okT A) true (chkZ a ao == 0) rfl (by kernel_rfl)
  have qb : chkZ b bo = 0 := by simpa using at_ h 1 (okT B) true (chkZ b bo == 0) rfl (by kernel_rfl)
  have qc : chkZ c co = 0 := by simpa using at_ h 2 (okT C) true (chkZ c co == 0) rfl (by kernel_rfl)
  have hp : ao = true := at_ h 3 (ov A) true _ rfl (by kernel_rfl)
  have hx : doB 3 a ao (doN 1 b bo c co) (doB 1 b bo c co) = false := at_ h 4 (ov xd) false _ rfl (by kernel_rfl)
  rw [(ring_over qa qb qc (.inl hp)).1] at hx
  cases hx
theorem cl7 (h : ∀ e b', (e, b') ∈ oks ++ [(ov A, true), (ov yd, false)] → Ev.Holds (sOf a ao b bo c co) uC e b') : False := by
  have qa : chkZ a ao = 0 := by simpa using at_ h 0 (okT A) true (chkZ a ao == 0) rfl (by kernel_rfl)
  have qb : chkZ b bo = 0 := by simpa using at_ h 1 (okT B) true (chkZ b bo == 0) rfl (by kernel_rfl)
  have qc : chkZ c co = 0 := by simpa using at_ h 2 (okT C) true (chkZ c co == 0) rfl (by kernel_rfl)
  have hp : ao = true := at_ h 3 (ov A) true _ rfl (by kernel_rfl)
  have hx : doB 1 (doN 3 a ao b bo) (doB 3 a ao b bo) (doN 3 a ao c co) (doB 3 a ao c co) = false := at_ h 4 (ov yd) false _ rfl (by kernel_rfl)
  rw [(ring_over qa qb qc (.inl hp)).2] at hx
  cases hx
theorem cl8 (h : ∀ e b', (e, b') ∈ oks ++ [(ov B, true), (ov xd, false)] → Ev.Holds (sOf a ao b bo c co) uC e b') : False := by
  have qa : chkZ a ao = 0 := by simpa using at_ h 0 (okT A) true (chkZ a ao == 0) rfl (by kernel_rfl)
  have qb : chkZ b bo = 0 := by simpa using at_ h 1 (okT B) true (chkZ b bo == 0) rfl (by kernel_rfl)
  have qc : chkZ c co = 0 := by simpa using at_ h 2 (okT C) true (chkZ c co == 0) rfl (by kernel_rfl)
  have hp : bo = true := at_ h 3 (ov B) true _ rfl (by kernel_rfl)
  have hx : doB 3 a ao (doN 1 b bo c co) (doB 1 b bo c co) = false := at_ h 4 (ov xd) false _ rfl (by kernel_rfl)
  rw [(ring_over qa qb qc (.inr (.inl hp))).1] at hx
  cases hx
theorem cl9 (h : ∀ e b', (e, b') ∈ oks ++ [(ov B, true), (ov yd, false)] → Ev.Holds (sOf a ao b bo c co) uC e b') : False := by
  have qa : chkZ a ao = 0 := by simpa using at_ h 0 (okT A) true (chkZ a ao == 0) rfl (by kernel_rfl)
  have qb : chkZ b bo = 0 := by simpa using at_ h 1 (okT B) true (chkZ b bo == 0) rfl (by kernel_rfl)
  have qc : chkZ c co = 0 := by simpa using at_ h 2 (okT C) true (chkZ c co == 0) rfl (by kernel_rfl)
  have hp : bo = true := at_ h 3 (ov B) true _ rfl (by kernel_rfl)
  have hx : doB 1 (doN 3 a ao b bo) (doB 3 a ao b bo) (doN 3 a ao c co) (doB 3 a ao c co) = false := at_ h 4 (ov yd) false _ rfl (by kernel_rfl)
  rw [(ring_over qa qb qc (.inr (.inl hp))).2] at hx
  cases hx
theorem cl10 (h : ∀ e b', (e, b') ∈ oks ++ [(ov C, true), (ov xd, false)] → Ev.Holds (sOf a ao b bo c co) uC e b') : False := by
  have qa : chkZ a ao = 0 := by simpa using at_ h 0 (okT A) true (chkZ a ao == 0) rfl (by kernel_rfl)
  have qb : chkZ b bo = 0 := by simpa using at_ h 1 (okT B) true (chkZ b bo == 0) rfl (by kernel_rfl)
  have qc : chkZ c co = 0 := by simpa using at_ h 2 (okT C) true (chkZ c co == 0) rfl (by kernel_rfl)
  have hp : co = true := at_ h 3 (ov C) true _ rfl (by kernel_rfl)
  have hx : doB 3 a ao (doN 1 b bo c co) (doB 1 b bo c co) = false := at_ h 4 (ov xd) false _ rfl (by kernel_rfl)
  rw [(ring_over qa qb qc (.inr (.inr hp))).1] at hx
  cases hx
theorem cl11 (h : ∀ e b', (e, b') ∈ oks ++ [(ov C, true), (ov yd, false)] → Ev.Holds (sOf a ao b bo c co) uC e b') : False := by
  have qa : chkZ a ao = 0 := by simpa using at_ h 0 (okT A) true (chkZ a ao == 0) rfl (by kernel_rfl)
  have qb : chkZ b bo = 0 := by simpa using at_ h 1 (okT B) true (chkZ b bo == 0) rfl (by kernel_rfl)
  have qc : chkZ c co = 0 := by simpa using at_ h 2 (okT C) true (chkZ c co == 0) rfl (by kernel_rfl)
  have hp : co = true := at_ h 3 (ov C) true _ rfl (by kernel_rfl)
  have hx : doB 1 (doN 3 a ao b bo) (doB 3 a ao b bo) (doN 3 a ao c co) (doB 3 a ao c co) = false := at_ h 4 (ov yd) false _ rfl (by kernel_rfl)
  rw [(ring_over qa qb qc (.inr (.inr hp))).2] at hx
  cases hx
theorem shut : ∀ cl, cl ∈ cls → ¬ ∀ e b', (e, b') ∈ cl → Ev.Holds (sOf a ao b bo c co) uC e b' := by
  intro cl hcl
  simp only [cls, ap, List.mem_append, List.mem_cons, List.not_mem_nil, or_false, or_assoc] at hcl
  rcases hcl with rfl | rfl | rfl | rfl | rfl | rfl | rfl | rfl | rfl | rfl | rfl | rfl
  · exact cl0
  · exact cl1
  · exact cl2
  · exact cl3
  · exact cl4
  · exact cl5
  · exact cl6
  · exact cl7
  · exact cl8
  · exact cl9
  · exact cl10
  · exact cl11
end

theorem walk (w : World) (r : Reach) (b0 : Nat) (args : List Value) (hl : ptys.length = args.length)
    (hok : ∀ (j : Nat) t v, ptys[j]? = some t → args[j]? = some v → Value.okWide Try.prog w r b0 t v) :
    Calls Try.prog 8 ⟨args⟩ w fun e w' => e = .returned (.bool true) ∧ Below w.heap.size w w' := by
  obtain ⟨s, hs⟩ := Ev.sym_args (ts := ⟨ptys⟩) (by simpa using hl) (fun j t v a b => hok j t v (by simpa using a) b) uC
  have hs0 := hs
  rw [show (⟨ptys⟩ : Array TypeId).toList = ptys from rfl, syms] at hs
  obtain ⟨p1, t1, rfl, h1, r1⟩ := hs.head
  obtain ⟨p2, t2, rfl, h2, r2⟩ := r1.head
  obtain ⟨p3, t3, rfl, h3, r3⟩ := r2.head
  obtain rfl := r3.nil_left
  have op : ∀ {x y p : Value}, Ev.symOf 6 x = true → Ev.symOf 1 y = true → Ev.RV ⟨fun _ => none, s, uC⟩ (.agg ⟨[x, y]⟩) p → ∃ a ao, p = .agg ⟨[.int .i64 a, .bool ao]⟩ ∧ Ev.RV ⟨fun _ => none, s, uC⟩ x (.int .i64 a) ∧ Ev.RV ⟨fun _ => none, s, uC⟩ y (.bool ao) := by
    intro x y p hx hy h
    obtain ⟨xs, rfl, g⟩ := h.agg_iff
    obtain ⟨x', u1, rfl, k1, k2⟩ := g.head
    obtain ⟨y', u2, rfl, k3, k4⟩ := k2.head
    obtain rfl := k4.nil_left
    obtain ⟨a, rfl, -⟩ := Ev.symOf_i64 hx k1
    obtain ⟨ao, rfl⟩ := Ev.symOf_bool hy k3
    exact ⟨a, ao, rfl, k1, k3⟩
  obtain ⟨a, ao, rfl, a1, a2⟩ := op rfl rfl h1
  obtain ⟨b, bo, rfl, b1, b2⟩ := op rfl rfl h2
  obtain ⟨c, co, rfl, c1, c2⟩ := op rfl rfl h3
  have e := Ev.toldT (orc := orcs) (U := U) (cl := cls) ext mixed reckoned w (sOf a ao b bo c co) (args' := [.agg ⟨[.int .i64 a, .bool ao]⟩, .agg ⟨[.int .i64 b, .bool bo]⟩, .agg ⟨[.int .i64 c, .bool co]⟩]) ?_ shut (fun _ _ h => by cases h)
  · exact e
  · rw [syms]
    have ty := fun (x : Value) (i : Nat) (h : Ev.RV ⟨fun _ => none, s, uC⟩ (Ev.unk 6 i) x) => (Ev.given_iff h).2
    have g : ∀ t i v, Ev.tyOk t v = true → sOf a ao b bo c co i = v → Ev.RV ⟨fun _ => none, sOf a ao b bo c co, uC⟩ (Ev.unk t i) v := fun t i v ht hv => by
      subst hv; exact Ev.RV.given (m := ⟨fun _ => none, sOf a ao b bo c co, uC⟩) ht
    have two : ∀ {x y x' y' : Value}, Ev.RV ⟨fun _ => none, sOf a ao b bo c co, uC⟩ x x' → Ev.RV ⟨fun _ => none, sOf a ao b bo c co, uC⟩ y y' → Ev.RV ⟨fun _ => none, sOf a ao b bo c co, uC⟩ (.agg ⟨[x, y]⟩) (.agg ⟨[x', y']⟩) := fun hx hy => by
      have := Ev.RVs.cons hx (Ev.RVs.cons hy (Ev.RVs.nil _))
      exact .agg _ _ this.1 this.2
    exact .cons (two (g 6 0 _ (ty _ _ a1) rfl) (g 1 1 _ rfl rfl)) (.cons (two (g 6 2 _ (ty _ _ b1) rfl) (g 1 3 _ rfl rfl)) (.cons (two (g 6 4 _ (ty _ _ c1) rfl) (g 1 5 _ rfl rfl)) (.nil _)))

set_option maxRecDepth 100000 in
theorem lifted (os : Os) (started : os.Started) (H : Type) (enc : TypeId × Value → H) :
    ReturnsInHanded {} Try.checked os 8 .any (Rows.numberRingSpec.pre6 enc Try.prog Try.f8 Rows.numberRingRow.domain false) (Rows.numberRingSpec.post enc Try.prog Try.f8 false true false false) := by
  refine returnsInHanded_of_change (C := Try.checked) own started (by kernel_rfl) Try.func8
    (ChangeSpec.witness6 (enc := enc) (C := Try.checked) false ⟨#[], ⟨Ev.zeroArgs Try.prog ptys⟩, []⟩ 8 (by kernel_rfl) (by kernel_rfl) (by kernel_rfl) (by kernel_rfl)) ?_
  intro W base args ds gs before hval0 hW hcnd _
  have hval : ∀ (j : Nat) t v, Try.f8.params[j]? = some t → args[j]? = some v → Value.okWide Try.prog W .any base t v := hval0
  have hW' := hW
  obtain ⟨p, q, hA0, hV, rfl, hfz, hnd⟩ := hW
  have hA : DataW.TrodAll enc Try.prog W 0 (fun _ => true) true Try.f8.params.toList args.toList ds p := hA0
  rw [Try.params8] at hA hval
  obtain ⟨v0, vs0, d0, ds0, p0, q0, hargs, rfl, rfl, h0, r0⟩ := trodAll_cons hA
  obtain ⟨v1, vs1, d1, ds1, p1, q1, rfl, rfl, rfl, h1, r1⟩ := trodAll_cons r0
  obtain ⟨v2, vs2, d2, ds2, p2, q2, rfl, rfl, rfl, h2, r2⟩ := trodAll_cons r1
  obtain ⟨rfl, rfl, rfl⟩ := trodAll_nil r2
  obtain rfl : args = #[v0, v1, v2] := by cases args; simp_all
  obtain ⟨rfl, rfl⟩ := trodVars_none hV
  have lt0 : ∀ x ∈ p0, x.block < W.heap.size := by obtain ⟨m, hm⟩ := h0; exact DataW.trod_lt m _ _ _ hm
  have lt1 : ∀ x ∈ p1, x.block < W.heap.size := by obtain ⟨m, hm⟩ := h1; exact DataW.trod_lt m _ _ _ hm
  have lt2 : ∀ x ∈ p2, x.block < W.heap.size := by obtain ⟨m, hm⟩ := h2; exact DataW.trod_lt m _ _ _ hm
  clear hA0 hval0
  simp only [List.append_nil] at hW'
  refine (walk W .any base [v0, v1, v2] rfl (fun j t v a b => hval j t v (by simpa [ptys] using a) (by simpa using b))).mono fun e W' ⟨he, bel⟩ => ?_
  subst he
  exact ⟨_, rfl, _, _, _, [], _, [], hW', trodAll_mk1 (shut_bool Try.underlying4 _), (trodAll_cons_mk (Below.trod laidOut (by kernel_rfl) (of_decide_eq_true (by kernel_rfl)) h0 bel lt0) (trodAll_cons_mk (Below.trod laidOut (by kernel_rfl) (of_decide_eq_true (by kernel_rfl)) h1 bel lt1) (trodAll_cons_mk (Below.trod laidOut (by kernel_rfl) (of_decide_eq_true (by kernel_rfl)) h2 bel lt2) trodAll_mk0))), rfl, bel.frame _, fun h => by cases h⟩

theorem over : Rows.numberRingRow.holds Try.pinned (OpenSpec.ofChange Rows.numberRingSpec) :=
  OpenClaim.holds_of_wide 8 Try.f8 rfl rfl rfl rfl rfl rfl rfl ⟨rfl, rfl, rfl, rfl, rfl⟩ rfl rfl rfl rfl rfl (by kernel_rfl) Try.func8 (by kernel_rfl)
    (of_decide_eq_true (by kernel_rfl)) (by unfold Func.isWrapper; first | (rw [if_pos (by decide +kernel)]; kernel_rfl) | (rw [if_neg (by decide +kernel)]; exact ⟨rfl, rfl⟩))
    (fun os started H enc _ => lifted os started H enc)

theorem proved : Rows.NumberRingSaid := over
#print axioms proved
end Go.Proofs.Ytblddomiecjhiaa.numberRing
