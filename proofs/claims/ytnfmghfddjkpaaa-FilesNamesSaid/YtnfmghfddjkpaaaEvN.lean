/- Builtins and rows of the model: what the reckoner says of them, the model says. -/
import Derived.Test.YtnfmghfddjkpaaaEvMp
set_option linter.unusedVariables false
set_option linter.unusedSimpArgs false
set_option linter.unusedSectionVars false
namespace Go.Proofs.Ytnfmghfddjkpaaa.Ev
open Go Go.RowKit

/-- A row that is not looked at any more, its block changed in whatever way. -/
theorem step_killw {m : Emb} {hp : Hp} {w : World} (inv : Inv m hp w.heap) {b : Nat} {e : Ent} (he : m b = some e) (hl : e.live = true) (hb : b < hp.nx) (ob : Obj) :
    Step m hp w (m.kill b) (killA hp b) { w with heap := w.heap.setIfInBounds e.c ob } := by
  have s := step_kill (w := w) inv hb
  have hget : ∀ c, c ≠ e.c → (w.heap.setIfInBounds e.c ob)[c]? = w.heap[c]? := fun c hc => Array.getElem?_setIfInBounds_ne (fun h => hc h.symm)
  refine ⟨s.le, ⟨?_, s.inv.inj, ?_, s.inv.dom⟩, rfl, rfl, rfl, by simp, ?_, ?_, s.far, s.nx, s.lo, s.low⟩
  · intro x e' o' he' ho' hd
    obtain ⟨l1, l2⟩ := s.inv.obj x e' o' he' ho' hd
    refine ⟨l1, l2.heap (hget _ (fun hc => ?_))⟩
    by_cases hx : x = b
    · subst hx
      simp only [killA, Tr.get_set, if_true] at ho'
      injection ho' with ho'
      exact hd ho'.symm
    · rw [Emb.kill_other m hx] at he'
      exact hx (inv.inj x b e' e he' he l1 hl hc)
  · intro x e' he'
    simpa using s.inv.low x e' he'
  · intro c hc h
    exact hget c (fun hh => h b e hb he hl hh.symm)
  · intro x e' hx he' hl'
    exact s.rng x e' hx he' hl'

theorem loadBytes_run {P : Program} {w : World} : ∀ (l : List Value) (bs : List UInt8) (a : Addr) (acc : ByteArray), bytesA l = some bs → (∀ j v, l[j]? = some v → w.cell? (a.add j) = some v) → a.spot = none →
    (Go.loadBytes a acc l.length).run P w = .ok ⟨acc.data ++ bs.toArray⟩ w := by
  intro l
  induction l with
  | nil =>
    intro bs a acc h _ _
    have h : some [] = some bs := h
    injection h with h
    subst h
    simp [Go.loadBytes]
  | cons x l ih =>
    intro bs a acc h hc hsp
    rw [bytesA_cons] at h
    split at h
    · rename_i n
      split at h
      · rename_i bs2 hbs
        injection h with h
        subst h
        have h0 : w.cell? a = some (.int .u8 n) := hc 0 _ rfl
        obtain ⟨ab, ao, asp⟩ := a
        simp only at hsp
        subst hsp
        simp only [List.length_cons, Go.loadBytes, Sem.run_bind, run_load, h0, Result.andThen_ok]
        rw [ih bs2 _ _ hbs (fun j v hv => by
          have := hc (j + 1) v (by simpa using hv)
          rw [add_at] at this ⊢
          rw [add_at]
          rwa [show ao + 1 + j = ao + (j + 1) from by omega]) (by rw [add_at])]
        congr 2
        simp [ByteArray.push]
      · cases h
    · cases h

theorem unsafe_zero {P : Program} {w : World} (p : Option Addr) (q : IntKind) (t : TypeId) (ts : List TypeId) {ty : TypeId} : (Builtin.unsafeString_ ⟨t :: ts⟩ ty ⟨[.pointer p, .int q (.ofNat 0)]⟩).run P w = .ok (.string .empty) w := by
  cases p <;> rfl

theorem unsafe_run {P : Program} {w : World} {p : Addr} {q : IntKind} {n : Nat} {t e ty : TypeId} {ts : List TypeId} {s : ByteArray} (hn : n ≠ 0) (hb : n ≤ 9223372036854775807) (he : (elemOf t).run P w = .ok e w) (hv : (variablesAt p e n).run P w = .ok true w)
    (hl : (Go.loadBytes p .empty n).run P w = .ok s w) : (Builtin.unsafeString_ ⟨t :: ts⟩ ty ⟨[.pointer (some p), .int q (.ofNat n)]⟩).run P w = .ok (.string s) (w.freeze p n) := by
  have hmax : IntKind.i64.max = 9223372036854775807 := by decide
  show ((do
    let n' ← asInt (.int q (.ofNat n))
    if n' < 0 then runtimePanic (.error _)
    if n' > IntKind.i64.max then unsupported (.unsafePointer _)
    if n' = 0 then pure (.string .empty)
    else if ← variablesAt p (← elemOf t) n'.toNat then do
      let s ← Go.loadBytes p .empty n'.toNat
      freeze p n'.toNat
      pure (.string s)
    else unsupported (.unsafePointer _)) : Sem Value).run P w = _
  have e1 : ¬ (Int.ofNat n < 0) := by simp only [Int.ofNat_eq_natCast]; omega
  have e2 : ¬ (Int.ofNat n > IntKind.i64.max) := by rw [hmax]; simp only [Int.ofNat_eq_natCast]; omega
  have e3 : ¬ (Int.ofNat n = 0) := by simp only [Int.ofNat_eq_natCast]; omega
  have e4 : (Int.ofNat n).toNat = n := rfl
  simp only [asInt, asIntOf, Sem.run_bind, Sem.run_pure, Result.andThen_ok, if_neg e1, if_neg e2, if_neg e3, e4, he, hv, if_true, hl, run_freeze]

section
variable {P : Program} {cx : Cx} (ok : CxOk P cx) {m : Emb} {hp : Hp} {w : World}
include ok

theorem minmaxA_ok (as : AsOk cx m) {mx : Bool} {l l' : List Value} {v : Value} {ts : Array TypeId} {ty : TypeId} (hl : RVs m l l') (h : minmaxA mx l = some v) :
    Reads P m w (if mx = true then Builtin.max_ ts ty ⟨l'⟩ else Builtin.min_ ts ty ⟨l'⟩) v := by
  unfold minmaxA at h
  split at h
  · rename_i k x k' y
    obtain ⟨x', t, rfl, h1, h2⟩ := hl.head
    obtain ⟨y', t, rfl, h3, h4⟩ := h2.head
    obtain rfl := h4.nil_left
    obtain rfl := h1.flat_iff rfl
    obtain rfl := h3.flat_iff rfl
    injection h with h
    subst h
    cases mx
    · exact .same (by simp [Builtin.min_, Builtin.min2, List.foldlM]) rfl
    · exact .same (by simp [Builtin.max_, Builtin.max2, List.foldlM]) rfl
  · rename_i x y hne
    split at h
    case h_2 => cases h
    rename_i hsf h3 hty
    injection h with h
    subst h
    obtain ⟨x', t, rfl, h1, h2⟩ := hl.head
    obtain ⟨y', t, rfl, h3', h4⟩ := h2.head
    obtain rfl := h4.nil_left
    rw [Bool.and_eq_true] at hsf hty
    obtain ⟨hty, htk⟩ := hty
    rw [Bool.and_eq_true] at hty htk
    have h3 := Nat.le_of_ble_eq_true h3
    obtain ⟨k, n, rfl, hk⟩ := has_int hty.1 h1 h3
    obtain ⟨k', n', rfl, hk'⟩ := has_int hty.2 h3' h3
    obtain rfl := code_inj (hk.trans hk'.symm)
    have hx : tyOk (symTy2 x y) (.int k n) = true := has_tyOk hty.1 h1 htk.1 hsf.1
    have hy : tyOk (symTy2 x y) (.int k n') = true := has_tyOk hty.2 h3' htk.2 hsf.2
    have h5 : RVs m [.bool mx, x, y] [.bool mx, .int k n, .int k n'] := .cons (.flat _ rfl) (.cons h1 (.cons h3' (.nil m)))
    have h6 : [Value.bool mx, x, y].all symFlat = true := by simp only [List.all_cons, hsf.1, hsf.2]; rfl
    cases mx
    · refine ⟨.int k (if n' < n then n' else n), by simp [Builtin.min_, Builtin.min2, List.foldlM], RV.app (k := 3) h5 h6 (by rw [as.ops 3 _ (by omega)]; rfl) ?_⟩
      split
      · exact hy
      · exact hx
    · refine ⟨.int k (if n' > n then n' else n), by simp [Builtin.max_, Builtin.max2, List.foldlM], RV.app (k := 3) h5 h6 (by rw [as.ops 3 _ (by omega)]; rfl) ?_⟩
      split
      · exact hy
      · exact hx
  · cases h

theorem clearM_ok (inv : Inv m hp w.heap) {t : TypeId} {x x' v : Value} {hp' : Hp} {ts : Array TypeId} {ty : TypeId} (hts : ts[0]? = some t) (hx : RV m x x') (h : clearM cx hp t x = some (v, hp')) :
    Turns P m hp w (Builtin.clear_ ts ty #[x']) v hp' := by
  unfold clearM at h
  split at h
  · cases h
  · rename_i ti hti
    have hu := run_under (ok.ty _ _ hti) w
    split at h
    · rename_i b es clock hob
      injection h with h
      injection h with e1 e2
      subst e1 e2
      obtain ⟨e, es', g1, rfl, g3, g4, g5⟩ := mapOb_ok inv hx hob
      refine ⟨m, .tuple ⟨[]⟩, _, ?_, step_mapSet inv g1 g3 (es' := []) .nil, undef_rv m⟩
      cases hd : ti.desc <;> simp [Builtin.clear_, hts, hu, hd, Sem.run_bind, getObj_run g4, setObj_run g4]
    · split at h
      · injection h with h
        injection h with e1 e2
        subst e1 e2
        obtain rfl := hx.flat_iff rfl
        refine Reads.turns inv ⟨.tuple ⟨[]⟩, ?_, undef_rv m⟩
        cases hd : ti.desc <;> simp [Builtin.clear_, hts, hu, hd]
      · cases h

theorem builtinA_ok (gw : GW cx m w) (as : AsOk cx m) (inv : Inv m hp w.heap) {b : Builtin} {ts : List TypeId} {args args' : List Value} {v : Value} {hp' : Hp} (hf : Fresh m hp.nx hp'.nx) {ty : TypeId} {cs : Array Bool} (ha : RVs m args args')
    (h : builtinA cx hp b ts args = some (v, hp')) : ∃ m' v' w', (builtin b ⟨ts⟩ ty cs ⟨args'⟩).run P w = .ok (.value v') w' ∧ Step m hp w m' hp' w' ∧ RV m' v v' := by
  have up : ∀ (s : Sem Value), Turns P m hp w s v hp' → ∃ m' v' w', ((do pure (.value (← s))) : Sem Next).run P w = .ok (.value v') w' ∧ Step m hp w m' hp' w' ∧ RV m' v v' := by
    rintro s ⟨m', v', w', h1, h2, h3⟩
    exact ⟨m', v', w', by rw [run_then h1]; rfl, h2, h3⟩
  unfold builtinA at h
  split at h
  · rename_i t ts x
    obtain ⟨x', tl, rfl, h1, h2⟩ := ha.head
    obtain rfl := h2.nil_left
    split at h
    · rename_i v0 hv
      injection h with h
      injection h with e1 e2
      subst e1 e2
      exact up _ ((lenA_ok (ty := ty) ok as (ts := ⟨t :: ts⟩) rfl h1 hv).turns inv)
    · split at h
      · rename_i v0 hv
        injection h with h
        injection h with e1 e2
        subst e1 e2
        exact up _ ((lenM_ok (ty := ty) ok inv (ts := ⟨t :: ts⟩) rfl h1 hv).turns inv)
      · cases h
  · rename_i t ts x k
    obtain ⟨x', tl, rfl, h1, h2⟩ := ha.head
    obtain ⟨k', tl, rfl, h3, h4⟩ := h2.head
    obtain rfl := h4.nil_left
    split at h
    · rename_i hp0 hv
      injection h with h
      injection h with e1 e2
      subst e1 e2
      exact up _ (deleteA_ok (ty := ty) ok as inv (ts := ⟨t :: ts⟩) rfl h1 h3 hv)
    · cases h
  · rename_i t ts x
    obtain ⟨x', tl, rfl, h1, h2⟩ := ha.head
    obtain rfl := h2.nil_left
    split at h
    · rename_i v0 hv
      injection h with h
      injection h with e1 e2
      subst e1 e2
      exact up _ ((capA_ok (ty := ty) ok inv (ts := ⟨t :: ts⟩) rfl h1 hv).turns inv)
    · cases h
  · rename_i a n c
    obtain ⟨x', tl, rfl, h1, h2⟩ := ha.head
    obtain rfl := h2.nil_left
    split at h
    · rename_i b1 b2
      have b1 := Nat.ne_of_beq_eq_false b1
      have b2 := Nat.ne_of_beq_eq_false b2
      injection h with h
      injection h with e1 e2
      subst e1 e2
      obtain ⟨a', c', rfl, hsp, en, he, hr⟩ := h1.slice_iff
      have hra : RA m a a' ∧ c' ≠ 0 := by
        rcases hr with ⟨-, r2, r3⟩ | ⟨tot, z, -, r2, r3, r4, r5, -⟩
        · exact ⟨⟨hsp, en, he, r2⟩, by omega⟩
        · rcases r4 with r4 | r4
          · exact absurd r4.1 b2
          · obtain ⟨b', o', s'⟩ := a'
            simp only at r2 r3 r4
            exact ⟨⟨hsp, en, he, by rw [r2, r3, r4]⟩, by omega⟩
      refine up _ (Reads.turns inv ⟨_, ?_, .ptr _ _ hra.1⟩)
      change (if c' ≠ 0 then (pure (.pointer (some a')) : Sem Value) else _).run P w = _
      rw [if_pos hra.2]
      rfl
    · cases h
  · rename_i n c
    obtain ⟨x', tl, rfl, h1, h2⟩ := ha.head
    obtain rfl := h2.nil_left
    obtain rfl := h1.flat_iff rfl
    injection h with h
    injection h with e1 e2
    subst e1 e2
    exact up _ (Reads.turns inv (.same rfl rfl))
  · rename_i t ts p q
    obtain ⟨x1, tl, rfl, h1, h2⟩ := ha.head
    obtain ⟨x2, tl, rfl, h3, h4⟩ := h2.head
    obtain rfl := h4.nil_left
    obtain rfl := h3.flat_iff rfl
    injection h with h
    injection h with e1 e2
    subst e1 e2
    cases p with
    | none => obtain rfl := h1.flat_iff rfl; exact up _ (Reads.turns inv (.same (unsafe_zero _ _ _ _) rfl))
    | some p => obtain ⟨p', rfl, -⟩ := h1.ptr_iff; exact up _ (Reads.turns inv (.same (unsafe_zero _ _ _ _) rfl))
  · rename_i t ts a q n hn0
    obtain ⟨x1, tl, rfl, h1, h2⟩ := ha.head
    obtain ⟨x2, tl, rfl, h3, h4⟩ := h2.head
    obtain rfl := h4.nil_left
    obtain rfl := h3.flat_iff rfl
    obtain ⟨a', rfl, hra⟩ := h1.ptr_iff
    split at h
    · rename_i ti hti
      have hti := ok.ty _ _ hti
      split at h
      · rename_i e hd
        split at h
        · rename_i te hte
          have hte := ok.ty _ _ hte
          split at h
          · rename_i hd8
            split at h
            · rename_i tb nb e' op str hob
              split at h
              · rename_i hee
                rw [Bool.and_eq_true] at hee
                have hsmall := hee.2
                have hee := Bool.and_eq_true_iff.1 hee.1
                have h1e := Nat.eq_of_beq_eq_true hee.1
                have h1s := Nat.eq_of_beq_eq_true hee.2
                subst h1e
                split at h
                · rename_i l hl
                  split at h
                  · rename_i bs hbs
                    injection h with h
                    injection h with e1 e2
                    subst e1 e2
                    have hn : n ≠ 0 := fun h0 => by subst h0; first | exact hn0 rfl | exact hn0 | exact hn0.elim
                    obtain ⟨l', k1, k2, k3⟩ := getRow_spec inv hra hl
                    have hll := bytesA_rv k1 hbs
                    subst hll
                    obtain ⟨_, _, _, _, _, p1, p2, -, -⟩ := getRow_parts hl
                    rw [hob] at p1
                    injection p1 with p1
                    injection p1 with p1a p1b
                    subst p1a p1b
                    obtain ⟨hsp, en, he, rfl⟩ := hra
                    obtain ⟨hlive, -, cs0, fr, hcs, hrel, -⟩ := inv.obj _ en _ he hob (by simp)
                    have hb : en.o + a.off + n ≤ cs0.size := by
                      obtain ⟨u, u', -, q2, -⟩ := hrel (a.off + n - 1) (by omega)
                      rcases Nat.lt_or_ge (en.o + (a.off + n - 1)) cs0.size with hlt | hge
                      · omega
                      · rw [Array.getElem?_eq_none hge] at q2; cases q2
                    have hsm : n ≤ 9223372036854775807 := Nat.le_of_ble_eq_true hsmall
                    have hcell : P.cellsOf e = 1 := by rw [cellsOf_ti ok hte]; exact h1s
                    have hv : (variablesAt ⟨en.c, en.o + a.off, none⟩ e n).run P w = .ok true w := by
                      simp only [variablesAt, Sem.run_bind, run_program, run_shape, shape_of hcs, Result.andThen_ok, Sem.run_pure, hcell, Nat.div_one, liesAt_self hcell hb]
                    have hel : (elemOf t).run P w = .ok e w := by
                      simp [elemOf, run_under hti, hd]
                    have hload := loadBytes_run (P := P) (w := w) _ bs ⟨en.c, en.o + a.off, none⟩ .empty hbs k3 rfl
                    rw [k2] at hload
                    have hfz := freeze_heap (o := en.o + a.off) (n := n) hcs hn
                    refine ⟨m.kill a.block, .string ⟨⟨bs⟩⟩, _, ?_, step_killw (w := w) inv he hlive (inv.dom _ _ hob) (.cells cs0 e (if fr.1 == fr.2 then (en.o + a.off, en.o + a.off + n) else (min fr.1 (en.o + a.off), max fr.2 (en.o + a.off + n)))), .flat _ rfl⟩
                    have hr := unsafe_run (P := P) (w := w) (q := q) (n := n) (ty := ty) (ts := ts) (t := t) (e := e) (p := ⟨en.c, en.o + a.off, none⟩) hn (by omega) hel hv hload
                    rw [hfz] at hr
                    exact (run_then hr).trans (by
                      show Result.ok (Next.value (.string ⟨#[] ++ bs.toArray⟩)) _ = _
                      rw [Array.empty_append])
                  · cases h
                · cases h
              · cases h
            · cases h
          · cases h
        · cases h
      · cases h
    · cases h
  · rename_i t u s x
    obtain ⟨s', tl, rfl, h1, h2⟩ := ha.head
    obtain ⟨x', tl, rfl, h3, h4⟩ := h2.head
    obtain rfl := h4.nil_left
    exact up _ (appendT_ok ok gw inv hf h1 h3 h)
  · rename_i t ts d x
    obtain ⟨s', tl, rfl, h1, h2⟩ := ha.head
    obtain ⟨x', tl, rfl, h3, h4⟩ := h2.head
    obtain rfl := h4.nil_left
    exact up _ (copyA_ok (ty := ty) ok inv (ts := ⟨t :: ts⟩) rfl h1 h3 h)
  · rename_i t ts x
    obtain ⟨x', tl, rfl, h1, h2⟩ := ha.head
    obtain rfl := h2.nil_left
    split at h
    · rename_i r hr
      injection h with h
      subst h
      exact up _ (clearA_ok (ty := ty) ok inv (ts := ⟨t :: ts⟩) rfl h1 hr)
    · exact up _ (clearM_ok (ty := ty) ok inv (ts := ⟨t :: ts⟩) rfl h1 h)
  · split at h
    · rename_i v0 hv
      injection h with h
      injection h with e1 e2
      subst e1 e2
      have := minmaxA_ok (P := P) (w := w) (ts := ⟨ts⟩) (ty := ty) ok as ha hv
      exact up _ (this.turns inv)
    · cases h
  · split at h
    · rename_i v0 hv
      injection h with h
      injection h with e1 e2
      subst e1 e2
      have := minmaxA_ok (P := P) (w := w) (ts := ⟨ts⟩) (ty := ty) ok as ha hv
      exact up _ (this.turns inv)
    · cases h
  · cases h
end

/-! Functions without a body. -/
def extS : ExtK → Array Value → Sem Value
  | .add64 => fun args => do
    let (x, y, c) ← Extern.MathBitsCarry.three "Add64" args
    pure (Extern.MathBitsCarry.pair ((x + y + c) % Extern.MathBitsCarry.m64) ((x + y + c) / Extern.MathBitsCarry.m64))
  | .sub64 => fun args => do
    let (x, y, b) ← Extern.MathBitsCarry.three "Sub64" args
    pure (Extern.MathBitsCarry.pair ((x + Extern.MathBitsCarry.m64 - y - b) % Extern.MathBitsCarry.m64) (if x < y + b then 1 else 0))
  | .cmpstr => Extern.BytealgCompare.compare
  | .noEscape => Extern.AbiNoEscape.same
  | .mapClone => Extern.MapsClone.clone
  | .overlaps t => Extern.SlicesOverlaps.overlaps #[t, t] #[]

theorem three_run {P : Program} {w : World} {q1 q2 q3 : IntKind} {x y c : Nat} (nm : String) (hc : c ≤ 1) : (Extern.MathBitsCarry.three nm ⟨[.int q1 (.ofNat x), .int q2 (.ofNat y), .int q3 (.ofNat c)]⟩).run P w = .ok (x, y, c) w := by
  match c, hc with
  | 0, _ => rfl
  | 1, _ => rfl

theorem extA_ok {P : Program} {m : Emb} {w : World} {k : ExtK} {args args' : List Value} {v : Value} (ha : RVs m args args') (h : extA k args = some v) : Reads P m w (extS k ⟨args'⟩) v := by
  unfold extA at h
  split at h
  · rename_i q1 x q2 y q3 c
    obtain ⟨x1, t, rfl, h1, h2⟩ := ha.head
    obtain ⟨x2, t, rfl, h3, h4⟩ := h2.head
    obtain ⟨x3, t, rfl, h5, h6⟩ := h4.head
    obtain rfl := h6.nil_left
    obtain rfl := h1.flat_iff rfl
    obtain rfl := h3.flat_iff rfl
    obtain rfl := h5.flat_iff rfl
    split at h
    · rename_i hc
      have hc := Nat.le_of_ble_eq_true hc
      injection h with h
      subst h
      refine ⟨_, ?_, .tuple _ _ rfl (fun i hi => ?_)⟩
      · simp only [extS]
        rw [run_then (three_run _ hc)]
        rfl
      · match i, hi with
        | 0, _ => exact .flat _ rfl
        | 1, _ => exact .flat _ rfl
    · cases h
  · rename_i q1 x q2 y q3 c
    obtain ⟨x1, t, rfl, h1, h2⟩ := ha.head
    obtain ⟨x2, t, rfl, h3, h4⟩ := h2.head
    obtain ⟨x3, t, rfl, h5, h6⟩ := h4.head
    obtain rfl := h6.nil_left
    obtain rfl := h1.flat_iff rfl
    obtain rfl := h3.flat_iff rfl
    obtain rfl := h5.flat_iff rfl
    split at h
    · rename_i hc
      have hc := Nat.le_of_ble_eq_true hc
      injection h with h
      subst h
      refine ⟨_, ?_, .tuple _ _ rfl (fun i hi => ?_)⟩
      · simp only [extS]
        rw [run_then (three_run _ hc)]
        rfl
      · match i, hi with
        | 0, _ => exact .flat _ rfl
        | 1, _ => exact .flat _ rfl
    · cases h
  · rename_i a b
    obtain ⟨x1, t, rfl, h1, h2⟩ := ha.head
    obtain ⟨x2, t, rfl, h3, h4⟩ := h2.head
    obtain rfl := h4.nil_left
    obtain rfl := h1.flat_iff rfl
    obtain rfl := h3.flat_iff rfl
    injection h with h
    subst h
    exact .same rfl rfl
  · rename_i x
    obtain ⟨x1, t, rfl, h1, h2⟩ := ha.head
    obtain rfl := h2.nil_left
    injection h with h
    subst h
    exact ⟨_, rfl, h1⟩
  · cases h
end Go.Proofs.Ytnfmghfddjkpaaa.Ev
