/- Regions that draw their order: one operation more, and all. -/
import Derived.Test.YtnfmghfddjkpaaaEvW
set_option linter.unusedVariables false
set_option linter.unusedSimpArgs false
set_option linter.unusedSectionVars false
namespace Go.Proofs.Ytnfmghfddjkpaaa.Ev
open Go Go.RowKit

theorem Inv.relo {m : Emb} {hp : Hp} {h : Array Obj} (i : Inv m hp h) (l : Nat) : Inv m { tr := hp.tr, nx := hp.nx, lo := l } h := ⟨i.obj, i.inj, i.low, i.dom⟩

theorem wantA_congr {cx : Cx} {all : List Oper} {tm tm' : Tr Value} {o : Oper} (h : ∀ t, t ∈ looksA o all → tm'.get t = tm.get t) : wantA cx all tm' o.guard = wantA cx all tm o.guard := by
  rw [wantA_def, wantA_def]
  split
  · rfl
  · rename_i j want hg
    split
    · rfl
    · rename_i o' ho'
      split
      · rfl
      · rename_i d hd
        have : d ∈ looksA o all := by
          unfold looksA
          rw [List.mem_append]
          right
          rw [hg]
          simp only [ho']
          rw [hd]
          exact List.mem_singleton.2 rfl
        rw [h d this]

theorem ops_looks {o : Oper} {all : List Oper} {t : Tmp} (h : Operand.tmp t ∈ o.op.operands.toList) : t ∈ looksA o all := by
  unfold looksA
  rw [List.mem_append]
  left
  rw [List.mem_filterMap]
  exact ⟨_, h, rfl⟩

theorem evOp1_ok {P : Program} {cx : Cx} (ok : CxOk P cx) (hext : ExtOk P cx) {call : CallF} (hcall : CallOk P cx call) {m : Emb} {tm : Tr Value} {hp hp' : Hp} {w : World} {a : Act} {sz : Nat} {ds : List Deferred} (tr : TR m tm a sz ds) (inv : Inv m hp w.heap) (gw : GW cx m w)
    {r0 : Option Nat} {o : Oper} {v : Value} (hf : Fresh m hp.nx hp'.nx) (h : evOp cx call tm hp o.op = some [(.ret v, hp')]) {next : Act → World → Prop} {Q : Exit → Act → World → Prop}
    (hn : ∀ m' w' v', Step m hp w m' hp' w' → RV m' v v' → next (a.put o.dst v') w') : o.wpIn (Fw r0) 0 P a w next Q :=
  evOp_ok ok hext hcall tr inv gw (fun r hr => by rw [List.mem_singleton.1 hr]; exact hf) h (fun v0 hp0 hm m' w' v' st rv => by
    have := List.mem_singleton.1 hm
    injection this with e1 e2
    injection e1 with e1
    subst e1 e2
    exact hn m' w' v' st rv) (fun v0 hp0 hm => by
    have := List.mem_singleton.1 hm
    injection this with e1 _
    cases e1)

section
variable {r0 : Option Nat} {P : Program} {cx : Cx} (ok : CxOk P cx) (hext : ExtOk P cx) {call : CallF} (hcall : CallOk P cx call) (hg : GrowOk call) {sz : Nat} {ops : Array Oper} {TM : Nat → Tr Value} {HP H : Nat → Hp} (way : Way cx call sz ops TM HP H)
include ok hext hcall hg way

theorem way_pure {i : Nat} {o : Oper} (ho : ops[i]? = some o) (hp : pureOp o.op = true) : H i = { tr := (HP i).tr, nx := (HP i).nx, lo := (HP i).nx } := by
  obtain ⟨v, -, ⟨-, -, h⟩ | ⟨-, h⟩⟩ := way_put hg way ho
  · exact h
  · obtain ⟨r, hr⟩ := evOp_pure (cx := cx) (call := call) (tm := TM i) hp
    rw [hr] at h
    exact (lift_keep h).2

/-- What the mark of an operation tells. -/
theorem mk_of {i : Nat} (hi : i < ops.size) :
    (idleM (mkOf cx ops TM HP H i) = true ∧ Quiet HP H i ∧ (HP (i + 1)).nx = (HP i).nx) ∨
    (∃ β w, mkOf cx ops TM HP H i = .one β w ∧ foc ops TM i = some β ∧ (¬ Quiet HP H i → w = true) ∧ (HP (i + 1)).nx = (HP i).nx) ∨
    (∃ u w, mkOf cx ops TM HP H i = .whole u w ∧ foc ops TM i = none ∧ wr ops TM HP H i = u ∧ (¬ Quiet HP H i → w = true)) := by
  have ho : ops[i]? = some ops[i] := Array.getElem?_eq_getElem hi
  have c := way.chain i _ ho
  have hmk : mkOf cx ops TM HP H i = dmkA cx ops.toList ops[i] (TM i) (HP i) (H i) := by unfold mkOf; rw [ho]
  have hfo : foc ops TM i = focA (TM i) ops[i].op := by unfold foc; rw [ho]
  have hble : ¬ Quiet HP H i → (!Nat.ble (HP i).nx (H i).lo) = true := fun hq => by
    cases hb : Nat.ble (HP i).nx (H i).lo with
    | true => exact absurd (Nat.le_of_ble_eq_true hb) hq
    | false => rfl
  obtain ⟨v, -, ⟨hw, -, h⟩ | ⟨hw, h⟩⟩ := way_put hg way ho
  · refine .inl ⟨?_, ?_, ?_⟩
    · rw [hmk]; unfold dmkA; rw [hw]; rfl
    · unfold Quiet; rw [h]; exact Nat.le_refl _
    · rw [c.nx, h]
  · by_cases hp : pureOp ops[i].op = true
    · have hh := way_pure ok hext hcall hg way ho hp
      refine .inl ⟨?_, ?_, ?_⟩
      · rw [hmk]; unfold dmkA; rw [hw, hp]; rfl
      · unfold Quiet; rw [hh]; exact Nat.le_refl _
      · rw [c.nx, hh]
    · have hp : pureOp ops[i].op = false := by simpa using hp
      cases hf : focA (TM i) ops[i].op with
      | some β =>
        refine .inr (.inl ⟨β, _, ?_, by rw [hfo, hf], hble, ?_⟩)
        · rw [hmk]; unfold dmkA; rw [hw, hp, hf]
        · rw [c.nx, (foc_ev hf h).2.1]
      | none =>
        refine .inr (.inr ⟨wriB (TM i) ops[i].op (HP i) (H i), _, ?_, by rw [hfo, hf], by unfold wr; rw [hfo, hf]; simp only [ho], hble⟩)
        rw [hmk]; unfold dmkA; rw [hw, hp, hf]

/-- Who writes is told to be ahead or behind. -/
theorem ord_of {i j : Nat} (hi : i < ops.size) (hj : j < ops.size) (hne : j ≠ i) (hq : ¬ Quiet HP H i) (hid : idleM (mkOf cx ops TM HP H j) = false) (hap : apartM (mkOf cx ops TM HP H i) (mkOf cx ops TM HP H j) = false) :
    (j < i ∧ Before ops j i) ∨ (i < j ∧ Before ops i j) := by
  obtain ⟨ms, h1, h2⟩ := way.marks
  refine marks_of h1 (h2 i hi) (h2 j hj) hne ?_ hid hap
  rcases mk_of ok hext hcall hg way hi with ⟨-, h, -⟩ | ⟨β, w, h, -, h3, -⟩ | ⟨u, w, h, -, -, h3⟩
  · exact absurd h hq
  · rw [h]; exact h3 hq
  · rw [h]; exact h3 hq

theorem touch_idle {j b : Nat} (h : Touch ops TM HP H j b) : idleM (mkOf cx ops TM HP H j) = false := by
  rcases mk_of ok hext hcall hg way h.1 with ⟨-, h1, -⟩ | ⟨β, w, h1, -, -, -⟩ | ⟨u, w, h1, -, -, -⟩
  · exact absurd h1 h.2.1
  · rw [h1]; rfl
  · rw [h1]; rfl

/-- Two that may look at the same block are not apart. -/
theorem near {i j b : Nat} (hi : i < ops.size) (h : Touch ops TM HP H j b) (hb : ∀ β, foc ops TM i = some β → b = β) : apartM (mkOf cx ops TM HP H j) (mkOf cx ops TM HP H i) = false := by
  rcases mk_of ok hext hcall hg way h.1 with ⟨-, h1, -⟩ | ⟨β, w, h1, h2, -, -⟩ | ⟨u, w, h1, -, h2, -⟩
  · exact absurd h1 h.2.1
  · rcases mk_of ok hext hcall hg way hi with ⟨k1, -, -⟩ | ⟨β', w', k1, k2, -, -⟩ | ⟨u', w', k1, -, -, -⟩
    · rw [h1]
      cases hm : mkOf cx ops TM HP H i with
      | idle => rfl
      | one b w => rw [hm] at k1; cases k1
      | whole u w => rw [hm] at k1; cases k1
    · rw [h1, k1]
      have e1 := h.2.2.2 β (wr_foc h2)
      have e2 := hb β' k2
      subst e1
      subst e2
      simp [apartM]
    · rw [h1, k1]; rfl
  · rw [h1]
    cases u with
    | none => cases mkOf cx ops TM HP H i <;> rfl
    | some β =>
      rcases mk_of ok hext hcall hg way hi with ⟨k1, -, -⟩ | ⟨β', w', k1, k2, -, -⟩ | ⟨u', w', k1, -, -, -⟩
      · cases hm : mkOf cx ops TM HP H i with
        | idle => rfl
        | one b w => rw [hm] at k1; cases k1
        | whole u w => rw [hm] at k1; cases k1
      · rw [k1]
        have e1 := h.2.2.2 β h2
        have e2 := hb β' k2
        subst e1
        subst e2
        cases w' <;> simp [apartM]
      · rw [k1]; rfl

variable {m0 : Emb} {w0 : World} {dl : List Deferred} {D : Nat → Prop} {m : Emb} {a : Act} {w : World} (ds : DS cx m0 w0 TM HP H sz ops dl D m a w)
include ds

/-- What a ready operation looks at is as in the order of the text. -/
theorem agree {i b k : Nat} (hi : i < ops.size) (hn : ¬ D i) (hdep : Dep ops D i) (hid : idleM (mkOf cx ops TM HP H i) = false) (hfo : ∀ β, foc ops TM i = some β → b = β) (hb : b < (HP i).nx) (hk : Fst ops TM HP H D b k) : (HP k).tr.get b = (HP i).tr.get b := by
  obtain ⟨k1, k2, k3⟩ := hk
  have hki : i ≤ k := by
    rcases Nat.lt_or_ge k i with h | h
    · exfalso
      rcases k3 with k3 | ⟨k3, k4⟩
      · omega
      · rcases ord_of ok hext hcall hg way k3.1 hi (by omega) k3.2.1 hid (near ok hext hcall hg way hi k3 hfo) with ⟨h1, -⟩ | ⟨-, h1⟩
        · omega
        · exact k4 (h1.mem ds.closed hdep)
    · exact h
  refine way_same' hg way hki k1 hb (fun y h1 h2 ht => ?_)
  have hd := k2 y h2 ht
  have hyi : i ≠ y := fun h => by subst h; exact hn hd
  rcases ord_of ok hext hcall hg way ht.1 hi hyi ht.2.1 hid (near ok hext hcall hg way hi ht hfo) with ⟨-, h3⟩ | ⟨h3, -⟩
  · exact hn (h3.mem ds.closed (ds.closed y hd))
  · omega

theorem ds_step {i : Nat} {o : Oper} (ho : ops[i]? = some o) (hn : ¬ D i) (hdep : Dep ops D i) {K : Act → World → Prop} {Q : Exit → Act → World → Prop}
    (hk : ∀ m' a' w', DS cx m0 w0 TM HP H sz ops dl (fun j => D j ∨ j = i) m' a' w' → K a' w') : if Region.wanted o (yielded ops a.tmps) = true then o.wpIn (Fw r0) 0 P a w K Q else K (a.put o.dst undef) w := by
  have hi : i < ops.size := by
    rcases Nat.lt_or_ge i ops.size with h | h
    · exact h
    · rw [Array.getElem?_eq_none h] at ho; cases ho
  have c := way.chain i o ho
  obtain ⟨Y, hY, hYn, inv⟩ := ds.heap
  -- what is looked at
  have tr : TR m ((TM i).only (looksA o ops.toList)) a sz dl := ⟨ds.size, ds.defers, fun t v hv => by
    rw [get_only] at hv
    split at hv
    · rename_i ht; exact ds_slot hg way ds ho hn hdep ht hv
    · cases hv⟩
  have hlook : ∀ t, t ∈ looksA o ops.toList → ((TM i).only (looksA o ops.toList)).get t = (TM i).get t := fun t ht => by rw [get_only, if_pos ht]
  have hsub : ∀ j, (D j ∨ j = i) → j < ops.size := fun j hj => by
    rcases hj with hj | rfl
    · exact ds.sub j hj
    · exact hi
  have hcl := ds_closed hg way ds hdep
  have n0i : (HP 0).nx ≤ (HP i).nx := way_nx' hg way (Nat.zero_le _) (by omega)
  have niN : (HP (i + 1)).nx ≤ (HP ops.size).nx := way_nx' hg way (by omega) (Nat.le_refl _)
  have nii : (HP i).nx ≤ (HP (i + 1)).nx := way_nx' hg way (by omega) (by omega)
  have hYdom : ∀ b ob, Y.tr.get b = some ob → b < (HP ops.size).nx := fun b ob h => by rw [← hYn]; exact inv.dom b ob h
  have hfoo : foc ops TM i = focA (TM i) o.op := by unfold foc; rw [ho]
  obtain ⟨v, hput, ⟨hw, rfl, hH⟩ | ⟨hw, hev⟩⟩ := way_put hg way ho
  · -- not carried out
    have hwant := wantA_ok ds.gw.as tr (o := o) (ops := ops) (b := false) (by rw [wantA_congr hlook]; exact hw)
    rw [hwant, if_neg (by simp)]
    have hq : Quiet HP H i := by unfold Quiet; rw [hH]; exact Nat.le_refl _
    obtain ⟨s1, s2, s3, s4⟩ := ds_vals hg way ds ho hn (Emb.le_refl m) hput (undef_rv m)
    exact hk m _ w ⟨hsub, hcl, s1, s2, s3, s4, ⟨Y, fun b k h => hY b k (fst_drop (fun ht => ht.2.1 hq) h), hYn, inv⟩, fun j h1 h2 => ds.fresh j h1 (fun h => h2 (.inl h)), ds.gw, ds.cum⟩
  · have hwant := wantA_ok ds.gw.as tr (o := o) (ops := ops) (b := true) (by rw [wantA_congr hlook]; exact hw)
    rw [hwant, if_pos rfl]
    have hcon : ∀ h, evOp cx call ((TM i).only (looksA o ops.toList)) h o.op = evOp cx call (TM i) h o.op := fun h => evOp_congr (fun t ht => hlook t (ops_looks ht))
    by_cases hp : pureOp o.op = true
    · -- it looks at no memory
      have hH := way_pure ok hext hcall hg way ho hp
      have hq : Quiet HP H i := by unfold Quiet; rw [hH]; exact Nat.le_refl _
      obtain ⟨r, hr⟩ := evOp_pure (cx := cx) (call := call) (tm := TM i) hp
      have hrv : r = some v := by rw [hr] at hev; exact (lift_keep hev).1
      have hev2 : evOp cx call ((TM i).only (looksA o ops.toList)) { tr := Y.tr, nx := Y.nx, lo := Y.nx } o.op = some [(.ret v, { tr := Y.tr, nx := Y.nx, lo := Y.nx })] := by
        rw [hcon, hr, hrv]; rfl
      refine evOp1_ok ok hext hcall tr (inv.relo _) ds.gw (fun b h1 h2 => by simp only at h1 h2; omega) hev2 (fun m' w' v' st rv => ?_)
      have hme : ∀ b, m' b = m b := fun b => by
        by_cases hb : b < Y.nx
        · exact (st.low b hb hb).2
        · exact st.far b (by simp only; omega)
      obtain ⟨s1, s2, s3, s4⟩ := ds_vals hg way ds ho hn st.le hput rv
      refine hk m' _ w' ⟨hsub, hcl, s1, s2, s3, s4, ⟨{ tr := Y.tr, nx := Y.nx, lo := Y.nx }, fun b k h => hY b k (fst_drop (fun ht => ht.2.1 hq) h), hYn, st.inv⟩, fun j h1 h2 b h3 h4 => ?_, ds.gw.step st, ds.cum.step st (by simp only; omega) (fun b h1 h2 => ?_)⟩
      · rw [hme]
        exact ds.fresh j h1 (fun h => h2 (.inl h)) b h3 h4
      · simp only
        omega
    · have hp : pureOp o.op = false := by simpa using hp
      have hmk : mkOf cx ops TM HP H i = dmkA cx ops.toList o (TM i) (HP i) (H i) := by unfold mkOf; rw [ho]
      have hid : idleM (mkOf cx ops TM HP H i) = false := by
        rw [hmk]; unfold dmkA; rw [hw, hp]
        cases focA (TM i) o.op <;> rfl
      have hfr : Fresh m (HP i).nx (H i).nx := fun b h1 h2 => ds.fresh i hi hn b h1 (by rw [c.nx]; exact h2)
      have hagree : ∀ b, (∀ β, foc ops TM i = some β → b = β) → b < (HP i).nx → Y.tr.get b = (HP i).tr.get b := fun b h1 h2 => by
        obtain ⟨k, hk⟩ := fst_ex ops TM HP H D b
        rw [hY b k hk]
        exact agree ok hext hcall hg way ds hi hn hdep hid h1 h2 hk
      -- what it makes of the memory that there is
      obtain ⟨Z, Z', z1, z2, z3, z4, z5, z6, z7, z8, z9, z10⟩ : ∃ Z Z' : Hp, Z.nx = (HP i).nx ∧ Z.lo = (HP i).nx ∧ (∀ b, b < (HP i).nx → Z.tr.get b = Y.tr.get b) ∧ (∀ b ob, Z.tr.get b = some ob → b < (HP i).nx) ∧
          evOp cx call (TM i) Z o.op = some [(.ret v, Z')] ∧ Z'.nx = (H i).nx ∧ (∀ b, b < (HP i).nx → ¬ Touch ops TM HP H i b → Z'.tr.get b = Y.tr.get b) ∧
          (∀ b, b < (H i).nx → ((HP i).nx ≤ b ∨ Touch ops TM HP H i b) → Z'.tr.get b = (H i).tr.get b) ∧ (Quiet HP H i → (HP i).nx ≤ Z'.lo) ∧ (∀ x, x ≤ (H i).lo → x ≤ (HP i).nx → x ≤ Z'.lo) := by
        cases hf : focA (TM i) o.op with
        | none =>
          have hag : ∀ b, b < (HP i).nx → Y.tr.get b = (HP i).tr.get b := fun b hb => hagree b (fun β h => by rw [hfoo, hf] at h; cases h) hb
          refine ⟨{ tr := (HP i).tr, nx := (HP i).nx, lo := (HP i).nx }, H i, rfl, rfl, fun b hb => (hag b hb).symm, way_dom hg way i (by omega), hev, rfl, fun b hb ht => ?_, fun _ _ _ => rfl, fun h => h, fun x h _ => h⟩
          rw [way_keep hg way hi hb ht, hag b hb]
        | some β =>
          obtain ⟨⟨ob, hob⟩, f1, f2, f3⟩ := foc_ev hf hev
          have hβ : β < (HP i).nx := way_dom hg way i (by omega) β ob hob
          have hag := hagree β (fun β' h => by rw [hfoo, hf] at h; injection h) hβ
          obtain ⟨t, ht⟩ := Tr.exists_fun (fun b => Y.tr.get b) (HP i).nx
          obtain ⟨Z', e1, e2, e3, e4, e5⟩ := f3 { tr := t, nx := (HP i).nx, lo := (HP i).nx } (by simp only; rw [ht, if_pos hβ, hag])
          refine ⟨{ tr := t, nx := (HP i).nx, lo := (HP i).nx }, Z', rfl, rfl, fun b hb => by simp only; rw [ht, if_pos hb], fun b ob hb => ?_, e1, by rw [e2, f1], fun b hb hnt => ?_, fun b hb hor => ?_, fun hq => ?_, fun x h1 h2 => ?_⟩
          · simp only at hb
            rw [ht] at hb
            split at hb
            · assumption
            · cases hb
          · by_cases hbβ : b = β
            · subst hbβ
              rw [e3, way_keep hg way hi hb hnt, hag]
            · rw [e4 b hbβ]
              simp only
              rw [ht, if_pos hb]
          · rcases hor with h | h
            · rw [f1] at hb; simp only at hb; omega
            · have := h.2.2.2 β (wr_foc (by rw [hfoo, hf]))
              subst this
              exact e3
          · rcases e5 with ⟨e5, -⟩ | ⟨-, e6⟩
            · rw [e5]; exact Nat.le_refl _
            · exfalso
              unfold Quiet at hq
              rw [e6] at hq
              have := least_le_left β (HP i).nx
              simp only at hq
              omega
          · rcases e5 with ⟨e5, -⟩ | ⟨e5, e6⟩
            · rw [e5]; exact h2
            · rw [e5]
              rw [e6] at h1
              exact h1
      have invZ : Inv m Z w.heap := by
        refine ⟨fun b e ob h1 h2 h3 => ?_, inv.inj, inv.low, fun b ob h => by rw [z1]; exact z4 b ob h⟩
        exact inv.obj b e ob h1 (by rw [← z3 b (z4 b ob h2)]; exact h2) h3
      have hev2 : evOp cx call ((TM i).only (looksA o ops.toList)) Z o.op = some [(.ret v, Z')] := by rw [hcon]; exact z5
      refine evOp1_ok ok hext hcall tr invZ ds.gw (by rw [z1, z6]; exact hfr) hev2 (fun m' w' v' st rv => ?_)
      obtain ⟨s1, s2, s3, s4⟩ := ds_vals hg way ds ho hn st.le hput rv
      obtain ⟨t, ht⟩ := Tr.exists_fun (fun b => if b < (HP (i + 1)).nx then Z'.tr.get b else Y.tr.get b) (HP ops.size).nx
      have hnew : ∀ b, ((HP i).nx ≤ b ∧ b < (HP (i + 1)).nx) → foc ops TM i = none := fun b hb => by
        rcases mk_of ok hext hcall hg way hi with ⟨-, -, h⟩ | ⟨β, w, -, -, -, h⟩ | ⟨u, w, -, h, -, -⟩
        · omega
        · omega
        · exact h
      have tb : ∀ b k, Fst ops TM HP H (fun j => D j ∨ j = i) b k → (if b < (HP ops.size).nx then (if b < (HP (i + 1)).nx then Z'.tr.get b else Y.tr.get b) else none) = (HP k).tr.get b := fun b k hf => by
        by_cases hbN : b < (HP ops.size).nx
        · rw [if_pos hbN]
          by_cases hb1 : b < (HP (i + 1)).nx
          · rw [if_pos hb1]
            by_cases hor : (HP i).nx ≤ b ∨ Touch ops TM HP H i b
            · rw [z8 b (by rw [← c.nx]; exact hb1) hor, ← c.tr]
              have hfo : ∀ β, foc ops TM i = some β → b = β := fun β hβ => by
                rcases hor with h | h
                · rw [hnew b ⟨h, hb1⟩] at hβ; cases hβ
                · exact h.2.2.2 β (wr_foc hβ)
              obtain ⟨k1, k2, k3⟩ := hf
              have hik : i + 1 ≤ k := by
                rcases k3 with k3 | ⟨k3, k4⟩
                · omega
                · rcases Nat.lt_trichotomy k i with h | h | h
                  · exfalso
                    rcases hor with h5 | h5
                    · have := way_nx' hg way (i := k) (k := i) (by omega) (by omega)
                      have := k3.2.2.1
                      omega
                    · rcases ord_of ok hext hcall hg way k3.1 hi (by omega) k3.2.1 hid (near ok hext hcall hg way hi k3 hfo) with ⟨h1, -⟩ | ⟨-, h1⟩
                      · omega
                      · exact k4 (.inl (h1.mem ds.closed hdep))
                  · exact absurd (.inr h) k4
                  · omega
              refine (way_same' hg way hik k1 hb1 (fun y h1 h2 htc => ?_)).symm
              have hd : D y := (k2 y h2 htc).resolve_right (by omega)
              rcases ord_of ok hext hcall hg way htc.1 hi (by omega) htc.2.1 hid (near ok hext hcall hg way hi htc hfo) with ⟨-, h3⟩ | ⟨h3, -⟩
              · exact hn (h3.mem ds.closed (ds.closed y hd))
              · omega
            · have hnt : ¬ Touch ops TM HP H i b := fun h => hor (.inr h)
              rw [z7 b (by omega) hnt]
              exact hY b k (fst_drop hnt hf)
          · rw [if_neg hb1]
            exact hY b k (fst_drop (fun h => by have := h.2.2.1; omega) hf)
        · rw [if_neg hbN]
          cases hg2 : (HP k).tr.get b with
          | none => rfl
          | some ob =>
            have h1 := way_dom hg way k hf.1 b ob hg2
            have h2 := way_nx' hg way hf.1 (Nat.le_refl _)
            omega
      refine hk m' _ w' ⟨hsub, hcl, s1, s2, s3, s4, ⟨{ tr := t, nx := (HP ops.size).nx, lo := (HP ops.size).nx }, fun b k hf => ?_, rfl, ⟨fun b e ob h1 h2 h3 => ?_, st.inv.inj, st.inv.low, fun b ob h => ?_⟩⟩, fun j h1 h2 b h3 h4 => ?_, ds.gw.step st, ds.cum.step st (by rw [z6, ← c.nx]; exact niN) (fun b h1 h2 => ?_)⟩
      · simp only
        rw [ht]
        exact tb b k hf
      · simp only at h2
        rw [ht] at h2
        split at h2
        · split at h2
          · exact st.inv.obj b e ob h1 h2 h3
          · rename_i hb2
            rw [st.far b (by rw [z6, ← c.nx]; omega)] at h1
            obtain ⟨l1, l2⟩ := inv.obj b e ob h1 h2 h3
            refine ⟨l1, (l2.mono st.le).heap (st.keep e.c (inv.low b e h1) (fun b0 e0 k1 k2 k3 k4 => ?_))⟩
            have := inv.inj b0 b e0 e k2 h1 k3 l1 k4
            rw [z1] at k1
            omega
        · cases h2
      · simp only at h ⊢
        rw [ht] at h
        split at h
        · assumption
        · cases h
      · by_cases hji : j = i
        · exact absurd (.inr hji) h2
        · have hdj : ¬ D j := fun h => h2 (.inl h)
          have hmn := ds.fresh j h1 hdj b h3 h4
          rcases Nat.lt_or_gt_of_ne hji with hlt | hgt
          · have hb : b < (HP i).nx := by
              have := way_nx' hg way (i := j + 1) (k := i) (by omega) (by omega)
              omega
            by_cases hq : Quiet HP H i
            · rw [(st.low b (by rw [z1]; exact hb) (Nat.lt_of_lt_of_le hb (z9 hq))).2]
              exact hmn
            · exfalso
              rcases mk_of ok hext hcall hg way h1 with ⟨-, -, h⟩ | ⟨β, w, -, -, -, h⟩ | ⟨u, w, h, -, -, -⟩
              · omega
              · omega
              · rcases ord_of ok hext hcall hg way hi h1 hji hq (by rw [h]; rfl) (by rw [h]; cases mkOf cx ops TM HP H i with | idle => rfl | one b w => rfl | whole u w => cases u <;> rfl) with ⟨-, h5⟩ | ⟨h5, -⟩
                · exact hdj (h5.mem ds.closed hdep)
                · omega
          · have := way_nx' hg way (i := i + 1) (k := j) (by omega) (by omega)
            rw [st.far b (by rw [z6, ← c.nx]; omega)]
            exact hmn
      · have hl := way_lo' hg way (i := i + 1) (k := ops.size) (by omega) (Nat.le_refl _)
        have hl2 := c.lo2
        have hbi : b < (HP i).nx := by omega
        refine ⟨by rw [z1]; exact hbi, ?_⟩
        have := z10 (b + 1) (by omega) (by omega)
        omega
end
end Go.Proofs.Ytnfmghfddjkpaaa.Ev
