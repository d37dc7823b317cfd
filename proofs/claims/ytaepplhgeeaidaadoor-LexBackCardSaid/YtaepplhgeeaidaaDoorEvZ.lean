import Derived.Test.YtaepplhgeeaidaaDoorEvW
import Derived.Below
section
set_option linter.unusedVariables false
set_option linter.unusedSimpArgs false
set_option linter.unusedSectionVars false
namespace Go.Proofs.YtaepplhgeeaidaaDoor.Ev
open Go Go.RowKit
theorem Inv.relo {m : Emb} {hp : Hp} {h : Array Obj} (i : Inv m hp h) (l : Nat) : Inv m { tr := hp.tr, nx := hp.nx, lo := l } h := ⟨i.obj, i.inj, i.low, i.dom⟩
theorem wantA_congr {cx : Cx} {all : List Oper} {tm tm' : Tr Value} {o : Oper} (h : ∀ t, t ∈ looksA o all → tm'.get t = tm.get t) : wantA cx all tm' o.guard = wantA cx all tm o.guard := by
  rw [wantA_def, wantA_def]
  split
  · rfl
  · rename_i j want hg
    split
    · rfl
    · rename_i o' ho'
      split
      · rfl
      · rename_i d hd
        have : d ∈ looksA o all := by
          unfold looksA
          rw [List.mem_append]
          right
          rw [hg]
          simp only [ho']
          rw [hd]
          exact List.mem_singleton.2 rfl
        rw [h d this]
theorem ops_looks {o : Oper} {all : List Oper} {t : Tmp} (h : Operand.tmp t ∈ o.op.operands.toList) : t ∈ looksA o all := by
  unfold looksA
  rw [List.mem_append]
  left
  rw [List.mem_filterMap]
  exact ⟨_, h, rfl⟩
theorem evOp1_ok {P : Program} {cx : Cx} (ok : CxOk P cx) (hext : ExtOk P cx) {call : CallF} (hcall : CallOk P cx call) {m : Emb} {tm : Tr Value} {hp hp' : Hp} {w : World} {a : Act} {sz : Nat} {ds : List Deferred} (tr : TR m tm a sz ds) (inv : Inv m hp w.heap) (gw : GW cx m w)
    {r0 : Option Nat} {o : Oper} {v : Value} (hf : Fresh m hp.nx hp'.nx) (h : evOp cx call tm hp o.op = some [(.ret v, hp')]) {next : Act → World → Prop} {Q : Exit → Act → World → Prop}
    (hn : ∀ m' w' v', Step m hp w m' hp' w' → RV m' v v' → next (a.put o.dst v') w') : o.wpIn (Fw r0) 0 P a w next Q :=
  evOp_ok ok hext hcall tr inv gw (fun r hr => by rw [List.mem_singleton.1 hr]; exact hf) h (fun v0 hp0 hm m' w' v' st rv => by
    have := List.mem_singleton.1 hm
    injection this with e1 e2
    injection e1 with e1
    subst e1 e2
    exact hn m' w' v' st rv) (fun v0 hp0 hm => by
    have := List.mem_singleton.1 hm
    injection this with e1 _
    cases e1)
section
variable {r0 : Option Nat} {P : Program} {cx : Cx} (ok : CxOk P cx) (hext : ExtOk P cx) {call : CallF} (hcall : CallOk P cx call) (hg : GrowOk call) {sz : Nat} {ops : Array Oper} {TM : Nat → Tr Value} {HP H : Nat → Hp} (way : Way cx call sz ops TM HP H)
include ok hext hcall hg way
theorem way_pure {i : Nat} {o : Oper} (ho : ops[i]? = some o) (hp : pureOp o.op = true) : H i = { tr := (HP i).tr, nx := (HP i).nx, lo := (HP i).nx } := by
  obtain ⟨v, -, ⟨-, -, h⟩ | ⟨-, h⟩⟩ := way_put hg way ho
  · exact h
  · obtain ⟨r, hr⟩ := evOp_pure (cx := cx) (call := call) (tm := TM i) hp
    rw [hr] at h
    exact (lift_keep h).2
theorem mk_of {i : Nat} (hi : i < ops.size) :
    (idleM (mkOf cx ops TM HP H i) = true ∧ Quiet HP H i ∧ (HP (i + 1)).nx = (HP i).nx) ∨
    (∃ β w, mkOf cx ops TM HP H i = .one β w ∧ foc ops TM i = some β ∧ (¬ Quiet HP H i → w = true) ∧ (HP (i + 1)).nx = (HP i).nx) ∨
    (∃ u w, mkOf cx ops TM HP H i = .whole u w ∧ foc ops TM i = none ∧ wr ops TM HP H i = u ∧ (¬ Quiet HP H i → w = true)) := by
  have ho : ops[i]? = some ops[i] := Array.getElem?_eq_getElem hi
  have c := way.chain i _ ho
  have hmk : mkOf cx ops TM HP H i = dmkA cx ops.toList ops[i] (TM i) (HP i) (H i) := by unfold mkOf; rw [ho]
  have hfo : foc ops TM i = focA (TM i) ops[i].op := by unfold foc; rw [ho]
  have hble : ¬ Quiet HP H i → (!Nat.ble (HP i).nx (H i).lo) = true := fun hq => by
    cases hb : Nat.ble (HP i).nx (H i).lo with
    | true => exact absurd (Nat.le_of_ble_eq_true hb) hq
    | false => rfl
  obtain ⟨v, -, ⟨hw, -, h⟩ | ⟨hw, h⟩⟩ := way_put hg way ho
  · refine .inl ⟨?_, ?_, ?_⟩
    · rw [hmk]; unfold dmkA; rw [hw]; rfl
    · unfold Quiet; rw [h]; exact Nat.le_refl _
    · rw [c.nx, h]
  · by_cases hp : pureOp ops[i].op = true
    · have hh := way_pure ok hext hcall hg way ho hp
      refine .inl ⟨?_, ?_, ?_⟩
      · rw [hmk]; unfold dmkA; rw [hw, hp]; rfl
      · unfold Quiet; rw [hh]; exact Nat.le_refl _
      · rw [c.nx, hh]
    · have hp : pureOp ops[i].op = false := by simpa using hp
      cases hf : focA (TM i) ops[i].op with
      | some β =>
        refine .inr (.inl ⟨β, _, ?_, by rw [hfo, hf], hble, ?_⟩)
        · rw [hmk]; unfold dmkA; rw [hw, hp, hf]
        · rw [c.nx, (foc_ev hf h).2.1]
      | none =>
        refine .inr (.inr ⟨wriB (TM i) ops[i].op (HP i) (H i), _, ?_, by rw [hfo, hf], by unfold wr; rw [hfo, hf]; simp only [ho], hble⟩)
        rw [hmk]; unfold dmkA; rw [hw, hp, hf]
theorem ord_of {i j : Nat} (hi : i < ops.size) (hj : j < ops.size) (hne : j ≠ i) (hq : ¬ Quiet HP H i) (hid : idleM (mkOf cx ops TM HP H j) = false) (hap : apartM (mkOf cx ops TM HP H i) (mkOf cx ops TM HP H j) = false) :
    (j < i ∧ Before ops j i) ∨ (i < j ∧ Before ops i j) := by
  obtain ⟨ms, h1, h2⟩ := way.marks
  refine marks_of h1 (h2 i hi) (h2 j hj) hne ?_ hid hap
  rcases mk_of ok hext hcall hg way hi with ⟨-, h, -⟩ | ⟨β, w, h, -, h3, -⟩ | ⟨u, w, h, -, -, h3⟩
  · exact absurd h hq
  · rw [h]; exact h3 hq
  · rw [h]; exact h3 hq
theorem near {i j b : Nat} (hi : i < ops.size) (h : Touch ops TM HP H j b) (hb : ∀ β, foc ops TM i = some β → b = β) : apartM (mkOf cx ops TM HP H j) (mkOf cx ops TM HP H i) = false := by
  rcases mk_of ok hext hcall hg way h.1 with ⟨-, h1, -⟩ | ⟨β, w, h1, h2, -, -⟩ | ⟨u, w, h1, -, h2, -⟩
  · exact absurd h1 h.2.1
  · rcases mk_of ok hext hcall hg way hi with ⟨k1, -, -⟩ | ⟨β', w', k1, k2, -, -⟩ | ⟨u', w', k1, -, -, -⟩
    · rw [h1]
      cases hm : mkOf cx ops TM HP H i with
      | idle => rfl
      | one b w => rw [hm] at k1; cases k1
      | whole u w => rw [hm] at k1; cases k1
    · rw [h1, k1]
      have e1 := h.2.2.2 β (wr_foc h2)
      have e2 := hb β' k2
      subst e1
      subst e2
      simp [apartM]
    · rw [h1, k1]; rfl
  · rw [h1]
    cases u with
    | none => cases mkOf cx ops TM HP H i <;> rfl
    | some β =>
      rcases mk_of ok hext hcall hg way hi with ⟨k1, -, -⟩ | ⟨β', w', k1, k2, -, -⟩ | ⟨u', w', k1, -, -, -⟩
      · cases hm : mkOf cx ops TM HP H i with
        | idle => rfl
        | one b w => rw [hm] at k1; cases k1
        | whole u w => rw [hm] at k1; cases k1
      · rw [k1]
        have e1 := h.2.2.2 β h2
        have e2 := hb β' k2
        subst e1
        subst e2
        cases w' <;> simp [apartM]
      · rw [k1]; rfl
variable {m0 : Emb} {w0 : World} {dl : List Deferred} {D : Nat → Prop} {m : Emb} {a : Act} {w : World} (ds : DS cx m0 w0 TM HP H sz ops dl D m a w)
include ds
theorem agree {i b k : Nat} (hi : i < ops.size) (hn : ¬ D i) (hdep : Dep ops D i) (hid : idleM (mkOf cx ops TM HP H i) = false) (hfo : ∀ β, foc ops TM i = some β → b = β) (hb : b < (HP i).nx) (hk : Fst ops TM HP H D b k) : (HP k).tr.get b = (HP i).tr.get b := by
  obtain ⟨k1, k2, k3⟩ := hk
  have hki : i ≤ k := by
    rcases Nat.lt_or_ge k i with h | h
    · exfalso
      rcases k3 with k3 | ⟨k3, k4⟩
      · omega
      · rcases ord_of ok hext hcall hg way k3.1 hi (by omega) k3.2.1 hid (near ok hext hcall hg way hi k3 hfo) with ⟨h1, -⟩ | ⟨-, h1⟩
        · omega
        · exact k4 (h1.mem ds.closed hdep)
    · exact h
  refine way_same' hg way hki k1 hb (fun y h1 h2 ht => ?_)
  have hd := k2 y h2 ht
  have hyi : i ≠ y := fun h => by subst h; exact hn hd
  rcases ord_of ok hext hcall hg way ht.1 hi hyi ht.2.1 hid (near ok hext hcall hg way hi ht hfo) with ⟨-, h3⟩ | ⟨h3, -⟩
  · exact hn (h3.mem ds.closed (ds.closed y hd))
  · omega
theorem ds_step {i : Nat} {o : Oper} (ho : ops[i]? = some o) (hn : ¬ D i) (hdep : Dep ops D i) {K : Act → World → Prop} {Q : Exit → Act → World → Prop}
    (hk : ∀ m' a' w', DS cx m0 w0 TM HP H sz ops dl (fun j => D j ∨ j = i) m' a' w' → K a' w') : if Region.wanted o (yielded ops a.tmps) = true then o.wpIn (Fw r0) 0 P a w K Q else K (a.put o.dst undef) w := by
  have hi : i < ops.size := by
    rcases Nat.lt_or_ge i ops.size with h | h
    · exact h
    · rw [Array.getElem?_eq_none h] at ho; cases ho
  have c := way.chain i o ho
  obtain ⟨Y, hY, hYn, inv⟩ := ds.heap
  have tr : TR m ((TM i).only (looksA o ops.toList)) a sz dl := ⟨ds.size, ds.defers, fun t v hv => by
    rw [get_only] at hv
    split at hv
    · rename_i ht; exact ds_slot hg way ds ho hn hdep ht hv
    · cases hv⟩
  have hlook : ∀ t, t ∈ looksA o ops.toList → ((TM i).only (looksA o ops.toList)).get t = (TM i).get t := fun t ht => by rw [get_only, if_pos ht]
  have hsub : ∀ j, (D j ∨ j = i) → j < ops.size := fun j hj => by
    rcases hj with hj | rfl
    · exact ds.sub j hj
    · exact hi
  have hcl := ds_closed hg way ds hdep
  have n0i : (HP 0).nx ≤ (HP i).nx := way_nx' hg way (Nat.zero_le _) (by omega)
  have niN : (HP (i + 1)).nx ≤ (HP ops.size).nx := way_nx' hg way (by omega) (Nat.le_refl _)
  have nii : (HP i).nx ≤ (HP (i + 1)).nx := way_nx' hg way (by omega) (by omega)
  have hYdom : ∀ b ob, Y.tr.get b = some ob → b < (HP ops.size).nx := fun b ob h => by rw [← hYn]; exact inv.dom b ob h
  have hfoo : foc ops TM i = focA (TM i) o.op := by unfold foc; rw [ho]
  obtain ⟨v, hput, ⟨hw, rfl, hH⟩ | ⟨hw, hev⟩⟩ := way_put hg way ho
  · -- not carried out
    have hwant := wantA_ok ds.gw.as tr (o := o) (ops := ops) (b := false) (by rw [wantA_congr hlook]; exact hw)
    rw [hwant, if_neg (by simp)]
    have hq : Quiet HP H i := by unfold Quiet; rw [hH]; exact Nat.le_refl _
    obtain ⟨s1, s2, s3, s4⟩ := ds_vals hg way ds ho hn (Emb.le_refl m) hput (undef_rv m)
    exact hk m _ w ⟨hsub, hcl, s1, s2, s3, s4, ⟨Y, fun b k h => hY b k (fst_drop (fun ht => ht.2.1 hq) h), hYn, inv⟩, fun j h1 h2 => ds.fresh j h1 (fun h => h2 (.inl h)), ds.gw, ds.cum⟩
  · have hwant := wantA_ok ds.gw.as tr (o := o) (ops := ops) (b := true) (by rw [wantA_congr hlook]; exact hw)
    rw [hwant, if_pos rfl]
    have hcon : ∀ h, evOp cx call ((TM i).only (looksA o ops.toList)) h o.op = evOp cx call (TM i) h o.op := fun h => evOp_congr (fun t ht => hlook t (ops_looks ht))
    by_cases hp : pureOp o.op = true
    · -- it looks at no memory
      have hH := way_pure ok hext hcall hg way ho hp
      have hq : Quiet HP H i := by unfold Quiet; rw [hH]; exact Nat.le_refl _
      obtain ⟨r, hr⟩ := evOp_pure (cx := cx) (call := call) (tm := TM i) hp
      have hrv : r = some v := by rw [hr] at hev; exact (lift_keep hev).1
      have hev2 : evOp cx call ((TM i).only (looksA o ops.toList)) { tr := Y.tr, nx := Y.nx, lo := Y.nx } o.op = some [(.ret v, { tr := Y.tr, nx := Y.nx, lo := Y.nx })] := by
        rw [hcon, hr, hrv]; rfl
      refine evOp1_ok ok hext hcall tr (inv.relo _) ds.gw (fun b h1 h2 => by simp only at h1 h2; omega) hev2 (fun m' w' v' st rv => ?_)
      have hme : ∀ b, m' b = m b := fun b => by
        by_cases hb : b < Y.nx
        · exact (st.low b hb hb).2
        · exact st.far b (by simp only; omega)
      obtain ⟨s1, s2, s3, s4⟩ := ds_vals hg way ds ho hn st.le hput rv
      refine hk m' _ w' ⟨hsub, hcl, s1, s2, s3, s4, ⟨{ tr := Y.tr, nx := Y.nx, lo := Y.nx }, fun b k h => hY b k (fst_drop (fun ht => ht.2.1 hq) h), hYn, st.inv⟩, fun j h1 h2 b h3 h4 => ?_, ds.gw.step st, ds.cum.step st (by simp only; omega) (fun b h1 h2 => ?_)⟩
      · rw [hme]
        exact ds.fresh j h1 (fun h => h2 (.inl h)) b h3 h4
      · simp only
        omega
    · have hp : pureOp o.op = false := by simpa using hp
      have hmk : mkOf cx ops TM HP H i = dmkA cx ops.toList o (TM i) (HP i) (H i) := by unfold mkOf; rw [ho]
      have hid : idleM (mkOf cx ops TM HP H i) = false := by
        rw [hmk]; unfold dmkA; rw [hw, hp]
        cases focA (TM i) o.op <;> rfl
      have hfr : Fresh m (HP i).nx (H i).nx := fun b h1 h2 => ds.fresh i hi hn b h1 (by rw [c.nx]; exact h2)
      have hagree : ∀ b, (∀ β, foc ops TM i = some β → b = β) → b < (HP i).nx → Y.tr.get b = (HP i).tr.get b := fun b h1 h2 => by
        obtain ⟨k, hk⟩ := fst_ex ops TM HP H D b
        rw [hY b k hk]
        exact agree ok hext hcall hg way ds hi hn hdep hid h1 h2 hk
      obtain ⟨Z, Z', z1, z2, z3, z4, z5, z6, z7, z8, z9, z10⟩ : ∃ Z Z' : Hp, Z.nx = (HP i).nx ∧ Z.lo = (HP i).nx ∧ (∀ b, b < (HP i).nx → Z.tr.get b = Y.tr.get b) ∧ (∀ b ob, Z.tr.get b = some ob → b < (HP i).nx) ∧
          evOp cx call (TM i) Z o.op = some [(.ret v, Z')] ∧ Z'.nx = (H i).nx ∧ (∀ b, b < (HP i).nx → ¬ Touch ops TM HP H i b → Z'.tr.get b = Y.tr.get b) ∧
          (∀ b, b < (H i).nx → ((HP i).nx ≤ b ∨ Touch ops TM HP H i b) → Z'.tr.get b = (H i).tr.get b) ∧ (Quiet HP H i → (HP i).nx ≤ Z'.lo) ∧ (∀ x, x ≤ (H i).lo → x ≤ (HP i).nx → x ≤ Z'.lo) := by
        cases hf : focA (TM i) o.op with
        | none =>
          have hag : ∀ b, b < (HP i).nx → Y.tr.get b = (HP i).tr.get b := fun b hb => hagree b (fun β h => by rw [hfoo, hf] at h; cases h) hb
          refine ⟨{ tr := (HP i).tr, nx := (HP i).nx, lo := (HP i).nx }, H i, rfl, rfl, fun b hb => (hag b hb).symm, way_dom hg way i (by omega), hev, rfl, fun b hb ht => ?_, fun _ _ _ => rfl, fun h => h, fun x h _ => h⟩
          rw [way_keep hg way hi hb ht, hag b hb]
        | some β =>
          obtain ⟨⟨ob, hob⟩, f1, f2, f3⟩ := foc_ev hf hev
          have hβ : β < (HP i).nx := way_dom hg way i (by omega) β ob hob
          have hag := hagree β (fun β' h => by rw [hfoo, hf] at h; injection h) hβ
          obtain ⟨t, ht⟩ := Tr.exists_fun (fun b => Y.tr.get b) (HP i).nx
          obtain ⟨Z', e1, e2, e3, e4, e5⟩ := f3 { tr := t, nx := (HP i).nx, lo := (HP i).nx } (by simp only; rw [ht, if_pos hβ, hag])
          refine ⟨{ tr := t, nx := (HP i).nx, lo := (HP i).nx }, Z', rfl, rfl, fun b hb => by simp only; rw [ht, if_pos hb], fun b ob hb => ?_, e1, by rw [e2, f1], fun b hb hnt => ?_, fun b hb hor => ?_, fun hq => ?_, fun x h1 h2 => ?_⟩
          · simp only at hb
            rw [ht] at hb
            split at hb
            · assumption
            · cases hb
          · by_cases hbβ : b = β
            · subst hbβ
              rw [e3, way_keep hg way hi hb hnt, hag]
            · rw [e4 b hbβ]
              simp only
              rw [ht, if_pos hb]
          · rcases hor with h | h
            · rw [f1] at hb; simp only at hb; omega
            · have := h.2.2.2 β (wr_foc (by rw [hfoo, hf]))
              subst this
              exact e3
          · rcases e5 with ⟨e5, -⟩ | ⟨-, e6⟩
            · rw [e5]; exact Nat.le_refl _
            · exfalso
              unfold Quiet at hq
              rw [e6] at hq
              have := least_le_left β (HP i).nx
              simp only at hq
              omega
          · rcases e5 with ⟨e5, -⟩ | ⟨e5, e6⟩
            · rw [e5]; exact h2
            · rw [e5]
              rw [e6] at h1
              exact h1
      have invZ : Inv m Z w.heap := by
        refine ⟨fun b e ob h1 h2 h3 => ?_, inv.inj, inv.low, fun b ob h => by rw [z1]; exact z4 b ob h⟩
        exact inv.obj b e ob h1 (by rw [← z3 b (z4 b ob h2)]; exact h2) h3
      have hev2 : evOp cx call ((TM i).only (looksA o ops.toList)) Z o.op = some [(.ret v, Z')] := by rw [hcon]; exact z5
      refine evOp1_ok ok hext hcall tr invZ ds.gw (by rw [z1, z6]; exact hfr) hev2 (fun m' w' v' st rv => ?_)
      obtain ⟨s1, s2, s3, s4⟩ := ds_vals hg way ds ho hn st.le hput rv
      obtain ⟨t, ht⟩ := Tr.exists_fun (fun b => if b < (HP (i + 1)).nx then Z'.tr.get b else Y.tr.get b) (HP ops.size).nx
      have hnew : ∀ b, ((HP i).nx ≤ b ∧ b < (HP (i + 1)).nx) → foc ops TM i = none := fun b hb => by
        rcases mk_of ok hext hcall hg way hi with ⟨-, -, h⟩ | ⟨β, w, -, -, -, h⟩ | ⟨u, w, -, h, -, -⟩
        · omega
        · omega
        · exact h
      have tb : ∀ b k, Fst ops TM HP H (fun j => D j ∨ j = i) b k → (if b < (HP ops.size).nx then (if b < (HP (i + 1)).nx then Z'.tr.get b else Y.tr.get b) else none) = (HP k).tr.get b := fun b k hf => by
        by_cases hbN : b < (HP ops.size).nx
        · rw [if_pos hbN]
          by_cases hb1 : b < (HP (i + 1)).nx
          · rw [if_pos hb1]
            by_cases hor : (HP i).nx ≤ b ∨ Touch ops TM HP H i b
            · rw [z8 b (by rw [← c.nx]; exact hb1) hor, ← c.tr]
              have hfo : ∀ β, foc ops TM i = some β → b = β := fun β hβ => by
                rcases hor with h | h
                · rw [hnew b ⟨h, hb1⟩] at hβ; cases hβ
                · exact h.2.2.2 β (wr_foc hβ)
              obtain ⟨k1, k2, k3⟩ := hf
              have hik : i + 1 ≤ k := by
                rcases k3 with k3 | ⟨k3, k4⟩
                · omega
                · rcases Nat.lt_trichotomy k i with h | h | h
                  · exfalso
                    rcases hor with h5 | h5
                    · have := way_nx' hg way (i := k) (k := i) (by omega) (by omega)
                      have := k3.2.2.1
                      omega
                    · rcases ord_of ok hext hcall hg way k3.1 hi (by omega) k3.2.1 hid (near ok hext hcall hg way hi k3 hfo) with ⟨h1, -⟩ | ⟨-, h1⟩
                      · omega
                      · exact k4 (.inl (h1.mem ds.closed hdep))
                  · exact absurd (.inr h) k4
                  · omega
              refine (way_same' hg way hik k1 hb1 (fun y h1 h2 htc => ?_)).symm
              have hd : D y := (k2 y h2 htc).resolve_right (by omega)
              rcases ord_of ok hext hcall hg way htc.1 hi (by omega) htc.2.1 hid (near ok hext hcall hg way hi htc hfo) with ⟨-, h3⟩ | ⟨h3, -⟩
              · exact hn (h3.mem ds.closed (ds.closed y hd))
              · omega
            · have hnt : ¬ Touch ops TM HP H i b := fun h => hor (.inr h)
              rw [z7 b (by omega) hnt]
              exact hY b k (fst_drop hnt hf)
          · rw [if_neg hb1]
            exact hY b k (fst_drop (fun h => by have := h.2.2.1; omega) hf)
        · rw [if_neg hbN]
          cases hg2 : (HP k).tr.get b with
          | none => rfl
          | some ob =>
            have h1 := way_dom hg way k hf.1 b ob hg2
            have h2 := way_nx' hg way hf.1 (Nat.le_refl _)
            omega
      refine hk m' _ w' ⟨hsub, hcl, s1, s2, s3, s4, ⟨{ tr := t, nx := (HP ops.size).nx, lo := (HP ops.size).nx }, fun b k hf => ?_, rfl, ⟨fun b e ob h1 h2 h3 => ?_, st.inv.inj, st.inv.low, fun b ob h => ?_⟩⟩, fun j h1 h2 b h3 h4 => ?_, ds.gw.step st, ds.cum.step st (by rw [z6, ← c.nx]; exact niN) (fun b h1 h2 => ?_)⟩
      · simp only
        rw [ht]
        exact tb b k hf
      · simp only at h2
        rw [ht] at h2
        split at h2
        · split at h2
          · exact st.inv.obj b e ob h1 h2 h3
          · rename_i hb2
            rw [st.far b (by rw [z6, ← c.nx]; omega)] at h1
            obtain ⟨l1, l2⟩ := inv.obj b e ob h1 h2 h3
            refine ⟨l1, (l2.mono st.le).heap (st.keep e.c (inv.low b e h1) (fun b0 e0 k1 k2 k3 k4 => ?_))⟩
            have := inv.inj b0 b e0 e k2 h1 k3 l1 k4
            rw [z1] at k1
            omega
        · cases h2
      · simp only at h ⊢
        rw [ht] at h
        split at h
        · assumption
        · cases h
      · by_cases hji : j = i
        · exact absurd (.inr hji) h2
        · have hdj : ¬ D j := fun h => h2 (.inl h)
          have hmn := ds.fresh j h1 hdj b h3 h4
          rcases Nat.lt_or_gt_of_ne hji with hlt | hgt
          · have hb : b < (HP i).nx := by
              have := way_nx' hg way (i := j + 1) (k := i) (by omega) (by omega)
              omega
            by_cases hq : Quiet HP H i
            · rw [(st.low b (by rw [z1]; exact hb) (Nat.lt_of_lt_of_le hb (z9 hq))).2]
              exact hmn
            · exfalso
              rcases mk_of ok hext hcall hg way h1 with ⟨-, -, h⟩ | ⟨β, w, -, -, -, h⟩ | ⟨u, w, h, -, -, -⟩
              · omega
              · omega
              · rcases ord_of ok hext hcall hg way hi h1 hji hq (by rw [h]; rfl) (by rw [h]; cases mkOf cx ops TM HP H i with | idle => rfl | one b w => rfl | whole u w => cases u <;> rfl) with ⟨-, h5⟩ | ⟨h5, -⟩
                · exact hdj (h5.mem ds.closed hdep)
                · omega
          · have := way_nx' hg way (i := i + 1) (k := j) (by omega) (by omega)
            rw [st.far b (by rw [z6, ← c.nx]; omega)]
            exact hmn
      · have hl := way_lo' hg way (i := i + 1) (k := ops.size) (by omega) (Nat.le_refl _)
        have hl2 := c.lo2
        have hbi : b < (HP i).nx := by omega
        refine ⟨by rw [z1]; exact hbi, ?_⟩
        have := z10 (b + 1) (by omega) (by omega)
        omega
end
end Go.Proofs.YtaepplhgeeaidaaDoor.Ev
end
section
set_option linter.unusedVariables false
set_option linter.unusedSimpArgs false
set_option linter.unusedSectionVars false
namespace Go.Proofs.YtaepplhgeeaidaaDoor.Ev
open Go Go.RowKit
def Ld (l : Array Bool) (i : Nat) : Prop := l.getD i false = true
theorem ld_set {l : Array Bool} {i : Nat} (hi : i < l.size) : Ld (l.setIfInBounds i true) = fun j => Ld l j ∨ j = i := by
  funext j
  unfold Ld
  simp only [Array.getD_eq_getD_getElem?]
  by_cases hj : i = j
  · subst hj
    simp [hi]
  · rw [Array.getElem?_setIfInBounds_ne hj]
    exact propext ⟨.inl, fun h => h.elim id (fun h => absurd h.symm hj)⟩
def todo (l : Array Bool) : Nat := (l.toList.filter (fun b => !b)).length
theorem todo_list : ∀ (l : List Bool) (i : Nat), l[i]? = some false → ((l.set i true).filter (fun b => !b)).length + 1 = (l.filter (fun b => !b)).length := by
  intro l
  induction l with
  | nil => intro i h; simp at h
  | cons b l ih =>
    intro i h
    cases i with
    | zero =>
      simp only [List.getElem?_cons_zero, Option.some.injEq] at h
      subst h
      simp
    | succ i =>
      simp only [List.getElem?_cons_succ] at h
      have := ih i h
      rw [List.set_cons_succ]
      cases b <;> simp only [List.filter_cons, Bool.not_false, Bool.not_true, if_true, Bool.false_eq_true, if_false, List.length_cons] <;> omega
theorem todo_set {l : Array Bool} {i : Nat} (hi : i < l.size) (h : ¬ Ld l i) : todo (l.setIfInBounds i true) + 1 = todo l := by
  unfold todo
  rw [Array.toList_setIfInBounds]
  refine todo_list _ _ ?_
  unfold Ld at h
  rw [Array.getD_eq_getD_getElem?, Array.getElem?_eq_getElem hi] at h
  rw [Array.getElem?_toList, Array.getElem?_eq_getElem hi]
  simpa using h
theorem todo_zero {l : Array Bool} (h : todo l = 0) {i : Nat} (hi : i < l.size) : Ld l i := by
  refine Classical.byContradiction (fun hn => ?_)
  have := todo_set hi hn
  omega
theorem ready_iff {ops : Array Oper} {l : Array Bool} (hs : l.size = ops.size) {i : Nat} : i ∈ Region.ready .any ops l ↔ i < ops.size ∧ ¬ Ld l i ∧ Dep ops (Ld l) i := by
  unfold Region.ready
  rw [List.mem_filter, List.mem_range]
  constructor
  · rintro ⟨h1, h2⟩
    rw [Bool.and_eq_true] at h2
    obtain ⟨h2, h3⟩ := h2
    refine ⟨h1, ?_, fun o ho e he hb => ?_⟩
    · unfold Ld
      rw [Array.getD_eq_getD_getElem?, Array.getElem?_eq_getElem (by omega)] at h2 ⊢
      simpa using h2
    · rw [ho] at h3
      simp only [Option.map_some, Option.getD_some] at h3
      rw [← Array.all_toList, List.all_eq_true] at h3
      have := h3 e he
      rw [hb] at this
      unfold Ld
      simpa using this
  · rintro ⟨h1, h2, h3⟩
    refine ⟨h1, ?_⟩
    rw [Bool.and_eq_true]
    constructor
    · unfold Ld at h2
      rw [Array.getD_eq_getD_getElem?, Array.getElem?_eq_getElem (by omega)] at h2 ⊢
      simpa using h2
    · have ho : ops[i]? = some ops[i] := Array.getElem?_eq_getElem h1
      rw [ho]
      simp only [Option.map_some, Option.getD_some]
      rw [← Array.all_toList, List.all_eq_true]
      intro e he
      by_cases hb : Region.binds .any e = true
      · have := h3 _ ho e he hb
        unfold Ld at this
        rw [hb]
        simpa using this
      · simp [hb]
theorem all_listed {ops : Array Oper} (hback : backA ops.toList = true) {l : Array Bool} (hs : l.size = ops.size) (h : Region.ready .any ops l = []) : ∀ i, i < ops.size → Ld l i := by
  intro i
  induction i using Nat.strongRecOn with
  | _ i ih =>
    intro hi
    refine Classical.byContradiction (fun hn => ?_)
    have : i ∈ Region.ready .any ops l := (ready_iff hs).2 ⟨hi, hn, fun o ho e he hb => ih _ (back_of hback ho he hb) (by have := back_of hback ho he hb; omega)⟩
    rw [h] at this
    cases this
section
variable {r0 : Option Nat} {P : Program} {cx : Cx} (ok : CxOk P cx) (hext : ExtOk P cx) {call : CallF} (hcall : CallOk P cx call) (hg : GrowOk call) {sz : Nat} {ops : Array Oper} {TM : Nat → Tr Value} {HP H : Nat → Hp} (way : Way cx call sz ops TM HP H)
include ok hext hcall hg way
theorem any_ok {m0 : Emb} {w0 : World} {dl : List Deferred} {Q : Exit → Act → World → Prop} (hq : ∀ m a w, DS cx m0 w0 TM HP H sz ops dl (fun i => i < ops.size) m a w → Q .normal a w) :
    ∀ (fuel : Nat) (l : Array Bool) (m : Emb) (a : Act) (w : World), l.size = ops.size → todo l ≤ fuel → DS cx m0 w0 TM HP H sz ops dl (Ld l) m a w → wpAnyIn (Fw r0) 0 P .any ops Q fuel l a w := by
  intro fuel
  have done : ∀ (l : Array Bool) (m : Emb) (a : Act) (w : World), DS cx m0 w0 TM HP H sz ops dl (Ld l) m a w → (∀ i, i < ops.size → Ld l i) → Q .normal a w := fun l m a w ds hall => by
    have : Ld l = fun i => i < ops.size := by
      funext i
      exact propext ⟨fun h => ds.sub i h, fun h => hall i h⟩
    rw [this] at ds
    exact hq m a w ds
  induction fuel with
  | zero =>
    intro l m a w hs ht ds
    have hall : ∀ i, i < ops.size → Ld l i := fun i hi => todo_zero (by omega) (by omega)
    refine ⟨?_, done l m a w ds hall⟩
    cases hr : Region.ready .any ops l with
    | nil => rfl
    | cons i t =>
      have : i ∈ Region.ready .any ops l := by rw [hr]; exact List.mem_cons_self
      obtain ⟨h1, h2, -⟩ := (ready_iff hs).1 this
      exact absurd (hall i h1) h2
  | succ fuel ih =>
    intro l m a w hs ht ds
    refine ⟨fun hr => done l m a w ds (all_listed way.back hs hr), fun i hi => ?_⟩
    obtain ⟨h1, h2, h3⟩ := (ready_iff hs).1 hi
    have ho : ops[i]? = some ops[i] := Array.getElem?_eq_getElem h1
    have key := ds_step (r0 := r0) ok hext hcall hg way ds ho h2 h3 (K := wpAnyIn (Fw r0) 0 P .any ops Q fuel (l.setIfInBounds i true)) (Q := Q) (fun m' a' w' ds' => by
      have hil : i < l.size := by omega
      have := todo_set hil h2
      exact ih (l.setIfInBounds i true) m' a' w' (by simpa using hs) (by omega) (by rw [ld_set hil]; exact ds'))
    unfold wpOpIn
    rw [ho]
    simp only
    split
    · rename_i hw; rw [if_pos hw] at key; exact key
    · rename_i hw; rw [if_neg hw] at key; exact ⟨fun _ _ => trivial, key⟩
end
theorem draws_ok {P : Program} {cx : Cx} (ok : CxOk P cx) (hext : ExtOk P cx) (hmix : P.follows .mixedOrders = true) {call : CallF} (hcall : CallOk P cx call) (hg : GrowOk call) : DrawsOk P cx call := by
  intro r0 sz id dl ops m tm tm' hp hp' w a Q tr inv gw hf hd hev hq
  have g := evDraw_grow hg hev
  obtain ⟨TM, HP, H, ml, t1, t2, t3, t4, t5, t6, t7⟩ := chain_of ops.toList 0 _ _ _ _ _ hev
  rw [Nat.zero_add, Array.length_toList] at t3 t4
  unfold drawOk at hd
  rw [Bool.and_eq_true] at hd
  have way : Way cx call sz ops TM HP H := ⟨fun i o ho => by have := t5 i o (by simpa using ho); rwa [Nat.zero_add] at this, ⟨ml, by rw [List.nil_append] at t7; exact t7, fun i hi => by
    have ho : ops[i]? = some ops[i] := Array.getElem?_eq_getElem hi
    have := t6 i ops[i] (by simp)
    rw [this, Nat.zero_add]
    unfold mkOf
    rw [ho]⟩, hd.1, hd.2, by rw [t2]; exact inv.dom⟩
  refine wpIn_region_any hmix ?_
  have hsz : (Array.replicate ops.size false).size = ops.size := by simp
  have hne : ∀ i, ¬ Ld (Array.replicate ops.size false) i := fun i h => by
    unfold Ld at h
    rw [Array.getD_eq_getD_getElem?] at h
    by_cases hi : i < ops.size
    · simp [hi] at h
    · simp [hi] at h
  have hst : Step m hp w m hp { w with drawn := w.drawn + 1 } := .drawn inv _
  refine any_ok (r0 := r0) (dl := dl) ok hext hcall hg way (m0 := m) (w0 := { w with drawn := w.drawn + 1 }) (fun m' a' w' ds => ?_) ops.size _ m a _ hsz ?_ ?_
  · -- all has been carried out
    obtain ⟨Y, hY, hYn, invY⟩ := ds.heap
    have hall : ∀ b, Y.tr.get b = (HP ops.size).tr.get b := fun b => hY b ops.size ⟨Nat.le_refl _, fun y hy _ => hy, .inl rfl⟩
    have invX : Inv m' (HP ops.size) w'.heap := ⟨fun b e ob h1 h2 h3 => invY.obj b e ob h1 (by rw [hall]; exact h2) h3, invY.inj, invY.low, way_dom hg way _ (Nat.le_refl _)⟩
    have c := ds.cum
    rw [t2, t4] at c
    rw [t4] at invX
    refine hq m' w' a' ⟨c.le, invX, c.os, c.tape, c.output, c.size, c.keep, c.rng, c.far, g.nx, g.lo, fun b h1 h2 => ⟨g.low b h1 h2, c.low b h1 h2⟩⟩ ⟨ds.size, ds.defers, fun t v hv => ?_⟩
    rcases last_writer (ops := ops) t ops.size with ⟨j, o, k1, k2, k3, k4⟩ | k
    · refine ds.valA j o t k1 k2 k3 (fun i o' h1 h2 h3 => k4 i o' h1 h2 h3) v ?_
      rw [← way_tm' hg way (t := t) (i := j + 1) (k := ops.size) (by omega) (Nat.le_refl _) (fun i o' h1 h2 h3 => k4 i o' (by omega) h2 h3), t3]
      exact hv
    · refine ds.valB t (fun i o' h1 h2 => k i o' h1 h2) v ?_
      rw [← way_tm' hg way (t := t) (i := 0) (k := ops.size) (by omega) (Nat.le_refl _) (fun i o' _ h2 h3 => k i o' h2 h3), t3]
      exact hv
  · -- so many are to be carried out
    unfold todo
    have h1 := List.length_filter_le (fun b => !b) (Array.replicate ops.size false).toList
    exact Nat.le_trans h1 (by simp)
  · -- the beginning
    have hfr : Fresh m (HP 0).nx (HP ops.size).nx := by rw [t2, t4]; exact hf
    have inv0 : Inv m (HP 0) w.heap := by rw [t2]; exact inv
    let F : Nat → Nat := fun b => Classical.choose (fst_ex ops TM HP H (Ld (Array.replicate ops.size false)) b)
    have hF : ∀ b, Fst ops TM HP H (Ld (Array.replicate ops.size false)) b (F b) := fun b => Classical.choose_spec (fst_ex ops TM HP H (Ld (Array.replicate ops.size false)) b)
    obtain ⟨t, ht⟩ := Tr.exists_fun (fun b => (HP (F b)).tr.get b) (HP ops.size).nx
    refine ⟨fun i h => absurd h (hne i), fun j h => absurd h (hne j), tr.size, tr.defers, fun i o t h => absurd h (hne i), fun t _ v hv => tr.val t v (by rw [t1] at hv; exact hv),
      ⟨{ tr := t, nx := (HP ops.size).nx, lo := (HP ops.size).nx }, fun b k hk => ?_, rfl, ⟨fun b e ob h1 h2 h3 => ?_, inv.inj, inv.low, fun b ob h => ?_⟩⟩, fun j h1 _ b h2 h3 => ?_, gw, ?_⟩
    · simp only
      rw [ht]
      split
      · rw [fst_one (hF b) hk]
      · rename_i hb
        cases hg2 : (HP k).tr.get b with
        | none => rfl
        | some ob =>
          have h1 := way_dom hg way k hk.1 b ob hg2
          have h2 := way_nx' hg way hk.1 (Nat.le_refl _)
          omega
    · simp only at h2
      rw [ht] at h2
      split at h2
      · rename_i hbN
        by_cases hb : b < (HP 0).nx
        · rw [way_same' hg way (Nat.zero_le _) (hF b).1 hb (fun y _ h2 h3 => hne y ((hF b).2.1 y h2 h3))] at h2
          exact inv0.obj b e ob h1 h2 h3
        · rw [hfr b (by omega) hbN] at h1
          cases h1
      · cases h2
    · simp only at h ⊢
      rw [ht] at h
      split at h
      · assumption
      · cases h
    · have h4 := way_nx' hg way (i := 0) (k := j) (Nat.zero_le _) (by omega)
      have h5 := way_nx' hg way (i := j + 1) (k := ops.size) (by omega) (Nat.le_refl _)
      exact hfr b (by omega) (by omega)
    · refine ⟨Emb.le_refl m, rfl, rfl, rfl, Nat.le_refl _, fun _ _ _ => rfl, fun b e hb he hl => ?_, fun _ _ => rfl, fun _ _ _ => rfl⟩
      by_cases hbn : b < (HP 0).nx
      · exact .inl ⟨b, e, hbn, he, hl, rfl⟩
      · rw [hfr b (by omega) hb] at he
        cases he
theorem calls_ok {P : Program} {cx : Cx} (ok : CxOk P cx) (hext : ExtOk P cx) (hmix : P.follows .mixedOrders = true) (n d : Nat) : CallOk P cx (evFn cx n d) := by
  have key : ∀ d, CallOk P cx (evFn cx n d) := by
    intro d
    induction d with
    | zero => intro c args hp l h; rw [evFn_zero] at h; cases h
    | succ d ih => exact evFn_step ok hext n d ih (draws_ok ok hext hmix ih (evFn_grow cx (fun f o h => (hext.orc f o h).2.1) n d))
  exact key d
end Go.Proofs.YtaepplhgeeaidaaDoor.Ev
end
section
set_option linter.unusedVariables false
set_option linter.unusedSimpArgs false
namespace Go.Proofs.YtaepplhgeeaidaaDoor.Ev
open Go Go.RowKit
theorem cx_ok (P : Program) (ex : List (FuncId × ExtK)) (me : List (TypeId × String × FuncId)) (gv : List (Nat × Tr Value)) (orc : List (FuncId × OrcF) := []) (as : List (Value × Bool) := []) (U : Nat → List Value → Option Value := fun _ _ => none) : CxOk P (cxOf P ex me gv orc as U) := by
  refine ⟨rfl, fun t ti h => ?_, fun f fi h => ?_⟩
  · unfold Cx.t cxOf at h
    simp only [Tr.get_putList] at h
    split at h
    · rename_i o ho
      split at ho
      · rename_i hr
        simp only [Nat.sub_zero, List.getElem?_map, List.length_map, List.length_range] at ho hr
        rw [List.getElem?_range (by omega)] at ho
        simp only [Option.map_some, Option.some.injEq] at ho
        rw [ho]; exact h
      · simp [Tr.get_nil] at ho
    · cases h
  · unfold Cx.f cxOf at h
    simp only [Tr.get_putList] at h
    split at h
    · rename_i o ho
      split at ho
      · rename_i hr
        simp only [Nat.sub_zero, List.getElem?_map, Array.getElem?_toList] at ho
        cases hf : P.funcs[f]? with
        | none => rw [hf] at ho; cases ho
        | some fn =>
          rw [hf] at ho
          simp only [Option.map_some, Option.some.injEq] at ho
          exact ⟨fn, rfl, by rw [ho]; exact h⟩
      · simp [Tr.get_nil] at ho
    · cases h
def MethIs (P : Program) (t : TypeId) (nm : String) (f : FuncId) : Prop :=
  ∀ (v : Value) (w : World), (method (P.types.size + Made.depth) t v nm).run P w = .ok (f, v) w
theorem meth_is {P : Program} {t : TypeId} {nm : String} {f : FuncId} (h : methOf P t nm = some f) : MethIs P t nm f := by
  unfold methOf at h
  split at h
  · cases h
  rename_i i hi
  split at h
  · cases h
  rename_i d hd
  split at h
  · cases h
  rename_i q hq
  split at h
  case h_2 => cases h
  rename_i f' r hp hf
  have hp : q.path = #[] := by rw [← Array.toList_inj]; exact hp
  have hq : i.methods.find? (fun q => q.name == nm) = some q := by rw [← Array.find?_toList]; exact hq
  intro v w
  have hk : P.types.size + Made.depth = (P.types.size + (Made.depth - 1)) + 1 := rfl
  rw [hk]
  split at h
  · rename_i hpt
    cases h
    cases d <;> first | (cases hpt; done) | skip
    simp [method, typeInfo, hi, hq, hp, hf, follow, receiverAt, underlying, hd, Place.get]
  · rename_i hpt
    cases h
    cases d <;> first | (cases hpt; done) | skip
    all_goals simp [method, typeInfo, hi, hq, hp, hf, follow, receiverAt, underlying, hd, Place.get]
  · cases h
theorem ext_nil (P : Program) (gv : List (Nat × Tr Value) := []) (as : List (Value × Bool) := []) (U : Nat → List Value → Option Value := fun _ _ => none) : ExtOk P (cxOf P [] [] gv [] as U) := ⟨(fun f o h => by cases h), (fun f k h => by cases h), (fun t nm f h => meth_is h)⟩
theorem cx_o (P : Program) (p : FuncId × OrcF) (ex : List (FuncId × ExtK)) (me : List (TypeId × String × FuncId)) (gv : List (Nat × Tr Value)) (orc : List (FuncId × OrcF)) (as : List (Value × Bool)) (U : Nat → List Value → Option Value) (f : FuncId) :
    (cxOf P ex me gv (p :: orc) as U).o f = match Nat.beq p.1 f with | true => some p.2 | false => (cxOf P ex me gv orc as U).o f := rfl
theorem orc_cons {P : Program} {g : FuncId} {p : OrcF} {ex : List (FuncId × ExtK)} {me : List (TypeId × String × FuncId)} {gv : List (Nat × Tr Value)} {orc : List (FuncId × OrcF)} {as : List (Value × Bool)} {U : Nat → List Value → Option Value}
    (h : OrcIs P (cxOf P ex me gv [] as U) g p) (t : ExtOk P (cxOf P ex me gv orc as U)) : ExtOk P (cxOf P ex me gv ((g, p) :: orc) as U) := ⟨fun f o ho => by
  rw [cx_o] at ho
  split at ho
  · rename_i hb
    injection ho with ho
    obtain rfl := Nat.eq_of_beq_eq_true hb
    subst ho
    exact h
  · exact t.orc f o ho, fun f k hf => t.ex f k hf, fun u nm f hf => t.me u nm f hf⟩
def tell1 (b : Bool) : Res → Bool
  | .ret (.bool c) => c == b
  | _ => false
def tells (b : Bool) (r : RVal) : Bool := match r with
  | some l => l.all fun q => tell1 b q.1
  | _ => false
noncomputable def tell2 (cx : Cx) (b : Bool) : Res → Bool
  | .ret v => match boolA cx v with
    | some c => c == b
    | none => false
  | _ => false
noncomputable def tellsA (cx : Cx) (b : Bool) (r : RVal) : Bool := match r with
  | some l => l.all fun q => tell2 cx b q.1
  | _ => false
theorem tellsA_of {cx : Cx} {b : Bool} {r : RVal} (h : tells b r = true) : tellsA cx b r = true := by
  unfold tells at h
  unfold tellsA
  split at h
  · rename_i l
    rw [List.all_eq_true] at h ⊢
    intro q hq
    have := h q hq
    obtain ⟨r, hp⟩ := q
    cases r <;> first
      | (cases this; done)
      | skip
    rename_i v
    cases v <;> first
      | (cases this; done)
      | exact this
  · cases h
noncomputable def uOf (cx : Cx) (k : Nat) (vs : List Value) : Option Value := if k < 4 then opSem cx k vs else if k = 5 then none else if k < 16 then opRd cx.P (fun _ => none) k vs else cx.U (k - 16) vs
theorem uOf_ok (cx : Cx) (k : Nat) (vs : List Value) (hk : k ≠ 5) : uOf cx k vs = if k < 4 then opSem cx k vs else if k < 16 then opRd cx.P (fun a => uOf cx 5 [.pointer (some a)]) k vs else cx.U (k - 16) vs := by
  unfold uOf
  simp only [if_neg hk]
  rfl
theorem toldS2 {P : Program} {ex : List (FuncId × ExtK)} {me : List (TypeId × String × FuncId)} {gv : List (Nat × Tr Value)} {orc : List (FuncId × OrcF)} {as : List (Value × Bool)} {U : Nat → List Value → Option Value} (hx : ExtOk P (cxOf P ex me gv orc as U)) (hmix : P.follows .mixedOrders = true) {n d : Nat} {f : FuncId} {b : Bool} {N : Nat} {args args' : List Value}
    (h : tellsA (cxOf P ex me gv orc as U) b (evFn (cxOf P ex me gv orc as U) n d (.fn f) args ⟨.nil, N, N⟩) = true) (w : World) (s : Nat → Value)
    (hargs : RVs ⟨fun _ => none, s, uOf (cxOf P ex me gv orc as U)⟩ args args')
    (has : ∀ e b, (e, b) ∈ as → isSym e = true → ∀ d v, den s (uOf (cxOf P ex me gv orc as U)) d e = some v → tyOk 1 v = true → v = .bool b)
    (hgv : ∀ g t, (g, t) ∈ gv → ∃ cs ty fr, w.heap[g]? = some (.cells cs ty fr) ∧ ∀ (i : Nat) (v : Value), t.get i = some v → GC v cs[i]?) :
    Calls P f ⟨args'⟩ w (fun e w' => e = .returned (.bool b) ∧ Below w.heap.size w w') := by
  cases he : evFn (cxOf P ex me gv orc as U) n d (.fn f) args ⟨.nil, N, N⟩ with
  | none => rw [he] at h; cases h
  | some l =>
    rw [he] at h
    have inv : Inv ⟨fun _ => none, s, uOf (cxOf P ex me gv orc as U)⟩ (⟨.nil, N, N⟩ : Hp) w.heap := ⟨(fun _ _ _ h1 => by cases h1), (fun _ _ _ _ h1 => by cases h1), (fun _ _ h1 => by cases h1), (fun _ _ h1 => by rw [Tr.get_nil] at h1; cases h1)⟩
    have gw : GW (cxOf P ex me gv orc as U) ⟨fun _ => none, s, uOf (cxOf P ex me gv orc as U)⟩ w := ⟨fun g t hg => ⟨hgv g t hg, fun _ _ h1 => by cases h1⟩, ⟨fun k vs hk => uOf_ok (cxOf P ex me gv orc as U) k vs hk, has⟩, fun a v hv => by cases hv⟩
    obtain ⟨-, hC⟩ := calls_ok (cx_ok P ex me gv orc as U) hx hmix n d (.fn f) args _ _ he ⟨fun _ => none, s, uOf (cxOf P ex me gv orc as U)⟩ args' w gw inv hargs (fun r _ x _ _ => rfl)
    refine hC.mono fun e w' ⟨r, hp', hm, m', h2, h3⟩ => ?_
    have hb := List.all_eq_true.1 h _ hm
    rcases h3 with ⟨v, v', rfl, rfl, hv⟩ | ⟨v, v', rfl, rfl, hv⟩
    · have hb : (match boolA (cxOf P ex me gv orc as U) v with | some c => c == b | none => false) = true := hb
      split at hb
      · rename_i c hc
        have hcb : c = b := by simpa using hb
        subst hcb
        obtain rfl := boolA_ok (gw.as.mono h2.le) hv hc
        exact ⟨rfl, h2.os, h2.tape, h2.output, h2.size, fun k hk => h2.keep k hk (fun b e _ h1 => by cases h1)⟩
      · cases hb
    · cases hb
theorem toldS {P : Program} {ex : List (FuncId × ExtK)} {me : List (TypeId × String × FuncId)} {gv : List (Nat × Tr Value)} {orc : List (FuncId × OrcF)} {as : List (Value × Bool)} {U : Nat → List Value → Option Value} (hx : ExtOk P (cxOf P ex me gv orc as U)) (hmix : P.follows .mixedOrders = true) {n d : Nat} {f : FuncId} {b : Bool} {N : Nat} {args args' : List Value}
    (h : tells b (evFn (cxOf P ex me gv orc as U) n d (.fn f) args ⟨.nil, N, N⟩) = true) (w : World) (s : Nat → Value)
    (hargs : RVs ⟨fun _ => none, s, uOf (cxOf P ex me gv orc as U)⟩ args args')
    (has : ∀ e b, (e, b) ∈ as → isSym e = true → ∀ d v, den s (uOf (cxOf P ex me gv orc as U)) d e = some v → tyOk 1 v = true → v = .bool b)
    (hgv : ∀ g t, (g, t) ∈ gv → ∃ cs ty fr, w.heap[g]? = some (.cells cs ty fr) ∧ ∀ (i : Nat) (v : Value), t.get i = some v → GC v cs[i]?) :
    Calls P f ⟨args'⟩ w (fun e w' => e = .returned (.bool b) ∧ Below w.heap.size w w') :=
  toldS2 hx hmix (tellsA_of h) w s hargs has hgv
theorem toldG {P : Program} {ex : List (FuncId × ExtK)} {me : List (TypeId × String × FuncId)} {gv : List (Nat × Tr Value)} {orc : List (FuncId × OrcF)} (hx : ExtOk P (cxOf P ex me gv orc)) (hmix : P.follows .mixedOrders = true) {n d : Nat} {f : FuncId} {b : Bool} {N : Nat}
    (h : tells b (evFn (cxOf P ex me gv orc) n d (.fn f) [] ⟨.nil, N, N⟩) = true) (w : World)
    (hgv : ∀ g t, (g, t) ∈ gv → ∃ cs ty fr, w.heap[g]? = some (.cells cs ty fr) ∧ ∀ (i : Nat) (v : Value), t.get i = some v → GC v cs[i]?) :
    Calls P f #[] w (fun e w' => e = .returned (.bool b) ∧ Below w.heap.size w w') :=
  toldS (args' := []) (as := []) (U := fun _ _ => none) hx hmix h w (fun _ => undef) (RVs.nil _) (fun _ _ h1 => by cases h1) hgv
end Go.Proofs.YtaepplhgeeaidaaDoor.Ev
end
