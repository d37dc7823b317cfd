/- Regions that draw their order: one operation more, and all. -/
import Derived.Test.YtgcoieddgagpbaaDoorEvW
set_option linter.unusedVariables false
set_option linter.unusedSimpArgs false
set_option linter.unusedSectionVars false
namespace Go.Proofs.YtgcoieddgagpbaaDoor.Ev
open Go Go.RowKit

theorem Inv.relo {m : Emb} {hp : Hp} {h : Array Obj} (i : Inv m hp h) (l : Nat) : Inv m { tr := hp.tr, nx := hp.nx, lo := l } h := ⟨i.obj, i.inj, i.low, i.dom⟩

theorem next_wall (HP H : Nat → Hp) (n : Nat) : ∀ (d i : Nat), i + d = n → ∃ X, i ≤ X ∧ X ≤ n ∧ (∀ y, i ≤ y → y < X → Quiet HP H y) ∧ (X = n ∨ ¬ Quiet HP H X) := by
  intro d
  induction d with
  | zero => intro i h; exact ⟨n, by omega, Nat.le_refl _, fun y h1 h2 => by omega, .inl rfl⟩
  | succ d ih =>
    intro i h
    by_cases hq : Quiet HP H i
    · obtain ⟨X, h1, h2, h3, h4⟩ := ih (i + 1) (by omega)
      refine ⟨X, by omega, h2, fun y k1 k2 => ?_, h4⟩
      by_cases hy : y = i
      · subst hy; exact hq
      · exact h3 y (by omega) k2
    · exact ⟨i, Nat.le_refl _, by omega, fun y h1 h2 => by omega, .inr hq⟩

theorem range_find (f : Nat → Nat) (b : Nat) : ∀ (d i : Nat), f i ≤ b → b < f (i + d) → ∃ j, i ≤ j ∧ j < i + d ∧ f j ≤ b ∧ b < f (j + 1) := by
  intro d
  induction d with
  | zero => intro i h1 h2; rw [Nat.add_zero] at h2; omega
  | succ d ih =>
    intro i h1 h2
    by_cases h : b < f (i + d)
    · obtain ⟨j, k1, k2, k3, k4⟩ := ih i h1 h
      exact ⟨j, k1, by omega, k3, k4⟩
    · exact ⟨i + d, by omega, by omega, by omega, by rw [show i + d + 1 = i + (d + 1) from by omega]; exact h2⟩

theorem wantA_congr {all : List Oper} {tm tm' : Tr Value} {o : Oper} (h : ∀ t, t ∈ looksA o all → tm'.get t = tm.get t) : wantA all tm' o.guard = wantA all tm o.guard := by
  unfold wantA
  split
  · rfl
  · rename_i j want hg
    split
    · rfl
    · rename_i o' ho'
      split
      · rfl
      · rename_i d hd
        have : d ∈ looksA o all := by
          unfold looksA
          rw [List.mem_append]
          right
          rw [hg]
          simp only [ho']
          rw [hd]
          exact List.mem_singleton.2 rfl
        rw [h d this]

theorem ops_looks {o : Oper} {all : List Oper} {t : Tmp} (h : Operand.tmp t ∈ o.op.operands.toList) : t ∈ looksA o all := by
  unfold looksA
  rw [List.mem_append]
  left
  rw [List.mem_filterMap]
  exact ⟨_, h, rfl⟩

theorem evOp1_ok {P : Program} {cx : Cx} (ok : CxOk P cx) (hext : ExtOk P cx) {call : CallF} (hcall : CallOk P cx call) {m : Emb} {tm : Tr Value} {hp hp' : Hp} {w : World} {a : Act} {sz : Nat} {ds : List Deferred} (tr : TR m tm a sz ds) (inv : Inv m hp w.heap) (gw : GW cx m w)
    {r0 : Option Nat} {o : Oper} {v : Value} (hf : Fresh m hp.nx hp'.nx) (h : evOp cx call tm hp o.op = some [(.ret v, hp')]) {next : Act → World → Prop} {Q : Exit → Act → World → Prop}
    (hn : ∀ m' w' v', Step m hp w m' hp' w' → RV m' v v' → next (a.put o.dst v') w') : o.wpIn (Fw r0) 0 P a w next Q :=
  evOp_ok ok hext hcall tr inv gw (fun r hr => by rw [List.mem_singleton.1 hr]; exact hf) h (fun v0 hp0 hm m' w' v' st rv => by
    have := List.mem_singleton.1 hm
    injection this with e1 e2
    injection e1 with e1
    subst e1 e2
    exact hn m' w' v' st rv) (fun v0 hp0 hm => by
    have := List.mem_singleton.1 hm
    injection this with e1 _
    cases e1)

section
variable {r0 : Option Nat} {P : Program} {cx : Cx} (ok : CxOk P cx) (hext : ExtOk P cx) {call : CallF} (hcall : CallOk P cx call) (hg : GrowOk call) {sz : Nat} {ops : Array Oper} {TM : Nat → Tr Value} {HP H : Nat → Hp} (way : Way cx call sz ops TM HP H)
include ok hext hcall hg way

theorem way_pure {i : Nat} {o : Oper} (ho : ops[i]? = some o) (hp : pureOp o.op = true) : H i = { tr := (HP i).tr, nx := (HP i).nx, lo := (HP i).nx } := by
  obtain ⟨v, -, ⟨-, -, h⟩ | ⟨-, h⟩⟩ := way_put hg way ho
  · exact h
  · obtain ⟨r, hr⟩ := evOp_pure (cx := cx) (call := call) (tm := TM i) hp
    rw [hr] at h
    exact (lift_keep h).2

variable {m0 : Emb} {w0 : World} {dl : List Deferred} {D : Nat → Prop} {m : Emb} {a : Act} {w : World} (ds : DS cx m0 w0 TM HP H sz ops dl D m a w)
include ds

theorem ds_step {i : Nat} {o : Oper} (ho : ops[i]? = some o) (hn : ¬ D i) (hdep : Dep ops D i) {K : Act → World → Prop} {Q : Exit → Act → World → Prop}
    (hk : ∀ m' a' w', DS cx m0 w0 TM HP H sz ops dl (fun j => D j ∨ j = i) m' a' w' → K a' w') : if Region.wanted o (yielded ops a.tmps) = true then o.wpIn (Fw r0) 0 P a w K Q else K (a.put o.dst undef) w := by
  have hi : i < ops.size := by
    rcases Nat.lt_or_ge i ops.size with h | h
    · exact h
    · rw [Array.getElem?_eq_none h] at ho; cases ho
  have c := way.chain i o ho
  obtain ⟨X, hX, hXD, hXn, inv⟩ := ds.heap
  -- what is looked at
  have tr : TR m ((TM i).only (looksA o ops.toList)) a sz dl := ⟨ds.size, ds.defers, fun t v hv => by
    rw [get_only] at hv
    split at hv
    · rename_i ht; exact ds_slot hg way ds ho hn hdep ht hv
    · cases hv⟩
  have hlook : ∀ t, t ∈ looksA o ops.toList → ((TM i).only (looksA o ops.toList)).get t = (TM i).get t := fun t ht => by rw [get_only, if_pos ht]
  have hsub : ∀ j, (D j ∨ j = i) → j < ops.size := fun j hj => by
    rcases hj with hj | rfl
    · exact ds.sub j hj
    · exact hi
  have hcl := ds_closed hg way ds hdep
  have wallQ : ∀ y, y < ops.size → ¬ Quiet HP H y → wallA ops.toList (befA ops.toList []) y = true ∧ (HP (y + 1)).lo ≤ (H y).lo := fun y hy hq => by
    have cy := way.chain y ops[y] (Array.getElem?_eq_getElem hy)
    rcases cy.kind with h | h
    · exact absurd h hq
    · exact h
  have n0i : (HP 0).nx ≤ (HP i).nx := way_nx' hg way (Nat.zero_le _) (by omega)
  have niN : (HP (i + 1)).nx ≤ (HP ops.size).nx := way_nx' hg way (by omega) (Nat.le_refl _)
  obtain ⟨v, hput, ⟨hw, rfl, hH⟩ | ⟨hw, hev⟩⟩ := way_put hg way ho
  · -- not carried out
    have hwant := wantA_ok tr (o := o) (ops := ops) (b := false) (by rw [wantA_congr hlook]; exact hw)
    rw [hwant, if_neg (by simp)]
    have hq : Quiet HP H i := by unfold Quiet; rw [hH]; exact Nat.le_refl _
    obtain ⟨s1, s2, s3, s4⟩ := ds_vals hg way ds ho hn (Emb.le_refl m) hput (undef_rv m)
    refine hk m _ w ⟨hsub, hcl, s1, s2, s3, s4, ⟨X, hX, fun y h1 h2 => .inl (hXD y h1 h2), ?_, inv⟩, fun j h1 h2 => ds.fresh j h1 (fun h => h2 (.inl h)), ds.gw, ds.cum⟩
    rcases hXn with h | ⟨h1, h2⟩
    · exact .inl h
    · refine .inr ⟨h1, fun h => ?_⟩
      rcases h with h | h
      · exact h2 h
      · subst h; exact h1 hq
  · have hwant := wantA_ok tr (o := o) (ops := ops) (b := true) (by rw [wantA_congr hlook]; exact hw)
    rw [hwant, if_pos rfl]
    have hcon : ∀ h, evOp cx call ((TM i).only (looksA o ops.toList)) h o.op = evOp cx call (TM i) h o.op := fun h => evOp_congr (fun t ht => hlook t (ops_looks ht))
    by_cases hp : pureOp o.op = true
    · -- it looks at no memory
      have hH := way_pure ok hext hcall hg way ho hp
      have hq : Quiet HP H i := by unfold Quiet; rw [hH]; exact Nat.le_refl _
      obtain ⟨r, hr⟩ := evOp_pure (cx := cx) (call := call) (tm := TM i) hp
      have hrv : r = some v := by rw [hr] at hev; exact (lift_keep hev).1
      have hev2 : evOp cx call ((TM i).only (looksA o ops.toList)) { tr := (HP X).tr, nx := (HP X).nx, lo := (HP X).nx } o.op = some [(.ret v, { tr := (HP X).tr, nx := (HP X).nx, lo := (HP X).nx })] := by
        rw [hcon, hr, hrv]; rfl
      refine evOp1_ok ok hext hcall tr (inv.relo _) ds.gw (fun b h1 h2 => by simp only at h1 h2; omega) hev2 (fun m' w' v' st rv => ?_)
      have hme : ∀ b, m' b = m b := fun b => by
        by_cases hb : b < (HP X).nx
        · exact (st.low b hb hb).2
        · exact st.far b (by simp only; omega)
      obtain ⟨s1, s2, s3, s4⟩ := ds_vals hg way ds ho hn st.le hput rv
      refine hk m' _ w' ⟨hsub, hcl, s1, s2, s3, s4, ⟨X, hX, fun y h1 h2 => .inl (hXD y h1 h2), ?_, st.inv.relo _⟩, fun j h1 h2 b h3 h4 => ?_, ds.gw.step st, ds.cum.step st (way_nx' hg way hX (Nat.le_refl _)) (fun b h1 h2 => ?_)⟩
      · rcases hXn with h | ⟨h1, h2⟩
        · exact .inl h
        · refine .inr ⟨h1, fun h => ?_⟩
          rcases h with h | h
          · exact h2 h
          · subst h; exact h1 hq
      · rw [hme]
        exact ds.fresh j h1 (fun h => h2 (.inl h)) b h3 h4
      · have := way_nx' hg way (Nat.zero_le X) hX
        simp only
        omega
    · have hp : pureOp o.op = false := by simpa using hp
      have hfr : Fresh m (HP i).nx (H i).nx := fun b h1 h2 => ds.fresh i hi hn b h1 (by rw [c.nx]; exact h2)
      have hev2 : evOp cx call ((TM i).only (looksA o ops.toList)) { tr := (HP i).tr, nx := (HP i).nx, lo := (HP i).nx } o.op = some [(.ret v, H i)] := by rw [hcon]; exact hev
      by_cases hq : Quiet HP H i
      · -- it writes to nothing that was there
        have hiX : i < X := by
          rcases hXn with h | ⟨h1, h2⟩
          · omega
          · rcases Nat.lt_trichotomy i X with h | h | h
            · exact h
            · subst h; exact absurd hq h1
            · have hXs : X < ops.size := by omega
              rcases wall_of (wallQ X hXs h1).1 ho (by omega) hp with ⟨h3, -⟩ | ⟨-, h3⟩
              · exact h3
              · exact absurd (h3.mem ds.closed hdep) h2
        have hqq : ∀ j, i ≤ j → j < X → Quiet HP H j := fun j h1 h2 => by
          by_cases hji : j = i
          · subst hji; exact hq
          · exact Classical.byContradiction (fun hnq => by
              have hd := hXD j h2 hnq
              rcases wall_of (wallQ j (by omega) hnq).1 ho (by omega) hp with ⟨-, h3⟩ | ⟨h3, -⟩
              · exact hn (h3.mem ds.closed (ds.closed j hd))
              · omega)
        have invI : Inv m { tr := (HP i).tr, nx := (HP i).nx, lo := (HP i).nx } w.heap := by
          refine ⟨fun b e ob h1 h2 h3 => ?_, inv.inj, inv.low, way_dom hg way i (by omega)⟩
          have hb := way_dom hg way i (by omega) b ob h2
          exact inv.obj b e ob h1 (by rw [way_same' hg way (by omega) hX hqq hb]; exact h2) h3
        refine evOp1_ok ok hext hcall tr invI ds.gw hfr hev2 (fun m' w' v' st rv => ?_)
        obtain ⟨s1, s2, s3, s4⟩ := ds_vals hg way ds ho hn st.le hput rv
        refine hk m' _ w' ⟨hsub, hcl, s1, s2, s3, s4, ⟨X, hX, fun y h1 h2 => .inl (hXD y h1 h2), ?_, ⟨fun b e ob h1 h2 h3 => ?_, st.inv.inj, st.inv.low, way_dom hg way X hX⟩⟩, fun j h1 h2 b h3 h4 => ?_, ds.gw.step st, ds.cum.step st (by rw [← c.nx]; exact niN) (fun b h1 h2 => ?_)⟩
        · rcases hXn with h | ⟨h1, h2⟩
          · exact .inl h
          · refine .inr ⟨h1, fun h => ?_⟩
            rcases h with h | h
            · exact h2 h
            · omega
        · by_cases hb : b < (HP (i + 1)).nx
          · rw [way_same' hg way (i := i + 1) (by omega) hX (fun j k1 k2 => hqq j (by omega) k2) hb, c.tr] at h2
            exact st.inv.obj b e ob h1 h2 h3
          · rw [st.far b (by rw [← c.nx]; omega)] at h1
            obtain ⟨l1, l2⟩ := inv.obj b e ob h1 h2 h3
            refine ⟨l1, (l2.mono st.le).heap (st.keep e.c (inv.low b e h1) (fun b0 e0 k1 k2 k3 k4 => ?_))⟩
            have := inv.inj b0 b e0 e k2 h1 k3 l1 k4
            have := way_nx' hg way (i := i) (k := i + 1) (by omega) (by omega)
            simp only at k1
            omega
        · by_cases hji : j = i
          · exact absurd (.inr hji) h2
          · have hmn := ds.fresh j h1 (fun h => h2 (.inl h)) b h3 h4
            rcases Nat.lt_or_gt_of_ne hji with hlt | hgt
            · have := way_nx' hg way (i := j + 1) (k := i) (by omega) (by omega)
              have hb : b < (HP i).nx := by omega
              unfold Quiet at hq
              rw [(st.low b hb (by omega)).2]
              exact hmn
            · have := way_nx' hg way (i := i + 1) (k := j) (by omega) (by omega)
              rw [st.far b (by rw [← c.nx]; omega)]
              exact hmn
        · unfold Quiet at hq
          simp only
          omega
      · -- a wall
        obtain ⟨hwall, hwlo⟩ := wallQ i hi hq
        have hXi : X = i := by
          rcases Nat.lt_trichotomy X i with h | h | h
          · rcases hXn with h1 | ⟨h1, h2⟩
            · omega
            · rcases wall_of (wallQ X (by omega) h1).1 ho (by omega) hp with ⟨h3, -⟩ | ⟨-, h3⟩
              · omega
              · exact absurd (h3.mem ds.closed hdep) h2
          · exact h
          · exact absurd (hXD i h hq) hn
        subst hXi
        refine evOp1_ok ok hext hcall tr (inv.relo (HP X).nx) ds.gw hfr hev2 (fun m' w' v' st rv => ?_)
        obtain ⟨s1, s2, s3, s4⟩ := ds_vals hg way ds ho hn st.le hput rv
        obtain ⟨X', y1, y2, y3, y4⟩ := next_wall HP H ops.size (ops.size - (X + 1)) (X + 1) (by omega)
        have hlate : ∀ j, X < j → j < ops.size → D j → (HP j).nx = (HP (j + 1)).nx := fun j h1 h2 h3 => by
          have hoj : ops[j]? = some ops[j] := Array.getElem?_eq_getElem h2
          by_cases hpj : pureOp ops[j].op = true
          · have := way_pure ok hext hcall hg way hoj hpj
            rw [(way.chain j _ hoj).nx, this]
          · rcases wall_of hwall hoj (by omega) (by simpa using hpj) with ⟨h4, -⟩ | ⟨-, h4⟩
            · omega
            · exact absurd (h4.mem ds.closed (ds.closed j h3)) hn
        refine hk m' _ w' ⟨hsub, hcl, s1, s2, s3, s4, ⟨X', y2, fun y h1 h2 => ?_, ?_, ⟨fun b e ob h1 h2 h3 => ?_, st.inv.inj, st.inv.low, way_dom hg way X' y2⟩⟩, fun j h1 h2 b h3 h4 => ?_, ds.gw.step st, ds.cum.step st (by rw [← c.nx]; exact niN) (fun b h1 h2 => ?_)⟩
        · rcases Nat.lt_trichotomy y X with h | h | h
          · exact .inl (hXD y h h2)
          · exact .inr h
          · exact absurd (y3 y (by omega) h1) h2
        · rcases y4 with h | h
          · exact .inl h
          · refine (Nat.lt_or_ge X' ops.size).elim (fun hlt => .inr ⟨h, fun hd => ?_⟩) (fun hge => .inl (by omega))
            rcases hd with hd | hd
            · rcases wall_of (wallQ X' hlt h).1 ho (by omega) hp with ⟨-, h4⟩ | ⟨h4, -⟩
              · exact hn (h4.mem ds.closed (ds.closed X' hd))
              · omega
            · omega
        · by_cases hb : b < (HP (X + 1)).nx
          · rw [way_same' hg way (i := X + 1) y1 y2 y3 hb, c.tr] at h2
            exact st.inv.obj b e ob h1 h2 h3
          · rw [st.far b (by rw [← c.nx]; omega)] at h1
            have hbX := way_dom hg way X' y2 b ob h2
            obtain ⟨j, k1, k2, k3, k4⟩ := range_find (fun j => (HP j).nx) b (X' - (X + 1)) (X + 1) (by omega) (by rw [show X + 1 + (X' - (X + 1)) = X' from by omega]; exact hbX)
            by_cases hdj : D j
            · have := hlate j (by omega) (by omega) hdj
              omega
            · rw [ds.fresh j (by omega) hdj b k3 k4] at h1
              cases h1
        · by_cases hji : j = X
          · exact absurd (.inr hji) h2
          · rcases Nat.lt_or_gt_of_ne hji with hlt | hgt
            · exfalso
              have hoj : ops[j]? = some ops[j] := Array.getElem?_eq_getElem h1
              by_cases hpj : pureOp ops[j].op = true
              · have hh := way_pure ok hext hcall hg way hoj hpj
                rw [(way.chain j _ hoj).nx, hh] at h4
                simp only at h4
                omega
              · rcases wall_of hwall hoj (by omega) (by simpa using hpj) with ⟨-, h5⟩ | ⟨h5, -⟩
                · exact h2 (.inl (h5.mem ds.closed hdep))
                · omega
            · have := way_nx' hg way (i := X + 1) (k := j) (by omega) (by omega)
              rw [st.far b (by rw [← c.nx]; omega)]
              exact ds.fresh j h1 (fun h => h2 (.inl h)) b h3 h4
        · have := way_lo' hg way (i := X + 1) (k := ops.size) (by omega) (Nat.le_refl _)
          simp only
          omega
end
end Go.Proofs.YtgcoieddgagpbaaDoor.Ev
