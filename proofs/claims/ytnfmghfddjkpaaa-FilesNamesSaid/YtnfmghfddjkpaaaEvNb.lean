/- Ranges over maps and texts: what the reckoner says of them, the model says. -/
import Derived.Test.YtnfmghfddjkpaaaEvN
import Derived.Maps.RangeRun
import Derived.RangeFuncRecord
set_option linter.unusedVariables false
set_option linter.unusedSimpArgs false
set_option linter.unusedSectionVars false
namespace Go.Proofs.Ytnfmghfddjkpaaa.Ev
open Go Go.RowKit

theorem RMs.left {m : Emb} {es es' : List MapEntry} (r : RMs m es es') : ∀ x, x ∈ es → ∃ x', x' ∈ es' ∧ RM m x x' := by
  induction r with
  | nil => intro x hx; cases hx
  | cons h _ ih =>
    intro x hx
    rcases List.mem_cons.1 hx with rfl | hx
    · exact ⟨_, List.mem_cons_self, h⟩
    · obtain ⟨x', h1, h2⟩ := ih x hx
      exact ⟨x', List.mem_cons_of_mem _ h1, h2⟩
theorem RMs.right {m : Emb} {es es' : List MapEntry} (r : RMs m es es') : ∀ x', x' ∈ es' → ∃ x, x ∈ es ∧ RM m x x' := by
  induction r with
  | nil => intro x hx; cases hx
  | cons h _ ih =>
    intro x hx
    rcases List.mem_cons.1 hx with rfl | hx
    · exact ⟨_, List.mem_cons_self, h⟩
    · obtain ⟨x', h1, h2⟩ := ih x hx
      exact ⟨x', List.mem_cons_of_mem _ h1, h2⟩
theorem RMs.find {m : Emb} {es es' : List MapEntry} (r : RMs m es es') (n : Nat) : ∀ e, es.find? (fun e => Nat.beq e.born n) = some e → ∃ e', es'.find? (fun e => e.born == n) = some e' ∧ RM m e e' := by
  induction r with
  | nil => intro e h; cases h
  | @cons x x' es es' h _ ih =>
    intro e he
    rw [List.find?_cons] at he
    rw [List.find?_cons]
    have hb : x.born = x'.born := h.2.2
    cases hx : Nat.beq x.born n with
    | true =>
      rw [hx] at he
      injection he with he
      subst he
      have : (x'.born == n) = true := by rw [← hb]; exact beq_iff_eq.2 (Nat.eq_of_beq_eq_true hx)
      rw [this]
      exact ⟨x', rfl, h⟩
    | false =>
      rw [hx] at he
      have : (x'.born == n) = false := by
        rw [← hb]
        exact beq_eq_false_iff_ne.2 (Nat.ne_of_beq_eq_false hx)
      rw [this]
      exact ih e he

section
variable {P : Program} {cx : Cx} (ok : CxOk P cx) {m : Emb} {hp hp' : Hp} {w : World} (inv : Inv m hp w.heap)
include ok inv

theorem rangeA_ok (hf : Fresh m hp.nx hp'.nx) {t : TypeId} {x x' v : Value} (hx : RV m x x') (h : rangeA cx hp t x = some (v, hp')) : Turns P m hp w (Instr.range t x') v hp' := by
  have key : ∀ {ob : AObj} {o : Obj}, hp' = { tr := hp.tr.set hp.nx ob, nx := Nat.succ hp.nx, lo := hp.lo } → v = .pointer (some ⟨hp.nx, 0, none⟩) → OR m ob ⟨w.heap.size, 0, none, true⟩ (w.heap.push o) →
      (Instr.range t x').run P w = .ok (.pointer (some ⟨w.heap.size, 0, none⟩)) { w with heap := w.heap.push o } → Turns P m hp w (Instr.range t x') v hp' := by
    intro ob o e1 e2 hor hrun
    subst e1 e2
    have st := step_newob (w := w) inv (hf hp.nx (Nat.le_refl _) (Nat.lt_succ_self _)) hor
    exact ⟨_, _, _, hrun, st, .ptr _ _ ⟨rfl, _, Emb.put_same _ _ _, rfl⟩⟩
  unfold rangeA at h
  split at h
  · cases h
  · rename_i ti hti
    have hti := ok.ty _ _ hti
    split at h
    · rename_i s hd
      obtain rfl := hx.flat_iff rfl
      injection h with h
      injection h with h1 h2
      refine key (o := .stringIter s 0) h2.symm h1.symm ⟨rfl, rfl, by rw [getD_push_size]⟩ ?_
      simp only [Instr.range, Sem.run_bind, run_under hti, Result.andThen_ok, hd, Sem.run_pure, run_newObj_alloc]
      rfl
    · rename_i k e hd
      obtain rfl := hx.flat_iff rfl
      injection h with h
      injection h with h1 h2
      refine key (o := .mapIter none 0 #[] 0) h2.symm h1.symm ⟨rfl, rfl, none, by rw [getD_push_size], .inl ⟨rfl, rfl⟩⟩ ?_
      simp only [Instr.range, Sem.run_bind, run_under hti, Result.andThen_ok, hd, Sem.run_pure, run_newObj_alloc]
      rfl
    · rename_i k e b hd
      obtain ⟨c, rfl, en, he, rfl⟩ := hx.map_iff
      split at h
      · rename_i es clock hob
        obtain ⟨hl, h0, es', h3, h4⟩ := inv.obj b en _ he hob (by simp)
        injection h with h
        injection h with h1 h2
        refine key (o := .mapIter (some en.c) clock #[] clock) h2.symm h1.symm ⟨rfl, rfl, some en.c, by rw [getD_push_size], .inr ⟨b, en, rfl, he, rfl⟩⟩ ?_
        have hg : (getObj en.c).run P w = .ok (.map ⟨es'⟩ clock) w := by simp [getObj, Sem.run, h3]
        simp only [Instr.range, Sem.run_bind, run_under hti, Result.andThen_ok, hd, hg, Sem.run_pure, run_newObj_alloc]
        rfl
      · cases h
    · cases h

omit ok in
theorem entryA_ok {x x' v : Value} (hx : RV m x x') (h : entryA hp x = some v) : Reads P m w (Instr.entry x') v := by
  unfold entryA at h
  split at h
  · rename_i r
    obtain ⟨a', rfl, -, e, he, rfl⟩ := hx.ptr_iff
    split at h
    · rename_i mb since seen stepped hob
      obtain ⟨hl, h0, ho, mo', h1, h2⟩ := inv.obj r e _ he hob (by simp)
      rcases h2 with ⟨h2, -⟩ | ⟨b, eb, h2, hb, rfl⟩
      · cases h2
      injection h2 with h2
      subst h2
      split at h
      · rename_i stamp es clock hst hmb
        obtain ⟨hl2, h02, es', h3, h4⟩ := inv.obj mb eb _ hb hmb (by simp)
        split at h
        · rename_i ent hc hfind
          injection h with h
          subst h
          have hc := Nat.eq_of_beq_eq_true hc
          subst hc
          obtain ⟨ent', k1, k2⟩ := h4.find stamp ent hfind
          have hb1 : (getObj e.c).run P w = .ok (.mapIter (some eb.c) since ⟨seen⟩ clock) w := by simp [getObj, Sem.run, h1]
          have hb2 : (getObj eb.c).run P w = .ok (.map ⟨es'⟩ clock) w := by simp [getObj, Sem.run, h3]
          have hback : (⟨seen⟩ : Array Nat).back? = some stamp := by
            rw [← hst]
            simp
          have hfnd : (⟨es'⟩ : Array MapEntry).find? (fun e => e.born == stamp) = some ent' := by
            rw [← Array.find?_toList]; exact k1
          refine ⟨.tuple ⟨[ent'.key, ent'.val]⟩, ?_, ?_⟩
          · have hz : e.o + 0 = 0 := by omega
            rw [hz]
            simp only [Instr.entry, Sem.run_bind, hb1, Result.andThen_ok, hback, hb2, bne_self_eq_false, Bool.false_eq_true, if_false, hfnd, Sem.run_pure]
          · have := RVs.cons k2.1 (RVs.cons k2.2.1 (RVs.nil m)); exact .tuple _ _ this.1 this.2
        · cases h
      · cases h
    · cases h
  · cases h

omit ok in
theorem nextA_ok {x x' : Value} {str : Bool} (ty : TypeId) {l : List (Value × Hp)} (hx : RV m x x') (h : nextA hp x str = some l) :
    ∃ v hp1, (v, hp1) ∈ l ∧ ∃ v' w', (Instr.next x' str ty).run P w = .ok v' w' ∧ Step m hp w m hp1 w' ∧ RV m v v' := by
  have hno : RV m (.tuple ⟨[.bool false]⟩) (.tuple ⟨[.bool false]⟩) := by
    have := RVs.cons (.flat (.bool false) rfl) (RVs.nil m); exact .tuple _ _ this.1 this.2
  unfold nextA at h
  split at h
  · rename_i r
    obtain ⟨a', rfl, -, e, he, rfl⟩ := hx.ptr_iff
    split at h
    · rename_i s pos hob
      obtain ⟨hl, h0, ho, h1⟩ := inv.obj r e _ he hob (by simp)
      have hz : e.o + 0 = 0 := by omega
      have hb1 : (getObj e.c).run P w = .ok (.stringIter s pos) w := by simp [getObj, Sem.run, h1]
      split at h
      · rename_i hlt
        have hlt := Nat.blt_eq.mp hlt
        injection h with h
        subst h
        refine ⟨_, _, List.mem_singleton.2 rfl, .tuple ⟨[.bool true, .int .i64 (.ofNat pos), .int .i32 (Utf8.decode s pos).1]⟩, { w with heap := w.heap.setIfInBounds e.c (.stringIter s (pos + (Utf8.decode s pos).2)) }, ?_, ?_, ?_⟩
        · have hset : (setObj e.c (.stringIter s (pos + (Utf8.decode s pos).2))).run P w = .ok () { w with heap := w.heap.setIfInBounds e.c (.stringIter s (pos + (Utf8.decode s pos).2)) } := by
            have := inv.low r e he
            simp [setObj, Sem.run, h1]
          rw [hz]
          simp only [Instr.next, Sem.run_bind, hb1, Result.andThen_ok, hlt, if_true]
          rcases hd : Utf8.decode s pos with ⟨c, wd⟩
          rw [hd] at hset
          simp only [Sem.run_bind, hset, Result.andThen_ok, Sem.run_pure]
          rfl
        · refine step_put inv he hob (by simp) ⟨h0, ho, ?_⟩
          have := inv.low r e he
          simp [this]
        · have := RVs.cons (.flat (.bool true) rfl) (RVs.cons (.flat (.int .i64 (.ofNat pos)) rfl) (RVs.cons (.flat (.int .i32 (Utf8.decode s pos).1) rfl) (RVs.nil m))); exact .tuple _ _ this.1 this.2
      · rename_i hlt
        have hlt : ¬ pos < s.size := fun hh => by rw [Nat.blt_eq.mpr hh] at hlt; cases hlt
        injection h with h
        subst h
        refine ⟨_, _, List.mem_singleton.2 rfl, _, w, ?_, .refl inv, hno⟩
        rw [hz]
        simp only [Instr.next, Sem.run_bind, hb1, Result.andThen_ok, hlt, if_false, Sem.run_pure]
    · rename_i since seen last hob
      obtain ⟨hl, h0, ho, mo', h1, h2⟩ := inv.obj r e _ he hob (by simp)
      have hz : e.o + 0 = 0 := by omega
      rcases h2 with ⟨-, rfl⟩ | ⟨b, eb, h2, hb, rfl⟩
      · injection h with h
        subst h
        refine ⟨_, _, List.mem_singleton.2 rfl, _, w, ?_, .refl inv, hno⟩
        have hb1 : (getObj e.c).run P w = .ok (.mapIter none since ⟨seen⟩ last) w := by simp [getObj, Sem.run, h1]
        rw [hz]
        simp only [Instr.next, Sem.run_bind, hb1, Result.andThen_ok, Sem.run_pure]
      · cases h2
    · rename_i mb since seen last hob
      obtain ⟨hl, h0, ho, mo', h1, h2⟩ := inv.obj r e _ he hob (by simp)
      have hz : e.o + 0 = 0 := by omega
      rcases h2 with ⟨h2, -⟩ | ⟨b, eb, h2, hb, rfl⟩
      · cases h2
      injection h2 with h2
      subst h2
      split at h
      · rename_i es clock hmb
        obtain ⟨hl2, h02, es', h3, h4⟩ := inv.obj mb eb _ hb hmb (by simp)
        split at h
        · rename_i hold hsc
          have hsc := Nat.le_of_ble_eq_true hsc
          have hold' : ∀ x ∈ (⟨es'⟩ : Array MapEntry).toList, x.born < since := fun x' hx' => by
            obtain ⟨x, k1, k2⟩ := h4.right x' hx'
            unfold eldA at hold
            have := List.all_eq_true.1 hold x k1
            rw [← k2.2.2]
            exact Nat.blt_eq.mp this
          have hn := run_next_at (P := P) w ty e.c eb.c since last ⟨seen⟩ ⟨es'⟩ clock h1 h3 hold' hsc
          rw [hz]
          have hin : ∀ (x : MapEntry), x ∈ leftA seen es ↔ x ∈ es ∧ seen.contains x.born = false := fun x => by
            unfold leftA
            rw [List.mem_filter]
            simp
          have hin' : ∀ (x : MapEntry), x ∈ (leftOf ⟨es'⟩ ⟨seen⟩).toList ↔ x ∈ es' ∧ seen.contains x.born = false := fun x => by
            unfold leftOf
            simp
          rcases hn with ⟨hn1, hn2⟩ | ⟨e', hn1, w1, hw1, hn2⟩
          · have hnil : leftA seen es = [] := by
              cases hla : leftA seen es with
              | nil => rfl
              | cons y t =>
                exfalso
                have hy : y ∈ leftA seen es := by rw [hla]; exact List.mem_cons_self
                obtain ⟨k1, k2⟩ := (hin y).1 hy
                obtain ⟨y', k3, k4⟩ := h4.left y k1
                have : y' ∈ (leftOf ⟨es'⟩ ⟨seen⟩).toList := (hin' y').2 ⟨k3, by rw [← k4.2.2]; exact k2⟩
                have hsz : (leftOf ⟨es'⟩ ⟨seen⟩).toList.length = 0 := by simpa using hn1
                rw [List.eq_nil_of_length_eq_zero hsz] at this
                cases this
            rw [hnil] at h
            injection h with h
            subst h
            exact ⟨_, _, List.mem_singleton.2 rfl, _, w, hn2, .refl inv, hno⟩
          · obtain ⟨k1, k2⟩ := (hin' e').1 hn1
            obtain ⟨y, k3, k4⟩ := h4.right e' k1
            have hy : y ∈ leftA seen es := (hin y).2 ⟨k3, by rw [k4.2.2]; exact k2⟩
            have hl3 : l = (leftA seen es).map fun e => (Value.tuple ⟨[.bool true, e.key, e.val]⟩, objSet hp r (.miter (some mb) since (seen ++ [e.born]) clock)) := by
              split at h
              · rename_i hnil; rw [hnil] at hy; cases hy
              · injection h with h; exact h.symm
            subst hl3
            refine ⟨_, _, List.mem_map.2 ⟨y, hy, rfl⟩, _, _, hn2, ?_, ?_⟩
            · have st0 : Step m hp w m hp w1 := by
                rcases hw1 with rfl | rfl
                · exact .refl inv
                · exact .drawn inv _
              have hobj := step_put (w := w1) st0.inv he hob (by simp) (ob' := .miter (some mb) since (seen ++ [y.born]) clock) (o' := .mapIter (some eb.c) since ((⟨seen⟩ : Array Nat).push e'.born) clock)
                ⟨h0, ho, some eb.c, by
                  have := st0.inv.low r e he
                  simp [this, k4.2.2], .inr ⟨mb, eb, rfl, hb, rfl⟩⟩
              exact st0.trans hobj
            · have := RVs.cons (.flat (.bool true) rfl) (RVs.cons k4.1 (RVs.cons k4.2.1 (RVs.nil m))); exact .tuple _ _ this.1 this.2
        · cases h
      · cases h
    · cases h
  · cases h
end
end Go.Proofs.Ytnfmghfddjkpaaa.Ev
