/- The operations that only look: what the reckoner says of them, the model says. -/
import Derived.Test.YtlfliibmhapgaaaEvE
import Derived.Laws.StructEq
set_option linter.unusedVariables false
set_option linter.unusedSimpArgs false
namespace Go.Proofs.Ytlfliibmhapgaaa.Ev
open Go Go.RowKit

/-- The tables are the program's. -/
structure CxOk (P : Program) (cx : Cx) : Prop where
  prog : cx.P = P
  ty : ∀ t ti, cx.t t = some ti → tiOf P t = some ti
  fn : ∀ f fi, cx.f f = some fi → ∃ fn, P.funcs[f]? = some fn ∧ fiOfF fn = some fi

theorem bytes_get (s : ByteArray) (i : Nat) : s[i]? = s.data.toList[i]? := by
  by_cases h : i < s.size
  · rw [getElem?_pos s i h]
    have h' : i < s.data.toList.length := by simpa using h
    rw [List.getElem?_eq_getElem h']
    rfl
  · rw [getElem?_neg s i h, List.getElem?_eq_none (by simpa using h)]

def Reads (P : Program) (m : Emb) (w : World) (s : Sem Value) (v : Value) : Prop := ∃ v', s.run P w = .ok v' w ∧ RV m v v'

theorem Reads.same {P : Program} {m : Emb} {w : World} {s : Sem Value} {v : Value} (h : s.run P w = .ok v w) (hf : flat v = true) : Reads P m w s v := ⟨v, h, .flat v hf⟩

section
variable {P : Program} {cx : Cx} (ok : CxOk P cx) {m : Emb} {hp : Hp} {w : World}
include ok

theorem loadA_ok (inv : Inv m hp w.heap) {t : TypeId} {a a' : Addr} {v : Value} (ha : RA m a a') (h : loadA cx hp t a = some v) : Reads P m w (loadVar t a') v := by
  unfold loadA at h
  split at h
  · rename_i ti hti
    have hti := ok.ty _ _ hti
    split at h
    · rename_i hagg
      split at h
      · rename_i l hl
        injection h with h
        subst h
        obtain ⟨l', h1, h2⟩ := getRow_run P inv ha hl
        refine ⟨.agg ⟨l'⟩, ?_, .agg _ _ h1.1 h1.2⟩
        simp [loadVar, run_isAgg hti, hagg, run_size hti, h2]
      · cases h
    · rename_i hagg
      split at h
      · rename_i v0 hl
        injection h with h
        subst h
        obtain ⟨l', h1, h2, h3⟩ := getRow_spec inv ha hl
        obtain ⟨v', tl, rfl, h4, h5⟩ := h1.head
        have hc := h3 0 v' rfl
        have ha0 : a'.add 0 = a' := rfl
        rw [ha0] at hc
        refine ⟨v', ?_, h4⟩
        simp [loadVar, run_isAgg hti, hagg, hc]
      · cases h
  · cases h

theorem partA_ok {t : TypeId} {l l' : List Value} {off : Nat} {v : Value} (hl : RVs m l l') (h : partA cx t l off = some v) : Reads P m w (part t ⟨l'⟩ off) v := by
  unfold partA at h
  split at h
  · cases h
  · rename_i ti hti
    have hti := ok.ty _ _ hti
    split at h
    · rename_i hagg
      split at h
      · rename_i hle
        injection h with h
        subst h
        have hr := (hl.drop off).take ti.size
        refine ⟨.agg ⟨(l'.drop off).take ti.size⟩, ?_, .agg _ _ hr.1 hr.2⟩
        simp only [part, Sem.run_bind, run_isAgg hti, hagg, Result.andThen_ok, if_true, run_size hti, Sem.run_pure]
        congr 2
        apply Array.ext'
        simp [List.take_drop]
      · cases h
    · rename_i hagg
      obtain ⟨v', h1, h2⟩ := hl.at_ h
      refine ⟨v', ?_, h2⟩
      simp [part, run_isAgg hti, hagg, h1]

theorem fieldA_ok {t : TypeId} {x x' : Value} {f : Nat} {v : Value} (hx : RV m x x') (h : fieldA cx t x f = some v) : Reads P m w (Instr.field t x' f) v := by
  unfold fieldA at h
  split at h
  · cases h
  · rename_i ti hti
    have hti := ok.ty _ _ hti
    split at h
    · rename_i fs cs hd
      obtain ⟨l⟩ := cs
      obtain ⟨l', rfl, hl⟩ := hx.agg_iff
      split at h
      · rename_i fd hfd
        obtain ⟨v', h1, h2⟩ := partA_ok ok (w := w) hl h
        refine ⟨v', ?_, h2⟩
        have hfd' : fs[f]? = some fd := by simpa using hfd
        simp [Instr.field, run_under hti, hd, hfd', asAgg, h1]
      · cases h
    · cases h

theorem fieldAddrA_ok {t : TypeId} {x x' : Value} {f : Nat} {v : Value} (hx : RV m x x') (h : fieldAddrA cx t x f = some v) : Reads P m w (Instr.fieldAt t x' f) v := by
  unfold fieldAddrA at h
  split at h
  · cases h
  · rename_i ti hti
    have hti := ok.ty _ _ hti
    split at h
    · rename_i fs a hd
      obtain ⟨a', rfl, ha⟩ := hx.ptr_iff
      split at h
      · rename_i fd hfd
        split at h
        · rename_i te hte
          have hte := ok.ty _ _ hte
          split at h
          · cases h
          · rename_i hz
            injection h with h
            subst h
            have hfd' : fs[f]? = some fd := by simpa using hfd
            have hz' : te.size ≠ 0 := Nat.ne_of_beq_eq_false hz
            refine ⟨.pointer (some (a'.add fd.offset)), ?_, .ptr _ _ (ra_add ha _)⟩
            simp [Instr.fieldAt, run_under hti, hd, hfd', Instr.sureAddr, fieldPlace, run_size hte, hz']
        · cases h
      · cases h
    · cases h

theorem indexAddrA_ok {t : TypeId} {x x' ix ix' : Value} {v : Value} (hx : RV m x x') (hi : RV m ix ix') (h : indexAddrA cx t x ix = some v) : Reads P m w (Instr.indexAt t x' ix') v := by
  unfold indexAddrA at h
  split at h
  · cases h
  · rename_i ti hti
    have hti := ok.ty _ _ hti
    split at h
    · rename_i n e a k i hd
      obtain ⟨a', rfl, ha⟩ := hx.ptr_iff
      obtain rfl := hi.flat_iff rfl
      split at h
      · rename_i te hte
        have hte := ok.ty _ _ hte
        split at h
        · rename_i hlt
          injection h with h
          subst h
          have hlt := Nat.blt_eq.mp hlt
          refine ⟨.pointer (some (a'.add (i * te.size))), ?_, .ptr _ _ (ra_add ha _)⟩
          simp [Instr.indexAt, asIntOf, run_under hti, hd, Instr.sureAddr, run_size hte, hlt]
        · cases h
      · cases h
    · rename_i e a n c k i hd
      obtain ⟨a', c', rfl, ha⟩ := hx.slice_iff
      obtain rfl := hi.flat_iff rfl
      split at h
      · rename_i te hte
        have hte := ok.ty _ _ hte
        split at h
        · rename_i hlt
          injection h with h
          subst h
          have hlt := Nat.blt_eq.mp hlt
          have hra : RA m a a' := by
            obtain ⟨h1, en, h2, h3⟩ := ha
            refine ⟨h1, en, h2, ?_⟩
            rcases h3 with ⟨_, h4, _⟩ | ⟨tot, z, _, h4, h5, h6, _⟩
            · exact h4
            · rcases h6 with h6 | h6
              · omega
              · obtain ⟨b', o', s'⟩ := a'
                simp only at h4 h5 h6
                rw [h4, h5, h6]
          refine ⟨.pointer (some (a'.add (i * te.size))), ?_, .ptr _ _ (ra_add hra _)⟩
          simp [Instr.indexAt, asIntOf, run_under hti, hd, run_size hte, hlt]
        · cases h
      · cases h
    · cases h

theorem indexA_ok {t : TypeId} {x x' ix ix' : Value} {v : Value} (hx : RV m x x') (hi : RV m ix ix') (h : indexA cx t x ix = some v) : Reads P m w (Instr.index t x' ix') v := by
  unfold indexA at h
  split at h
  · cases h
  · rename_i ti hti
    have hti := ok.ty _ _ hti
    split at h
    · rename_i n e cs k i hd
      obtain ⟨l⟩ := cs
      obtain ⟨l', rfl, hl⟩ := hx.agg_iff
      obtain rfl := hi.flat_iff rfl
      split at h
      · rename_i te hte
        have hte := ok.ty _ _ hte
        split at h
        · rename_i hlt
          have hlt := Nat.blt_eq.mp hlt
          obtain ⟨v', h1, h2⟩ := partA_ok ok (w := w) hl h
          refine ⟨v', ?_, h2⟩
          simp [Instr.index, asIntOf, run_under hti, hd, run_size hte, hlt, h1]
        · cases h
      · cases h
    · rename_i s k i hd
      obtain rfl := hx.flat_iff rfl
      obtain rfl := hi.flat_iff rfl
      split at h
      · rename_i b hb
        injection h with h
        subst h
        refine .same ?_ rfl
        have hb' : s[i]? = some b := (bytes_get s i).trans hb
        simp [Instr.index, asIntOf, run_under hti, hd, hb']
      · cases h
    · cases h

theorem lenA_ok {t : TypeId} {x x' v : Value} {ts : Array TypeId} {ty : TypeId} (ht : ts[0]? = some t) (hx : RV m x x') (h : lenA cx t x = some v) : Reads P m w (Builtin.len_ ts ty #[x']) v := by
  unfold lenA at h
  split at h
  · cases h
  · rename_i ti hti
    have hti := ok.ty _ _ hti
    split at h
    · rename_i s hd
      obtain rfl := hx.flat_iff rfl
      injection h with h
      subst h
      exact .same (by simp [Builtin.len_, ht, run_under hti, hd, goInt]) rfl
    · rename_i n e hd
      injection h with h
      subst h
      exact .same (by simp [Builtin.len_, ht, run_under hti, hd, goInt]) rfl
    · rename_i e a n c hd
      injection h with h
      subst h
      refine .same ?_ rfl
      cases a with
      | none => obtain rfl := hx.flat_iff rfl; simp [Builtin.len_, ht, run_under hti, hd, goInt]
      | some a => obtain ⟨a', c', rfl, -⟩ := hx.slice_iff; simp [Builtin.len_, ht, run_under hti, hd, goInt]
    · rename_i k e hd
      obtain rfl := hx.flat_iff rfl
      injection h with h
      subst h
      exact .same (by simp [Builtin.len_, ht, run_under hti, hd, goInt]) rfl
    · cases h

theorem capA_ok (inv : Inv m hp w.heap) {t : TypeId} {x x' v : Value} {ts : Array TypeId} {ty : TypeId} (ht : ts[0]? = some t) (hx : RV m x x') (h : capA cx hp t x = some v) : Reads P m w (Builtin.cap_ ts ty #[x']) v := by
  unfold capA at h
  split at h
  · cases h
  · rename_i ti hti
    have hti := ok.ty _ _ hti
    split at h
    · rename_i e n c hd
      obtain rfl := hx.flat_iff rfl
      injection h with h
      subst h
      exact .same (by simp [Builtin.cap_, ht, run_under hti, hd, goInt]) rfl
    · rename_i e a n c hd
      obtain ⟨a', c', rfl, h1, en, h2, h3⟩ := hx.slice_iff
      split at h
      · rename_i tr k ty' str hob
        injection h with h
        subst h
        obtain ⟨-, ho, -⟩ := inv.obj _ en _ h2 hob (by simp)
        rcases h3 with ⟨h4, -, h5⟩ | ⟨tot, z, h4, -⟩
        · subst h5
          exact .same (by simp [Builtin.cap_, ht, run_under hti, hd, goInt]) rfl
        · rw [h4] at ho
          cases ho
      · cases h
    · cases h

end
end Go.Proofs.Ytlfliibmhapgaaa.Ev
