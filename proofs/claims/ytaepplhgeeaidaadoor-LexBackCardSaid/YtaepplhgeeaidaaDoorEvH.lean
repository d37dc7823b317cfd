import Derived.Test.YtaepplhgeeaidaaDoorEvGs
set_option linter.unusedVariables false
set_option linter.unusedSimpArgs false
namespace Go.Proofs.YtaepplhgeeaidaaDoor.Ev
open Go Go.RowKit
def RO (m : Emb) (x x' : Option Value) : Prop := (x = none ∧ x' = none) ∨ ∃ v v', x = some v ∧ x' = some v' ∧ RV m v v'
theorem boundA_spec {m : Emb} {x x' : Option Value} {y d i : Nat} (hx : RO m x x') (h : boundA x y d = some i) : x' = x ∧ ((x = none ∧ i = d) ∨ ∃ k, x = some (.int k (.ofNat i)) ∧ i ≤ y) := by
  unfold boundA at h
  split at h
  · injection h with h
    rcases hx with ⟨-, h2⟩ | ⟨v, v', h1, -⟩
    · exact ⟨h2, .inl ⟨rfl, h.symm⟩⟩
    · cases h1
  · rename_i k j
    split at h
    · rename_i hle
      injection h with h
      subst h
      rcases hx with ⟨h1, -⟩ | ⟨v, v', h1, h2, h3⟩
      · cases h1
      · injection h1 with h1
        subst h1
        obtain rfl := h3.flat_iff rfl
        exact ⟨h2, .inr ⟨k, rfl, Nat.le_of_ble_eq_true hle⟩⟩
    · cases h
  · cases h
theorem sliceBound_run {P : Program} {w : World} {k : IntKind} {i y : Nat} (h : i ≤ y) (code : BoundsCode) : (Instr.sliceBound (.int k (i : Int)) y code).run P w = .ok i w := by
  simp [Instr.sliceBound, asIntOf, h]
theorem bounds_run {P : Program} {m : Emb} {w : World} {lo hi mx lo' hi' mx' : Option Value} (hlo : RO m lo lo') (hhi : RO m hi hi') (hmx : RO m mx mx') {n c c' k h l : Nat} (hc : c ≤ c')
    (h1 : boundA mx c c = some k) (h2 : highA hi mx n k = some h) (h3 : boundA lo h 0 = some l) (b : Bool) :
    (Instr.sliceBounds b n c' lo' hi' mx').run P w = .ok (l, h, if mx = none then c' else k) w ∧ l ≤ h ∧ (mx = none → k = c) ∧ k ≤ c := by
  obtain ⟨rfl, hm⟩ := boundA_spec hmx h1
  obtain ⟨rfl, hl⟩ := boundA_spec hlo h3
  have hk : k ≤ c := by rcases hm with ⟨-, rfl⟩ | ⟨_, _, h⟩ <;> omega
  have hlh : l ≤ h := by rcases hl with ⟨-, rfl⟩ | ⟨_, _, h⟩ <;> omega
  have hkc : mx' = none → k = c := fun hh => by rcases hm with ⟨-, h⟩ | ⟨_, h, _⟩; exact h; rw [hh] at h; cases h
  refine ⟨?_, hlh, hkc, hk⟩
  have hh : (hi = none ∧ mx' = none ∧ hi' = none ∧ h = n) ∨ ∃ q, hi' = some (.int q (.ofNat h)) ∧ h ≤ k := by
    unfold highA at h2
    cases hi with
    | none =>
      rcases hhi with ⟨-, h4⟩ | ⟨_, _, h4, -⟩
      · cases hmx' : mx' with
        | none => rw [hmx'] at h2; simp only at h2; injection h2 with h2; exact .inl ⟨rfl, rfl, h4, h2.symm⟩
        | some _ => rw [hmx'] at h2; cases h2
      · cases h4
    | some v =>
      obtain ⟨rfl, hb⟩ := boundA_spec hhi h2
      rcases hb with ⟨hb, -⟩ | ⟨q, hb, hq⟩
      · cases hb
      · exact .inr ⟨q, hb, hq⟩
  rcases hm with ⟨rfl, rfl⟩ | ⟨q, rfl, hq⟩ <;> rcases hh with ⟨-, h5, rfl, rfl⟩ | ⟨q2, rfl, hq2⟩ <;> rcases hl with ⟨rfl, rfl⟩ | ⟨q3, rfl, hq3⟩
  all_goals first
    | (cases h5; done)
    | (simp [Instr.sliceBounds, sliceBound_run, Nat.le_trans hq2 hc, hq2, hq3]; done)
    | (simp [Instr.sliceBounds, sliceBound_run, hq3]; done)
    | (simp [Instr.sliceBounds, sliceBound_run, Nat.le_trans hq2 hc, hq2]; done)
    | (simp [Instr.sliceBounds, sliceBound_run]; done)
    | (simp [Instr.sliceBounds, sliceBound_run, Nat.le_trans hq hc, hq2, hq3]; done)
    | (simp [Instr.sliceBounds, sliceBound_run, Nat.le_trans hq hc, hq2]; done)
theorem cutA_spec {m : Emb} {hp : Hp} {w : World} (inv : Inv m hp w.heap) {a a' : Addr} {size n c c' : Nat} (ha : RS m a n c a' c') {lo hi mx lo' hi' mx' : Option Value} (hlo : RO m lo lo') (hhi : RO m hi hi') (hmx : RO m mx mx') {v : Value}
    (h : cutA hp a size n c lo hi mx = some v) (P : Program) (b : Bool) :
    ∃ l h0 m0, (Instr.sliceBounds b n c' lo' hi' mx').run P w = .ok (l, h0, m0) w ∧ RV m v (.slice (some (if m0 = l then a' else a'.add (l * size))) (h0 - l) (m0 - l)) := by
  unfold cutA at h
  split at h
  · rename_i tr kk ty op str hob
    split at h
    · cases h
    · rename_i k hk
      split at h
      · cases h
      · rename_i h0 hh0
        split at h
        · cases h
        · rename_i l hl
          obtain ⟨hsp, e, he, hr⟩ := ha
          obtain ⟨-, ho, -⟩ := inv.obj _ e _ he hob (by simp)
          rcases hr with ⟨e1, e2, e3⟩ | ⟨tot, z, e1, e2, e3, e4, e5, e6⟩
          · rw [e1] at ho
            subst ho e3
            obtain ⟨r1, r2, r3, r4⟩ := bounds_run (P := P) (w := w) hlo hhi hmx (Nat.le_refl _) hk hh0 hl b
            have hm0 : (if mx = none then c' else k) = k := by
              split
              · rename_i hh; exact (r3 hh).symm
              · rfl
            rw [hm0] at r1
            refine ⟨l, h0, k, r1, ?_⟩
            simp only [Option.map_none] at h
            split at h
            · rename_i hb
              have hb := Nat.eq_of_beq_eq_true hb
              injection h with h
              subst h
              rw [if_pos hb]
              exact .slice _ _ _ _ _ ⟨hsp, e, he, .inl ⟨e1, e2, rfl⟩⟩
            · rename_i hb
              have hb := Nat.ne_of_beq_eq_false hb
              injection h with h
              subst h
              rw [if_neg hb]
              have hra : RA m (a.add (l * size)) (a'.add (l * size)) := ra_add ⟨hsp, e, he, e2⟩ _
              obtain ⟨q1, e', q2, q3⟩ := hra
              rw [add_block, he] at q2
              injection q2 with q2
              subst q2
              exact .slice _ _ _ _ _ ⟨q1, e, by rw [add_block]; exact he, .inl ⟨e1, q3, rfl⟩⟩
          · rw [e1] at ho
            subst ho
            obtain ⟨r1, r2, r3, r4⟩ := bounds_run (P := P) (w := w) hlo hhi hmx e5 hk hh0 hl b
            refine ⟨l, h0, _, r1, ?_⟩
            simp only [Option.map_some] at h
            split at h
            · rename_i hz hhm
              have hz := Nat.eq_of_beq_eq_true hz
              have hhm := Nat.le_of_ble_eq_true hhm
              subst hz
              injection h with h
              subst h
              have hkm : k ≤ (if mx = none then c' else k) ∧ (if mx = none then c' else k) ≤ c' := by
                split
                · rename_i hh; have := r3 hh; omega
                · omega
              generalize (if mx = none then c' else k) = m0 at *
              have hmul : l * z + (m0 - l) * z = m0 * z := by rw [← Nat.add_mul, show l + (m0 - l) = m0 from by omega]
              have hmc : m0 * z ≤ c' * z := Nat.mul_le_mul_right z hkm.2
              refine .slice _ _ _ _ _ ⟨?_, e, by rw [add_block]; exact he, .inr ⟨tot, z, e1, ?_, ?_, ?_, by omega, ?_⟩⟩
              · unfold Addr.add; split <;> simp [hsp]
              · split <;> simp [add_block, e2]
              · split
                · exact e3
                · unfold Addr.add; split <;> simp [e3]
              · by_cases hm0 : m0 = l
                · left; omega
                · rw [if_neg hm0, add_off, add_off]
                  rcases e4 with e4 | e4
                  · left; omega
                  · right; omega
              · by_cases hm0 : m0 = l
                · rw [if_pos hm0, hm0, Nat.sub_self, Nat.zero_mul]; omega
                · rw [if_neg hm0, add_off]; omega
            · cases h
  · cases h
section
variable {P : Program} {cx : Cx} (ok : CxOk P cx) {m : Emb} {hp : Hp} {w : World}
include ok
theorem sliceA_ok (inv : Inv m hp w.heap) {t : TypeId} {x x' : Value} {lo hi mx lo' hi' mx' : Option Value} (hx : RV m x x') (hlo : RO m lo lo') (hhi : RO m hi hi') (hmx : RO m mx mx') {v : Value}
    (h : sliceA cx hp t x lo hi mx = some v) : Reads P m w (Instr.sliceAt t x' lo' hi' mx') v := by
  unfold sliceA at h
  split at h
  · cases h
  · rename_i ti hti
    have hti := ok.ty _ _ hti
    have hu := run_under hti w
    split at h
    · rename_i n e a hd
      obtain ⟨a', rfl, ha⟩ := hx.ptr_iff
      split at h
      · rename_i te hte
        have hte := ok.ty _ _ hte
        split at h
        · rename_i tr kk ty str hob
          have hrs : RS m a n n a' n := by
            obtain ⟨h1, en, h2, h3⟩ := ha
            obtain ⟨-, ho, -⟩ := inv.obj _ en _ h2 hob (by simp)
            refine ⟨h1, en, h2, .inl ⟨?_, h3, rfl⟩⟩
            cases hop : en.op with
            | none => rfl
            | some p => rw [hop] at ho; cases ho
          obtain ⟨l, h0, m0, r1, r2⟩ := cutA_spec inv hrs hlo hhi hmx h P false
          refine ⟨_, ?_, r2⟩
          simp [Instr.sliceAt, hu, hd, Instr.sureAddr, r1, run_size hte]
        · cases h
      · cases h
    · rename_i s hd
      obtain rfl := hx.flat_iff rfl
      split at h
      · cases h
      · have hmx' : mx' = none := by
          rcases hmx with ⟨-, h2⟩ | ⟨v, v', h1, -⟩
          · exact h2
          · cases h1
        subst hmx'
        split at h
        · cases h
        · rename_i h0 hh0
          split at h
          · cases h
          · rename_i l hl
            injection h with h
            subst h
            obtain ⟨r1, -⟩ := bounds_run (P := P) (w := w) hlo hhi (.inl ⟨rfl, rfl⟩ : RO m none none) (Nat.le_refl s.size) rfl hh0 hl false
            refine .same ?_ rfl
            simp [Instr.sliceAt, hu, hd, Instr.slice, r1]
    · rename_i e a n c hd
      obtain ⟨a', c', rfl, ha⟩ := hx.slice_iff
      split at h
      · rename_i te hte
        have hte := ok.ty _ _ hte
        obtain ⟨l, h0, m0, r1, r2⟩ := cutA_spec inv ha hlo hhi hmx h P true
        refine ⟨_, ?_, r2⟩
        simp only [Instr.sliceAt, Sem.run_bind, hu, hd, Result.andThen_ok, Instr.slice, r1, run_size hte, Sem.run_pure]
        congr 2
        split <;> rfl
      · cases h
    · rename_i e n c hd
      obtain rfl := hx.flat_iff rfl
      split at h
      · rename_i te hte
        have hte := ok.ty _ _ hte
        split at h
        · cases h
        · rename_i k hk
          split at h
          · cases h
          · rename_i h0 hh0
            split at h
            · cases h
            · rename_i l hl
              injection h with h
              subst h
              obtain ⟨r1, -, r3, -⟩ := bounds_run (P := P) (w := w) hlo hhi hmx (Nat.le_refl c) hk hh0 hl true
              have hm0 : (if mx = none then c else k) = k := by
                split
                · rename_i hh; exact (r3 hh).symm
                · rfl
              rw [hm0] at r1
              refine .same ?_ rfl
              simp only [Instr.sliceAt, Sem.run_bind, hu, hd, Result.andThen_ok, Instr.slice, r1, run_size hte, Sem.run_pure]
              congr 2
              split <;> rfl
      · cases h
    · cases h
theorem cutS_ok (as : AsOk cx m) {t : TypeId} {x x' : Value} {lo hi mx lo' hi' mx' : Option Value} (hx : RV m x x') (hlo : RO m lo lo') (hhi : RO m hi hi') (hmx : RO m mx mx') {v : Value}
    (h : cutS cx t x lo hi mx = some v) : Reads P m w (Instr.sliceAt t x' lo' hi' mx') v := by
  unfold cutS at h
  split at h
  · cases h
  rename_i ti hti
  have hti := ok.ty _ _ hti
  have hu := run_under hti w
  split at h
  case h_2 => cases h
  rename_i hd
  have hmx' : mx' = none := by
    rcases hmx with ⟨-, h2⟩ | ⟨v, v', h1, -⟩
    · exact h2
    · cases h1
  subst hmx'
  split at h
  case h_2 => cases h
  rename_i hsx sab hT
  obtain ⟨sx, tx, tx2⟩ : symFlat x = true ∧ hasTy 2 x = true ∧ (isSym x || tyOk 2 x) = true := by simpa only [Bool.and_eq_true] using hsx
  rw [Bool.and_eq_true] at sab
  injection h with h
  subst h
  have hstr : ∃ s, x' = .string s ∧ s.size < 9223372036854775808 := by
    have ht : tyOk 2 x' = true := by
      cases hs : isSym x with
      | true =>
        unfold hasTy at tx
        rw [hs] at tx
        have ht := (hx.sym_iff hs).2
        rwa [Nat.eq_of_beq_eq_true tx] at ht
      | false =>
        rw [hs, Bool.false_or] at tx2
        have hf : Ev.flat x = true := by simpa [symFlat, hs] using sx
        rw [hx.flat_iff hf]
        exact tx2
    cases x' <;> first
      | (simp [tyOk, kindCode] at ht; done)
      | skip
    · rename_i k n
      cases k <;> (simp [tyOk, kindCode] at ht)
    · rename_i b
      simp [tyOk] at ht
      exact ⟨b, rfl, ht⟩
  obtain ⟨s, rfl, hs62⟩ := hstr
  have hra : RV m (loOr lo) (loOr lo') := by
    rcases hlo with ⟨rfl, rfl⟩ | ⟨v, v', rfl, rfl, hv⟩
    · exact .flat _ rfl
    · exact hv
  have hrb : RV m (hiOr x hi) (hiOr (.string s) hi') := by
    rcases hhi with ⟨rfl, rfl⟩ | ⟨v, v', rfl, rfl, hv⟩
    · unfold hiOr
      simp only
      split
      · have := hx.flat_iff rfl
        injection this with this
        subst this
        exact .flat _ rfl
      · exact RV.app (k := 4) (l' := [.string s]) (.cons hx (.nil m)) (by simp only [List.all_cons, sx]; rfl) (by rw [as.rd 4 _ (by omega)]; rfl) (by
          simp [tyOk, kindCode, IntKind.min, IntKind.max, IntKind.bits, IntKind.signed]
          omega)
    · exact hv
  have hcut := isTrue_ok as hT (.cons (.flat (num 12) rfl) (.cons hx (.cons hra (.cons hrb (.nil m))))) (by simp only [List.all_cons, sx, sab.1, sab.2]; rfl) (b := tCut (.string s) (loOr lo') (hiOr (.string s) hi')) rfl
  obtain ⟨k1, i, k2, j, e1, e2, hij, hjs⟩ : ∃ k1 i k2 j, loOr lo' = .int k1 (.ofNat i) ∧ hiOr (.string s) hi' = .int k2 (.ofNat j) ∧ i ≤ j ∧ j ≤ s.size := by
    unfold tCut at hcut
    split at hcut
    · rename_i s2 k1 i k2 j q1 q2 q3
      injection q1 with q1
      subst q1
      rw [Bool.and_eq_true] at hcut
      exact ⟨k1, i, k2, j, q2, q3, Nat.le_of_ble_eq_true hcut.1, Nat.le_of_ble_eq_true hcut.2⟩
    · cases hcut
  have hlo2 : RO m lo' lo' := by
    rcases hlo with ⟨rfl, rfl⟩ | ⟨v, v', rfl, rfl, hv⟩
    · exact .inl ⟨rfl, rfl⟩
    · have e1 : v' = .int k1 (.ofNat i) := e1
      exact .inr ⟨_, _, rfl, rfl, by rw [e1]; exact .flat _ rfl⟩
  have hhi2 : RO m hi' hi' := by
    rcases hhi with ⟨rfl, rfl⟩ | ⟨v, v', rfl, rfl, hv⟩
    · exact .inl ⟨rfl, rfl⟩
    · have e2 : v' = .int k2 (.ofNat j) := e2
      exact .inr ⟨_, _, rfl, rfl, by rw [e2]; exact .flat _ rfl⟩
  have hh : highA hi' none s.size s.size = some j := by
    cases hi' with
    | none =>
      have e2 : Value.int .i64 (.ofNat s.size) = .int k2 (.ofNat j) := e2
      injection e2 with _ e2
      injection e2 with e2
      rw [← e2]
      rfl
    | some v' =>
      have e2 : v' = .int k2 (.ofNat j) := e2
      subst e2
      show boundA (some (.int k2 (.ofNat j))) s.size 0 = _
      unfold boundA
      simp only [Nat.ble_eq_true_of_le hjs]
  have hl : boundA lo' j 0 = some i := by
    cases lo' with
    | none =>
      have e1 : Value.int .i64 (.ofNat 0) = .int k1 (.ofNat i) := e1
      injection e1 with _ e1
      injection e1 with e1
      rw [← e1]
      rfl
    | some v' =>
      have e1 : v' = .int k1 (.ofNat i) := e1
      subst e1
      unfold boundA
      simp only [Nat.ble_eq_true_of_le hij]
  obtain ⟨r1, -⟩ := bounds_run (P := P) (w := w) hlo2 hhi2 (.inl ⟨rfl, rfl⟩ : RO m none none) (Nat.le_refl s.size) rfl hh hl false
  refine ⟨.string (s.extract i j), by simp [Instr.sliceAt, hu, hd, Instr.slice, r1], RV.of_denS ?_ ?_⟩
  · rw [denS_app, mapO_of (denS_flat rfl) (mapO_of (hx.to_denS sx) (mapO_of (hra.to_denS sab.1) (mapO_of (hrb.to_denS sab.2) rfl))), e1, e2]
    show m.u 10 _ = _
    rw [as.seq]
    rfl
  · have : (s.extract i j).size ≤ s.size := by rw [ByteArray.size_extract]; omega
    simp only [tyOk]
    simp
    omega
def hiV (n : Nat) : Option Value → Value
  | some v => v
  | none => .int .i64 (.ofNat n)
theorem cutR_ok (as : AsOk cx m) {t : TypeId} {x x' : Value} {lo hi mx lo' hi' mx' : Option Value} (hx : RV m x x') (hlo : RO m lo lo') (hhi : RO m hi hi') (hmx : RO m mx mx') {v : Value}
    (h : cutR cx t x lo hi mx = some v) : Reads P m w (Instr.sliceAt t x' lo' hi' mx') v := by
  unfold cutR at h
  split at h
  · cases h
  rename_i ti hti
  have hti := ok.ty _ _ hti
  have hu := run_under hti w
  split at h
  case h_2 => cases h
  rename_i e hd
  have hmx' : mx' = none := by
    rcases hmx with ⟨-, h2⟩ | ⟨v, v', h1, -⟩
    · exact h2
    · cases h1
  subst hmx'
  split at h
  · cases h
  rename_i hsx
  simp only [Bool.and_eq_true] at hsx
  obtain ⟨sx, sa, sb⟩ := hsx
  split at h
  case h_2 => cases h
  rename_i te hte hty
  have hte := ok.ty _ _ hte
  split at h
  case h_2 => cases h
  rename_i hT
  injection h with h
  subst h
  have hsf : symFlat x = true := by simp [symFlat, sx]
  obtain ⟨A, n, c, rfl, hA, hn⟩ : ∃ A n c, x' = .slice A n c ∧ (A = none → n = 0) ∧ n < 9223372036854775808 ∧ n ≤ c := by
    unfold lenTy at hty
    split at hty
    case h_2 => cases hty
    rename_i ty hdt
    split at hty
    case h_2 => cases hty
    rename_i e' hue
    obtain ⟨d, hden⟩ := hx.den_iff hsf
    obtain ⟨f, hR⟩ := deepTy_ok (r := fun a => m.u 5 [.pointer (some a)]) (cx := cx) (fun k vs hk => as.rd k vs hk) (fun vs => as.ops 0 vs (by omega)) (fun _ => rfl) as.as 20 x ty hdt d x' hden
    obtain ⟨A, n, c, rfl, hA, hn⟩ := rds_slice hue hR
    refine ⟨A, n, c, rfl, hA, hn, ?_⟩
    cases A with
    | none => rw [hA rfl]; exact Nat.zero_le _
    | some a =>
      cases f with
      | zero => exact hR.elim
      | succ f =>
        unfold Rds at hR
        rw [hue] at hR
        exact hR.1
  obtain ⟨hn, hnc⟩ := hn
  have hra : RV m (loOr lo) (loOr lo') := by
    rcases hlo with ⟨rfl, rfl⟩ | ⟨v, v', rfl, rfl, hv⟩
    · exact .flat _ rfl
    · exact hv
  have hrb : RV m (hiSl x hi) (hiV n hi') := by
    rcases hhi with ⟨rfl, rfl⟩ | ⟨v, v', rfl, rfl, hv⟩
    · unfold hiSl
      exact RV.app (k := 4) (l' := [.slice A n c]) (.cons hx (.nil m)) (by simp only [List.all_cons, hsf]; rfl) (by rw [as.rd 4 _ (by omega)]; rfl) (by
        show tyOk 6 (.int .i64 (.ofNat n)) = true
        simp [tyOk, kindCode, IntKind.min, IntKind.max, IntKind.bits, IntKind.signed]
        omega)
    · exact hv
  generalize hj0 : hiV n hi' = jv at hrb
  have hcut := isTrue_ok as hT (.cons (.flat (num 14) rfl) (.cons hx (.cons hra (.cons hrb (.nil m))))) (by simp only [List.all_cons, hsf, sa, sb]; rfl) (b := tCuS (.slice A n c) (loOr lo') jv) rfl
  obtain ⟨k1, i, k2, j, e1, e2, hij, hjn⟩ : ∃ k1 i k2 j, loOr lo' = .int k1 (.ofNat i) ∧ jv = .int k2 (.ofNat j) ∧ i ≤ j ∧ j ≤ n := by
    unfold tCuS at hcut
    split at hcut
    · rename_i A2 n2 c2 k1 i k2 j q1 q2
      injection q1 with _ q1
      subst q1
      rw [Bool.and_eq_true] at hcut
      exact ⟨k1, i, k2, j, q2, rfl, Nat.le_of_ble_eq_true hcut.1, Nat.le_of_ble_eq_true hcut.2⟩
    · cases hcut
  have hlo2 : RO m lo' lo' := by
    rcases hlo with ⟨rfl, rfl⟩ | ⟨v, v', rfl, rfl, hv⟩
    · exact .inl ⟨rfl, rfl⟩
    · have e1 : v' = .int k1 (.ofNat i) := e1
      exact .inr ⟨_, _, rfl, rfl, by rw [e1]; exact .flat _ rfl⟩
  have hhi2 : RO m hi' hi' := by
    rcases hhi with ⟨rfl, rfl⟩ | ⟨v, v', rfl, rfl, hv⟩
    · exact .inl ⟨rfl, rfl⟩
    · have hj0 : v' = jv := hj0
      exact .inr ⟨_, _, rfl, rfl, by rw [hj0, e2]; exact .flat _ rfl⟩
  have hh : highA hi' none n c = some j := by
    cases hi' with
    | none =>
      have hj0 : Value.int .i64 (.ofNat n) = jv := hj0
      rw [e2] at hj0
      injection hj0 with _ hj0
      injection hj0 with hj0
      rw [← hj0]
      rfl
    | some v' =>
      have hj0 : v' = jv := hj0
      subst hj0
      subst e2
      show boundA (some (.int k2 (.ofNat j))) c 0 = _
      unfold boundA
      simp only [Nat.ble_eq_true_of_le (Nat.le_trans hjn hnc)]
  have hl : boundA lo' j 0 = some i := by
    cases lo' with
    | none =>
      have e1 : Value.int .i64 (.ofNat 0) = .int k1 (.ofNat i) := e1
      injection e1 with _ e1
      injection e1 with e1
      rw [← e1]
      rfl
    | some v' =>
      have e1 : v' = .int k1 (.ofNat i) := e1
      subst e1
      unfold boundA
      simp only [Nat.ble_eq_true_of_le hij]
  obtain ⟨r1, -⟩ := bounds_run (P := P) (w := w) hlo2 hhi2 (.inl ⟨rfl, rfl⟩ : RO m none none) (Nat.le_refl c) rfl hh hl true
  refine ⟨match Nat.beq c i with | true => .slice A (j - i) (c - i) | false => .slice (A.map (·.add (i * te.size))) (j - i) (c - i), ?_, RV.of_denS ?_ ?_⟩
  · simp only [Instr.sliceAt, Sem.run_bind, hu, hd, Result.andThen_ok, Instr.slice, r1, run_size hte, Sem.run_pure]
    cases hb : Nat.beq c i with
    | true =>
      have := Nat.eq_of_beq_eq_true hb
      subst this
      simp
    | false =>
      have := Nat.ne_of_beq_eq_false hb
      simp [this]
  · rw [denS_app, mapO_of (denS_flat rfl) (mapO_of (hx.to_denS hsf) (mapO_of (hra.to_denS sa) (mapO_of (hrb.to_denS sb) rfl))), e1, e2]
    show m.u 11 _ = _
    rw [as.rd 11 _ (by omega)]
    show cutV [.int .u64 (.ofNat te.size), .slice A n c, .int k1 (.ofNat i), .int k2 (.ofNat j)] = _
    unfold cutV
    simp only [Nat.ble_eq_true_of_le hij, Nat.ble_eq_true_of_le hjn, Bool.and_self]
    cases Nat.beq c i <;> rfl
  · cases Nat.beq c i <;> rfl
theorem cutQ_ok (as : AsOk cx m) (inv : Inv m hp w.heap) {t : TypeId} {x x' : Value} {lo hi mx lo' hi' mx' : Option Value} (hx : RV m x x') (hlo : RO m lo lo') (hhi : RO m hi hi') (hmx : RO m mx mx') {v : Value}
    (h : cutQ cx t x lo hi mx = some v) : Reads P m w (Instr.sliceAt t x' lo' hi' mx') v := by
  unfold cutQ at h
  split at h
  case h_2 => cases h
  rename_i b n
  split at h
  · cases h
  rename_i ti hti
  have hti := ok.ty _ _ hti
  have hu := run_under hti w
  split at h
  case h_2 => cases h
  rename_i e hv0 hd
  split at h
  case h_2 => cases h
  rename_i te hte hs hT
  have hte := ok.ty _ _ hte
  simp only [Bool.and_eq_true] at hs
  obtain ⟨sh, sn, th⟩ := hs
  injection h with h
  subst h
  have hmx' : mx' = none := by
    rcases hmx with ⟨-, h2⟩ | ⟨v, v', h1, -⟩
    · exact h2
    · cases h1
  have hlo' : lo' = none := by
    rcases hlo with ⟨-, h2⟩ | ⟨v, v', h1, -⟩
    · exact h2
    · cases h1
  subst hmx'; subst hlo'
  obtain ⟨hv, rfl, hr⟩ : ∃ hv, hi' = some hv ∧ RV m hv0 hv := by
    rcases hhi with ⟨h1, -⟩ | ⟨v, v', h1, h2, h3⟩
    · cases h1
    · injection h1 with h1
      subst h1
      exact ⟨v', h2, h3⟩
  obtain ⟨k, c', a', rfl, hn, hkc, en, tot, z, he, hop, rfl, hroom⟩ := hx.seq_iff
  have hle := isTrue_ok as hT (.cons (.flat (num 11) rfl) (.cons hr (.cons hn (.nil m)))) (by simp only [List.all_cons, sh, sn]; rfl) (b := tLe hv (.int .i64 (.ofNat k))) rfl
  obtain ⟨k1, j, rfl, hj⟩ : ∃ k1 j, hv = .int k1 (.ofNat j) ∧ j ≤ k := by
    unfold tLe at hle
    split at hle
    · rename_i k1 a k2 c q1
      injection q1 with q1 q2
      injection q2 with q2
      rw [← q2] at hle
      exact ⟨k1, a, rfl, Nat.le_of_ble_eq_true hle⟩
    · cases hle
  have hk : kindCode k1 = 6 := by
    unfold hasTy at th
    cases hs : isSym hv0 with
    | true =>
      rw [hs] at th
      have ht := (hr.sym_iff hs).2
      rw [Nat.eq_of_beq_eq_true th] at ht
      obtain ⟨k3, n3, q1, q2⟩ := ty_int (by omega) ht
      injection q1 with q1
      rw [q1]
      exact q2
    | false =>
      rw [hs] at th
      have hf : Ev.flat hv0 = true := by simpa [symFlat, hs] using sh
      have e := hr.flat_iff hf
      rw [← e] at th
      exact (Nat.eq_of_beq_eq_true th).symm
  have hk : k1 = .i64 := by cases k1 <;> first | rfl | (exfalso; revert hk; decide)
  subst hk
  have hhi2 : RO m (some (.int .i64 (.ofNat j))) (some (.int .i64 (.ofNat j))) := .inr ⟨_, _, rfl, rfl, .flat _ rfl⟩
  have hh : highA (some (.int .i64 (.ofNat j))) none k c' = some j := by
    show boundA (some (.int .i64 (.ofNat j))) c' 0 = _
    unfold boundA
    simp only [Nat.ble_eq_true_of_le (Nat.le_trans hj hkc)]
  obtain ⟨r1, -⟩ := bounds_run (P := P) (w := w) (.inl ⟨rfl, rfl⟩ : RO m none none) hhi2 (.inl ⟨rfl, rfl⟩ : RO m none none) (Nat.le_refl c') rfl hh (show boundA none j 0 = some 0 from rfl) true
  refine ⟨.slice (some ⟨en.c, en.o, none⟩) j c', ?_, .seq b _ j c' _ hr (Nat.le_trans hj hkc) ⟨en, tot, z, he, hop, rfl, hroom⟩⟩
  simp only [Instr.sliceAt, Sem.run_bind, hu, hd, Result.andThen_ok, Instr.slice, r1, run_size hte, Sem.run_pure]
  cases hb : Nat.beq c' 0 with
  | true =>
    have := Nat.eq_of_beq_eq_true hb
    subst this
    simp
  | false =>
    have := Nat.ne_of_beq_eq_false hb
    simp [this, Addr.add]
theorem sliceT_ok (as : AsOk cx m) (inv : Inv m hp w.heap) {t : TypeId} {x x' : Value} {lo hi mx lo' hi' mx' : Option Value} (hx : RV m x x') (hlo : RO m lo lo') (hhi : RO m hi hi') (hmx : RO m mx mx') {v : Value}
    (h : sliceT cx hp t x lo hi mx = some v) : Reads P m w (Instr.sliceAt t x' lo' hi' mx') v := by
  unfold sliceT at h
  split at h
  · rename_i v0 hv0
    injection h with h
    subst h
    exact sliceA_ok ok inv hx hlo hhi hmx hv0
  · split at h
    · rename_i v0 hv0
      injection h with h
      subst h
      exact cutS_ok ok as hx hlo hhi hmx hv0
    · split at h
      · rename_i v0 hv0
        injection h with h
        subst h
        exact cutR_ok ok as hx hlo hhi hmx hv0
      · exact cutQ_ok ok as inv hx hlo hhi hmx h
end
end Go.Proofs.YtaepplhgeeaidaaDoor.Ev
