import Derived.Test.YtaepplhgeeaidaaDoorEvJ
set_option linter.unusedVariables false
set_option linter.unusedSimpArgs false
set_option linter.unusedSectionVars false
namespace Go.Proofs.YtaepplhgeeaidaaDoor.Ev
open Go Go.RowKit
theorem bytesA_cons (x : Value) (l : List Value) : bytesA (x :: l) = match x with
    | .int .u8 n => match bytesA l with
      | some bs => some (UInt8.ofNat n.toNat :: bs)
      | none => none
    | _ => none := rfl
theorem bytesA_rv {m : Emb} {l l' : List Value} (h : RVs m l l') {bs : List UInt8} (hb : bytesA l = some bs) : l' = l := by
  induction l generalizing l' bs with
  | nil => exact h.nil_left
  | cons x l ih =>
    obtain ⟨x', t, rfl, h1, h2⟩ := h.head
    rw [bytesA_cons] at hb
    split at hb
    · split at hb
      · rename_i bs2 hbs
        rw [ih h2 hbs, h1.flat_iff rfl]
      · cases hb
    · cases hb
def byteStep (why : String) (c : Value) (s : ByteArray) : Sem (ForInStep ByteArray) :=
  match c with
  | .int .u8 n => pure (ForInStep.yield (s.push (UInt8.ofNat n.toNat)))
  | x => do
    stuck why
    pure (ForInStep.yield s)
theorem bytes_loop {why : String} {P : Program} {w : World} : ∀ (l : List Value) (bs : List UInt8) (s : ByteArray), bytesA l = some bs →
    (forIn l s (byteStep why)).run P w = Result.ok ⟨s.data ++ bs.toArray⟩ w := by
  intro l
  induction l with
  | nil =>
    intro bs s h
    have h : some [] = some bs := h
    injection h with h
    subst h
    simp
  | cons x l ih =>
    intro bs s h
    rw [bytesA_cons] at h
    split at h
    · rename_i n
      split at h
      · rename_i bs2 hbs
        injection h with h
        subst h
        simp only [List.forIn_cons, Sem.run_bind, byteStep, Sem.run_pure, Result.andThen_ok]
        have := ih bs2 (s.push (UInt8.ofNat n.toNat)) hbs
        rw [this]
        congr 2
        simp [ByteArray.push]
      · cases h
    · cases h
theorem bytesToString_ok {P : Program} {w : World} {a : Addr} {n c : Nat} {l : List Value} {bs : List UInt8} (h : (loadCells a n).run P w = .ok ⟨l⟩ w) (hb : bytesA l = some bs) :
    (Conv.bytesToString (.slice (some a) n c)).run P w = .ok (.string ⟨⟨bs⟩⟩) w := by
  simp only [Conv.bytesToString]
  rw [run_then h]
  have := fun why => bytes_loop (why := why) (P := P) (w := w) l bs ByteArray.empty hb
  show ((forIn (⟨l⟩ : Array Value) ByteArray.empty (byteStep _)) >>= fun s => (pure (Value.string s) : Sem Value)).run P w = _
  rw [← Array.forIn_toList, run_then (this _)]
  show Result.ok (Value.string ⟨#[] ++ bs.toArray⟩) w = _
  simp
theorem shape_of {w : World} {c : Nat} {cs : Array Value} {ty : TypeId} {fr : Nat × Nat} (h : w.heap[c]? = some (.cells cs ty fr)) : w.shape? c = some (ty, cs.size) := by
  simp [World.shape?, h]
theorem freeze_heap {w : World} {c o n : Nat} {cs : Array Value} {ty : TypeId} {fr : Nat × Nat} (h : w.heap[c]? = some (.cells cs ty fr)) (hn : n ≠ 0) :
    w.freeze ⟨c, o, none⟩ n = { w with heap := w.heap.setIfInBounds c (.cells cs ty (if fr.1 == fr.2 then (o, o + n) else (min fr.1 o, max fr.2 (o + n)))) } := by
  have : w.heap.modify c (fun
      | .cells c' elem (lo, hi) => .cells c' elem (if lo == hi then (o, o + n) else (min lo o, max hi (o + n)))
      | ob => ob) = w.heap.setIfInBounds c (.cells cs ty (if fr.1 == fr.2 then (o, o + n) else (min fr.1 o, max fr.2 (o + n)))) := by
    apply Array.ext_getElem?
    intro i
    rw [Array.getElem?_modify]
    have hc : c < w.heap.size := by
      rcases Nat.lt_or_ge c w.heap.size with hlt | hge
      · exact hlt
      · rw [Array.getElem?_eq_none hge] at h; cases h
    by_cases hi : c = i
    · subst hi
      rw [if_pos rfl, h]
      simp [hc]
    · rw [if_neg hi, Array.getElem?_setIfInBounds_ne hi]
  unfold World.freeze
  rw [if_neg hn]
  exact congrArg (fun hh => { w with heap := hh }) this
theorem mark_run {P : Program} {w : World} {a : Addr} {cs : Array Value} {ty : TypeId} {str : Bool} (h : w.heap[a.block]? = some (.cells cs ty (frOf str cs.size))) :
    (markStringish a).run P w = .ok () { w with heap := w.heap.setIfInBounds a.block (.cells cs ty (frOf true cs.size)) } := by
  have hs := shape_of h
  simp only [markStringish, Sem.run_bind, run_shape, hs, Result.andThen_ok, run_freeze]
  rw [freeze_heap h (by omega)]
  have : (if (frOf str cs.size).1 == (frOf str cs.size).2 then (cs.size, cs.size + 1) else (min (frOf str cs.size).1 cs.size, max (frOf str cs.size).2 (cs.size + 1))) = frOf true cs.size := by
    cases str <;> simp [frOf]
  rw [this]
theorem rowAt_self {P : Program} {e : TypeId} {count off n : Nat} (hs : P.cellsOf e = 1) (h : off + n ≤ count) : rowAt P (sameLayout P P.depth · e) P.depth e count off n = true := by
  have hd : P.depth = (2 * (P.types.size + Made.depth) + 1) + 1 := rfl
  rw [hd]
  unfold rowAt
  simp only [hs]
  have : sameLayout P (2 * (P.types.size + Made.depth) + 1 + 1) e e = true := by
    unfold sameLayout
    simp
  simp [this, Nat.mod_one, h]
theorem liesAt_self {P : Program} {e : TypeId} {count off n : Nat} (hs : P.cellsOf e = 1) (h : off + n ≤ count) : liesAt P P.depth e count off e n = true := by
  have hr := rowAt_self (P := P) hs h
  have hd : P.depth = (2 * (P.types.size + Made.depth) + 1) + 1 := rfl
  conv => lhs; arg 2; rw [hd]
  unfold liesAt
  rw [hr]
  rfl
section
variable {P : Program} {cx : Cx} (ok : CxOk P cx) {m : Emb} {hp : Hp} {w : World}
include ok
theorem cellsOf_ti {t : TypeId} {ti : TI} (h : tiOf P t = some ti) : P.cellsOf t = ti.size := by
  obtain ⟨i, h1, -, -, h4, -⟩ := ti_parts h
  simp [Program.cellsOf, h1, h4]
theorem view_none {w : World} {c : Nat} {cs : Array Value} {ty : TypeId} {fr : Nat × Nat} (h : w.heap[c]? = some (.cells cs ty fr)) : (viewAt c).run P w = .ok none w := by
  simp [viewAt, shape_of h]
theorem cellsIn_run {w : World} {c : Nat} {cs : Array Value} {ty : TypeId} {fr : Nat × Nat} (h : w.heap[c]? = some (.cells cs ty fr)) : (cellsIn c).run P w = .ok (some cs.size) w := by
  simp [cellsIn, shape_of h]
theorem seenAt_run {w : World} {a : Addr} {cs : Array Value} {ty : TypeId} {fr : Nat × Nat} (h : w.heap[a.block]? = some (.cells cs ty fr)) : (Conv.seenAt a).run P w = .ok a w := by
  simp [Conv.seenAt, view_none ok h]
theorem convA_ok (inv : Inv m hp w.heap) {src dst : TypeId} {x x' v : Value} {hp' : Hp} (hf : Fresh m hp.nx hp'.nx) (hx : RV m x x') (h : convA cx hp src dst x = some (v, hp')) :
    Turns P m hp w (convert src dst x') v hp' := by
  unfold convA at h
  split at h
  · rename_i s d hs hd
    have hs := ok.ty _ _ hs
    have hd := ok.ty _ _ hd
    have us := fun w => run_under hs w
    have ud := fun w => run_under hd w
    split at h
    · rename_i k q n hdd
      obtain rfl := hx.flat_iff rfl
      injection h with h
      injection h with h1 h2
      subst h1 h2
      refine Reads.turns inv (.same ?_ rfl)
      rw [wrapA_eq]
      simp only [convert, Sem.run_bind, us, ud, hdd, Result.andThen_ok]
      simp [Conv.intToInt]
    · rename_i b hdd
      obtain rfl := hx.flat_iff rfl
      injection h with h
      injection h with h1 h2
      subst h1 h2
      refine Reads.turns inv (.same ?_ rfl)
      simp only [convert, Sem.run_bind, us, ud, hdd, Result.andThen_ok]
      simp
    · rename_i t hsd hdd
      obtain rfl := hx.flat_iff rfl
      injection h with h
      injection h with h1 h2
      subst h1 h2
      refine Reads.turns inv (.same ?_ rfl)
      simp [convert, us, ud, hsd, hdd, Conv.unsafePointer]
    · rename_i t a hsd hdd
      obtain ⟨a', rfl, ha⟩ := hx.ptr_iff
      split at h
      · rename_i ti tr k ty op str hti hob
        have hti := ok.ty _ _ hti
        split at h
        · rename_i b1 b2
          have b1 := Nat.ne_of_beq_eq_false b1
          have b2 := Nat.blt_eq.mp b2
          injection h with h
          injection h with h1 h2
          subst h1 h2
          refine Reads.turns inv ⟨_, ?_, .ptr _ _ ha⟩
          obtain ⟨hsp, e, he, rfl⟩ := ha
          obtain ⟨-, -, cs, fr, hcs, hrel, -⟩ := inv.obj _ e _ he hob (by simp)
          have hlt : e.o + a.off < cs.size := by
            obtain ⟨u, u', -, k2, -⟩ := hrel a.off b2
            rcases Nat.lt_or_ge (e.o + a.off) cs.size with hlt | hge
            · exact hlt
            · rw [Array.getElem?_eq_none hge] at k2; cases k2
          simp only [convert, Sem.run_bind, us, ud, hsd, hdd, Result.andThen_ok, Conv.unsafePointer, seenAt_run (P := P) ok (a := ⟨e.c, e.o + a.off, none⟩) hcs, cellsIn_run (P := P) ok hcs, run_size hti, Sem.run_pure]
          have hn : decide (e.o + a.off ≥ cs.size) = false := by simp; omega
          simp [b1, hn]
        · cases h
      · cases h
    · rename_i u hsd hdd
      obtain rfl := hx.flat_iff rfl
      injection h with h
      injection h with h1 h2
      subst h1 h2
      refine Reads.turns inv (.same ?_ rfl)
      simp [convert, us, ud, hsd, hdd, Conv.unsafePointer]
    · rename_i u a hsd hdd
      obtain ⟨a', rfl, ha⟩ := hx.ptr_iff
      split at h
      · rename_i tr k e0 str tu hob htu
        have htu := ok.ty _ _ htu
        split at h
        · rename_i te hte
          have hte := ok.ty _ _ hte
          split at h
          · rename_i hl
            injection h with h
            injection h with h1 h2
            subst h1 h2
            refine Reads.turns inv ⟨_, ?_, .ptr _ _ ha⟩
            obtain ⟨hsp, e, he, rfl⟩ := ha
            obtain ⟨-, ho, cs, fr, hcs, hrel, h1, -⟩ := inv.obj _ e _ he hob (by simp)
            have hop : e.op = none := by
              cases hop : e.op with
              | none => rfl
              | some p => rw [hop] at ho; cases ho
            obtain ⟨ho, hsz⟩ := h1 hop
            rw [ok.prog] at hl
            have hv : (variablesAt ⟨e.c, e.o + a.off, none⟩ u 1).run P w = .ok true w := by
              simp only [variablesAt, Sem.run_bind, run_program, run_shape, shape_of hcs, Result.andThen_ok, Sem.run_pure, cellsOf_ti ok hte, hsz, ho, Nat.zero_add, hl]
            simp only [convert, Sem.run_bind, us, ud, hsd, hdd, Result.andThen_ok, Conv.unsafePointer, seenAt_run (P := P) ok (a := ⟨e.c, e.o + a.off, none⟩) hcs, run_size htu, hv, Sem.run_pure]
            simp
          · cases h
        · cases h
      · cases h
    · rename_i e b hdd
      obtain rfl := hx.flat_iff rfl
      split at h
      · rename_i ti hti
        have hti := ok.ty _ _ hti
        split at h
        · rename_i hti8
          injection h with h
          injection h with h1 h2
          subst h1 h2
          have hq : (Question.appendCap b.size 0 e).forced = false := rfl
          generalize hcap : (Question.appendCap b.size 0 e).cut (w.tape w.drawn (.appendCap b.size 0 e)) = cap
          have hcap2 : b.size ≤ cap := by
            rw [← hcap]
            exact Nat.le_add_right _ _
          have hsz : ((b.data.map fun c => Value.int .u8 c.toNat) ++ Array.replicate (cap - b.size) (Value.int .u8 0)).size = cap := by
            have : b.data.size = b.size := rfl
            simp
            omega
          have hs := step_new (w := w) inv (hf hp.nx (Nat.le_refl _) (Nat.lt_succ_self _)) (t := Tr.putList (b.data.toList.map fun c => .int .u8 c.toNat) .nil 0) (n := b.size) (ty := e) (op := some (cap, 1)) (str := true)
            (cs := (b.data.map fun c => Value.int .u8 c.toNat) ++ Array.replicate (cap - b.size) (Value.int .u8 0)) (fr := frOf true cap)
            (fun i hi => by
              have hi2 : i < b.data.size := hi
              refine ⟨.int .u8 (b.data[i].toNat), .int .u8 (b.data[i].toNat), ?_, ?_, .flat _ rfl⟩
              · rw [Tr.get_putList, if_pos (by simp; exact hi2)]
                simp [hi2]
                exact ⟨_, Array.getElem?_eq_getElem hi2, rfl⟩
              · rw [Array.getElem?_append_left (by simpa using hi2)]
                simp [hi2]
                exact ⟨_, Array.getElem?_eq_getElem hi2, rfl⟩)
            (fun h => by cases h) (fun tot z h => by injection h with h; injection h with h _; rw [← h]; exact hsz) ⟨true, by rw [hsz], fun _ => rfl⟩ (w.drawn + 1)
          refine ⟨_, .slice (some ⟨w.heap.size, 0, none⟩) b.size cap, _, ?_, hs, .slice _ _ _ _ _ ⟨rfl, _, Emb.put_same _ _ _, .inr ⟨cap, 1, rfl, rfl, rfl, .inr rfl, hcap2, by simp⟩⟩⟩
          have hm := mark_run (P := P) (w := { w with heap := w.heap.push (.cells ((b.data.map fun c => Value.int .u8 c.toNat) ++ Array.replicate (cap - b.size) (Value.int .u8 0)) e), drawn := w.drawn + 1 }) (a := ⟨w.heap.size, 0, none⟩)
            (cs := (b.data.map fun c => Value.int .u8 c.toNat) ++ Array.replicate (cap - b.size) (Value.int .u8 0)) (ty := e) (str := false) (by simp [frOf])
          rw [hsz] at hm
          simp only [convert, Sem.run_bind, us, ud, hdd, Result.andThen_ok, run_under hti, hti8, Conv.stringToBytes, run_choose, hq, hcap, newRow, run_newObj, Sem.run_pure]
          simp only [Bool.false_eq_true, if_false, Result.andThen_ok]
          refine Eq.trans (congrArg (fun r => Result.andThen r fun a w' => Result.ok (Value.slice (some ⟨w.heap.size, 0, none⟩) b.size cap) w') hm) ?_
          simp only [Result.andThen_ok]
          congr 2
          apply Array.ext_getElem?
          intro i
          by_cases hi : w.heap.size = i
          · subst hi; simp
          · rw [Array.getElem?_setIfInBounds_ne hi]
            simp only [Array.getElem?_push]
            rw [if_neg (fun h => hi h.symm), if_neg (fun h => hi h.symm)]
        · cases h
      · cases h
    · rename_i s1 e a n c hsd hdd
      obtain ⟨a', c', rfl, ha⟩ := hx.slice_iff
      split at h
      · rename_i ti hsd2 hti
        have hti := ok.ty _ _ hti
        have hsd2 := Nat.eq_of_beq_eq_true hsd2
        subst hsd2
        rw [hs] at hd
        injection hd with hd
        subst hd
        rw [hsd] at hdd
        injection hdd with hdd
        subst hdd
        split at h
        · rename_i hti8
          split at h
          · rename_i tr k ty op str hob
            injection h with h
            injection h with h1 h2
            subst h1 h2
            obtain ⟨hsp, en, he, hr⟩ := ha
            obtain ⟨-, -, cs, fr, hcs, hrel, h1, h2, h3⟩ := inv.obj _ en _ he hob (by simp)
            obtain ⟨s0, rfl, -⟩ := h3
            have hblk : a'.block = en.c := by
              rcases hr with ⟨-, r2, -⟩ | ⟨tot, z, -, r2, -⟩
              · rw [r2]
              · exact r2
            have hs := step_write (w := w) inv he hob hcs rfl hrel (str' := true) (fr' := frOf true cs.size) ⟨true, rfl, fun _ => rfl⟩
            refine ⟨m, .slice (some a') n c', _, ?_, hs, .slice _ _ _ _ _ ⟨hsp, en, he, hr⟩⟩
            have hm := mark_run (P := P) (w := w) (a := a') (by rw [hblk]; exact hcs)
            rw [hblk] at hm
            simp only [convert, Sem.run_bind, us, hsd, Result.andThen_ok, run_under hti, hti8, beq_self_eq_true, hm, Sem.run_pure]
          · cases h
        · cases h
      · cases h
    · rename_i e n c hsd hdd
      obtain rfl := hx.flat_iff rfl
      split at h
      · rename_i ti hti
        have hti := ok.ty _ _ hti
        split at h
        · rename_i hti8
          injection h with h
          injection h with h1 h2
          subst h1 h2
          refine Reads.turns inv (.same ?_ rfl)
          simp only [convert, Sem.run_bind, us, ud, hsd, hdd, Result.andThen_ok, run_under hti, hti8]
          simp [Conv.bytesToString]
        · cases h
      · cases h
    · rename_i e a n c hsd hdd
      obtain ⟨a', c', rfl, ha⟩ := hx.slice_iff
      split at h
      · rename_i ti hti
        have hti := ok.ty _ _ hti
        split at h
        · rename_i hti8
          split at h
          · rename_i l hl
            split at h
            · rename_i bs hbs
              injection h with h
              injection h with h1 h2
              subst h1 h2
              refine Reads.turns inv (.same ?_ rfl)
              have hload : (loadCells a' n).run P w = .ok ⟨l⟩ w := by
                obtain ⟨hsp, en, he, hr⟩ := ha
                rcases Nat.eq_zero_or_pos n with h0 | h0
                · subst h0
                  obtain ⟨_, _, _, _, _, _, _, hlen, _⟩ := getRow_parts hl
                  have : l = [] := List.eq_nil_of_length_eq_zero hlen
                  subst this
                  rfl
                · have hra : RA m a a' := by
                    refine ⟨hsp, en, he, ?_⟩
                    rcases hr with ⟨-, r2, -⟩ | ⟨tot, z, -, r2, r3, r4, -⟩
                    · exact r2
                    · rcases r4 with r4 | r4
                      · omega
                      · obtain ⟨b', o', s'⟩ := a'
                        simp only at r2 r3 r4
                        rw [r2, r3, r4]
                  obtain ⟨l', k1, k2⟩ := getRow_run P inv hra hl
                  rw [bytesA_rv k1 hbs] at k2
                  exact k2
              have hb := bytesToString_ok (c := c') hload hbs
              simp only [convert, Sem.run_bind, us, ud, hsd, hdd, Result.andThen_ok, run_under hti, hti8]
              exact hb
            · cases h
          · cases h
        · cases h
      · cases h
    · cases h
  · cases h
theorem convS_ok {src dst : TypeId} {x x' v : Value} (as : AsOk cx m) (hs : isSym x = true) (hx : RV m x x') (h : convS cx src dst x = some v) : Reads P m w (convert src dst x') v := by
  unfold convS at h
  split at h
  case h_2 => cases h
  rename_i si d hs' hd'
  have hsi := ok.ty _ _ hs'
  have hdi := ok.ty _ _ hd'
  split at h
  case h_2 => cases h
  rename_i k hdd hk
  injection h with h
  subst h
  have ht := (hx.sym_iff hs).2
  unfold tyKind at hk
  rw [Bool.and_eq_true] at hk
  obtain ⟨k0, n, rfl, -⟩ := ty_int (Nat.le_of_ble_eq_true hk.1) ht
  refine ⟨.int k (k.wrap n), ?_, ?_⟩
  · simp only [convert, Sem.run_bind, run_under hsi, run_under hdi, hdd, Result.andThen_ok]
    simp [Conv.intToInt]
  · refine RV.app (l' := [num (kindCode k), .int k0 n]) (k := 2) (.cons (.flat _ rfl) (.cons hx (.nil m))) (by simp [symFlat, hs, Ev.flat, num]) ?_ (tyOk_wrap k n)
    rw [as.ops 2 _ (by omega)]
    simp only [opSem, num, kindOf_code, wrapA_eq]
omit ok in
theorem bytesA_some : ∀ {l : List Value}, (∀ (i : Nat) (v : Value), l[i]? = some v → tyOk 7 v = true) → ∃ bs, bytesA l = some bs ∧ bs.length = l.length := by
  intro l
  induction l with
  | nil => intro _; exact ⟨[], rfl, rfl⟩
  | cons x l ih =>
    intro h
    obtain ⟨bs, h1, h2⟩ := ih (fun i v hi => h (i + 1) v (by simpa using hi))
    obtain ⟨k0, n, rfl, hk⟩ := ty_int (by omega) (h 0 x rfl)
    obtain rfl : k0 = .u8 := by cases k0 <;> first | rfl | cases hk
    refine ⟨UInt8.ofNat n.toNat :: bs, ?_, by simp [h2]⟩
    show (match bytesA l with | some bs => some (UInt8.ofNat n.toNat :: bs) | none => none) = _
    rw [h1]
theorem convQ_ok (gw : GW cx m w) (inv : Inv m hp w.heap) {src dst : TypeId} {x x' v : Value} (hx : RV m x x') (h : convQ cx hp src dst x = some v) : Reads P m w (convert src dst x') v := by
  unfold convQ at h
  split at h
  case h_2 => cases h
  rename_i s d hs hd
  have hs := ok.ty _ _ hs
  have hd := ok.ty _ _ hd
  have us := fun w => run_under hs w
  have ud := fun w => run_under hd w
  split at h
  case h_2 => cases h
  rename_i e b n hsd hdd
  split at h
  case h_2 => cases h
  rename_i ti hti
  have hti := ok.ty _ _ hti
  split at h
  case h_2 => cases h
  rename_i hti8
  split at h
  case h_2 => cases h
  rename_i x n' ks ty hob
  split at h
  case h_2 => cases h
  rename_i h1 h2 h3
  rw [Bool.and_eq_true] at h1
  obtain rfl := vEq_ok 60 _ _ h1.1
  obtain rfl := lEq_ok (fun _ _ => Nat.eq_of_beq_eq_true) _ _ h2
  injection h with h
  subst h
  obtain ⟨k, c', a', rfl, hn, hkc, en, tot, z, he, hop, rfl, hroom⟩ := hx.seq_iff
  obtain ⟨-, cells, cs, fr, ⟨hden, ⟨k2, hn2, hlen⟩, hcell⟩, hheap, -, -⟩ := inv.obj b en _ he hob (by simp)
  have hk2 : k2 = k := by
    have a := hn.to_denS h1.2
    have b := hn2.to_denS h1.2
    rw [a] at b
    injection b with b
    injection b with _ b
    injection b with b
    exact b.symm
  subst hk2
  obtain ⟨kd, n1, hn1, hle⟩ := tLe_iff (leS_ok gw.as h3 hn h1.2)
  injection hn1 with _ hn1
  injection hn1 with hn1
  subst hn1
  have hlen : cells.length = k2 := by rw [hlen]; simp
  obtain ⟨bs, hbs, hbl⟩ := bytesA_some (l := cells) (fun i v hi => by have := (hcell i v hi).1; simpa [Nat.mod_one] using this)
  have hload : (loadCells ⟨en.c, en.o, none⟩ k2).run P w = .ok ⟨cells⟩ w := run_loadCells hlen (fun j v hj => by rw [add_at, cell_of hheap]; exact (hcell j v hj).2)
  have hb := bytesToString_ok (c := c') hload hbs
  refine ⟨.string ⟨⟨bs⟩⟩, ?_, RV.of_denS ?_ ?_⟩
  · simp only [convert, Sem.run_bind, us, ud, hsd, hdd, Result.andThen_ok, run_under hti, hti8]
    exact hb
  · rw [denS_app, mapO_of (denS_flat rfl) (mapO_of (denS_iff.2 hden) rfl)]
    show m.u 10 _ = _
    rw [gw.as.seq]
    show (match bytesA cells with | some bs => some (Value.string ⟨⟨bs⟩⟩) | none => none) = _
    rw [hbs]
  · have hsz : (⟨⟨bs⟩⟩ : ByteArray).size = bs.length := rfl
    simp [tyOk, hsz]
    omega
theorem s2b_run {src dst e : TypeId} {s d ti : TI} (hs : tiOf P src = some s) (hd : tiOf P dst = some d) (hti : tiOf P e = some ti) (hss : s.desc = .string) (hdd : d.desc = .slice e) (hti8 : ti.desc = .int .u8) (b : ByteArray) :
    ∃ cap, b.size ≤ cap ∧ ((b.data.map fun c => Value.int .u8 c.toNat) ++ Array.replicate (cap - b.size) (Value.int .u8 0)).size = cap ∧
      (convert src dst (.string b)).run P w = .ok (.slice (some ⟨w.heap.size, 0, none⟩) b.size cap) { w with heap := w.heap.push (.cells ((b.data.map fun c => Value.int .u8 c.toNat) ++ Array.replicate (cap - b.size) (Value.int .u8 0)) e (frOf true cap)), drawn := w.drawn + 1 } := by
  have us := fun w => run_under hs w
  have ud := fun w => run_under hd w
  have hq : (Question.appendCap b.size 0 e).forced = false := rfl
  generalize hcap : (Question.appendCap b.size 0 e).cut (w.tape w.drawn (.appendCap b.size 0 e)) = cap
  have hcap2 : b.size ≤ cap := by
    rw [← hcap]
    exact Nat.le_add_right _ _
  have hsz : ((b.data.map fun c => Value.int .u8 c.toNat) ++ Array.replicate (cap - b.size) (Value.int .u8 0)).size = cap := by
    have : b.data.size = b.size := rfl
    simp
    omega
  refine ⟨cap, hcap2, hsz, ?_⟩
  have hm := mark_run (P := P) (w := { w with heap := w.heap.push (.cells ((b.data.map fun c => Value.int .u8 c.toNat) ++ Array.replicate (cap - b.size) (Value.int .u8 0)) e), drawn := w.drawn + 1 }) (a := ⟨w.heap.size, 0, none⟩)
    (cs := (b.data.map fun c => Value.int .u8 c.toNat) ++ Array.replicate (cap - b.size) (Value.int .u8 0)) (ty := e) (str := false) (by simp [frOf])
  rw [hsz] at hm
  simp only [convert, Sem.run_bind, us, ud, hdd, Result.andThen_ok, run_under hti, hti8, Conv.stringToBytes, run_choose, hq, hcap, newRow, run_newObj, Sem.run_pure]
  simp only [Bool.false_eq_true, if_false, Result.andThen_ok]
  refine Eq.trans (congrArg (fun r => Result.andThen r fun a w' => Result.ok (Value.slice (some ⟨w.heap.size, 0, none⟩) b.size cap) w') hm) ?_
  simp only [Result.andThen_ok]
  congr 2
  apply Array.ext_getElem?
  intro i
  by_cases hi : w.heap.size = i
  · subst hi; simp
  · rw [Array.getElem?_setIfInBounds_ne hi]
    simp only [Array.getElem?_push]
    rw [if_neg (fun h => hi h.symm), if_neg (fun h => hi h.symm)]
theorem convB_ok (gw : GW cx m w) (inv : Inv m hp w.heap) {src dst : TypeId} {x x' v : Value} {hp' : Hp} (hf : Fresh m hp.nx hp'.nx) (hsx : isSym x = true) (hx : RV m x x') (h : convB cx hp src dst x = some (v, hp')) : Turns P m hp w (convert src dst x') v hp' := by
  unfold convB at h
  split at h
  case h_2 => cases h
  rename_i s d hs hd
  have hs := ok.ty _ _ hs
  have hd := ok.ty _ _ hd
  have us := fun w => run_under hs w
  have ud := fun w => run_under hd w
  have str : hasTy 2 x = true → ∃ b, x' = .string b ∧ b.size < 9223372036854775808 := fun h => by
    unfold hasTy at h
    rw [hsx] at h
    have ht := (hx.sym_iff hsx).2
    rw [Nat.eq_of_beq_eq_true h] at ht
    cases x' <;> first
      | (simp [tyOk, kindCode] at ht; done)
      | skip
    · rename_i k n
      cases k <;> (simp [tyOk, kindCode] at ht)
    · rename_i b
      simp [tyOk] at ht
      exact ⟨b, rfl, ht⟩
  split at h
  · rename_i hsd hdd
    split at h
    case h_2 => cases h
    rename_i ht
    injection h with h
    injection h with e1 e2
    subst e1; subst e2
    obtain ⟨b, rfl, -⟩ := str ht
    refine Reads.turns inv ⟨.string b, ?_, hx⟩
    simp [convert, us, ud, hsd, hdd]
  · rename_i e hsd hdd
    split at h
    case h_2 => cases h
    rename_i ti hti
    have hti := ok.ty _ _ hti
    split at h
    case h_2 => cases h
    rename_i hti8 ht
    rw [Bool.and_eq_true] at ht
    injection h with h
    injection h with e1 e2
    subst e1; subst e2
    obtain ⟨b, rfl, hbs⟩ := str ht.1
    obtain ⟨cap, hcap, hsz, hrun⟩ := s2b_run (P := P) (w := w) ok hs hd hti hsd hdd hti8 b
    have hfx : symFlat x = true := by simp [symFlat, hsx]
    have hlenv : RV m (sy 6 5 [x]) (.int .i64 (.ofNat b.size)) := RV.app (k := 4) (l' := [.string b]) (.cons hx (.nil m)) (by simp only [List.all_cons, hfx]; rfl) (by rw [gw.as.rd 4 _ (by omega)]; rfl) (by
      simp [tyOk, kindCode, IntKind.min, IntKind.max, IntKind.bits, IntKind.signed]
      omega)
    have hor : OR m (.seq (sy 0 11 [num 7, x]) (sy 6 5 [x]) [7] e) ⟨w.heap.size, 0, some (cap, 1), true⟩ (w.heap.push (.cells ((b.data.map fun c => Value.int .u8 c.toNat) ++ Array.replicate (cap - b.size) (Value.int .u8 0)) e (frOf true cap))) := by
      refine ⟨b.data.toList.map fun c => .int .u8 c.toNat, _, frOf true cap, ⟨?_, ⟨b.size, hlenv, by simp⟩, fun i v hv => ?_⟩, getD_push_size, ⟨true, by rw [hsz], fun _ => rfl⟩, by rw [hsz]; rfl⟩
      · refine denS_iff.1 ?_
        rw [denS_app, mapO_of (denS_flat rfl) (mapO_of (hx.to_denS hfx) rfl)]
        show m.u 10 _ = _
        rw [gw.as.seq]
        rfl
      · obtain ⟨c, hc, rfl⟩ : ∃ c, b.data.toList[i]? = some c ∧ Value.int .u8 c.toNat = v := by rw [List.getElem?_map] at hv; exact Option.map_eq_some_iff.1 hv
        have hil : i < b.data.size := by
          have := (List.getElem?_eq_some_iff.1 hc).1
          simpa using this
        refine ⟨?_, ?_⟩
        · have := UInt8.toNat_lt c
          simp [Nat.mod_one, tyOk, kindCode, IntKind.min, IntKind.max, IntKind.bits, IntKind.signed]
          omega
        · rw [Nat.zero_add, Array.getElem?_append_left (by simpa using hil), Array.getElem?_map]
          have : b.data[i]? = some c := by simpa using hc
          rw [this]
          rfl
    have st := step_newob (m := m) (hp := hp) (w := w) inv (hf hp.nx (Nat.le_refl _) (Nat.lt_succ_self _)) hor
    exact ⟨_, _, _, hrun, ⟨st.le, st.inv, st.os, st.tape, st.output, st.size, st.keep, st.rng, st.far, st.nx, st.lo, st.low⟩, .seq _ _ b.size cap _ (hlenv.mono st.le) hcap ⟨_, _, _, Emb.put_same _ _ _, rfl, rfl, by show 0 + cap * 1 ≤ cap; omega⟩⟩
  · cases h
theorem convT_ok (gw : GW cx m w) (inv : Inv m hp w.heap) {src dst : TypeId} {x x' v : Value} {hp' : Hp} (hf : Fresh m hp.nx hp'.nx) (hx : RV m x x') (h : convT cx hp src dst x = some (v, hp')) : Turns P m hp w (convert src dst x') v hp' := by
  unfold convT at h
  split at h
  · split at h
    · rename_i r hr
      injection h with h
      subst h
      exact convA_ok ok inv hf hx hr
    · split at h
      · rename_i v0 hv0
        injection h with h
        injection h with e1 e2
        subst e1; subst e2
        exact (convQ_ok ok gw inv hx hv0).turns inv
      · cases h
  · rename_i hs
    split at h
    · rename_i v0 hv0
      injection h with h
      injection h with e1 e2
      subst e1; subst e2
      exact (convS_ok ok gw.as hs hx hv0).turns inv
    · exact convB_ok ok gw inv hf hs hx h
end
end Go.Proofs.YtaepplhgeeaidaaDoor.Ev
