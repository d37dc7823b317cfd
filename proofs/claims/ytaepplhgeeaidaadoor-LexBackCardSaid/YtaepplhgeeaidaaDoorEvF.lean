import Derived.Test.YtaepplhgeeaidaaDoorEvE
import Derived.Test.YtaepplhgeeaidaaDoorEvDp
import Derived.Laws.StructEq
set_option linter.unusedVariables false
set_option linter.unusedSimpArgs false
namespace Go.Proofs.YtaepplhgeeaidaaDoor.Ev
open Go Go.RowKit
structure CxOk (P : Program) (cx : Cx) : Prop where
  prog : cx.P = P
  ty : ∀ t ti, cx.t t = some ti → tiOf P t = some ti
  fn : ∀ f fi, cx.f f = some fi → ∃ fn, P.funcs[f]? = some fn ∧ fiOfF fn = some fi
theorem bytes_get (s : ByteArray) (i : Nat) : s[i]? = s.data.toList[i]? := by
  by_cases h : i < s.size
  · rw [getElem?_pos s i h]
    have h' : i < s.data.toList.length := by simpa using h
    rw [List.getElem?_eq_getElem h']
    rfl
  · rw [getElem?_neg s i h, List.getElem?_eq_none (by simpa using h)]
def Reads (P : Program) (m : Emb) (w : World) (s : Sem Value) (v : Value) : Prop := ∃ v', s.run P w = .ok v' w ∧ RV m v v'
theorem Reads.same {P : Program} {m : Emb} {w : World} {s : Sem Value} {v : Value} (h : s.run P w = .ok v w) (hf : flat v = true) : Reads P m w s v := ⟨v, h, .flat v hf⟩
theorem less_flip : ∀ a b : List UInt8, Op.bytesLess b a = !(Op.bytesLess a b || a == b)
  | [], [] => rfl
  | [], _ :: _ => rfl
  | _ :: _, [] => rfl
  | x :: a, y :: b => by
    have ih := less_flip a b
    simp only [Op.bytesLess]
    rw [ih]
    by_cases h1 : x < y
    · have h2 : ¬ y < x := fun h => absurd (UInt8.lt_trans h1 h) (UInt8.lt_irrefl _)
      have h3 : ¬ y = x := fun h => by subst h; exact UInt8.lt_irrefl _ h1
      simp [h1, h2, h3]
    · by_cases h2 : y < x
      · have h3 : ¬ x = y := fun h => by subst h; exact UInt8.lt_irrefl _ h2
        simp [h1, h2, h3]
      · have h3 : x = y := UInt8.le_antisymm (UInt8.not_lt.1 h2) (UInt8.not_lt.1 h1)
        subst h3
        simp [UInt8.lt_irrefl]
theorem binA_neq {cx : Cx} {t : TypeId} {c : Bool} {x y : Value} {b : Bool} (h : binA cx .neq t c x y = some (.bool b)) : binA cx .eql t c x y = some (.bool !b) := by
  unfold binA at h ⊢
  split at h
  · simp only [intA] at h ⊢
    split at h
    · rename_i hk
      simp only [hk, if_true]
      injection h with h
      injection h with h
      subst h
      simp [bne]
    · cases h
  · simp only [strA] at h ⊢
    injection h with h
    injection h with h
    subst h
    simp
  · split at h
    · cases h
    · rename_i h1
      simp only [h1]
      cases he : eqA cx 9 t x y <;> rw [he] at h
      · cases h
      · injection h with h
        injection h with h
        subst h
        simp
theorem binA_flip {cx : Cx} {op : BinOp} (hop : op = .leq ∨ op = .gtr ∨ op = .geq) {t : TypeId} {c : Bool} {x y : Value} {b : Bool} (h : binA cx op t c x y = some (.bool b)) :
    (op = .leq → binA cx .lss t c y x = some (.bool !b)) ∧ (op = .gtr → binA cx .lss t c y x = some (.bool b)) ∧ (op = .geq → binA cx .lss t c x y = some (.bool !b)) := by
  unfold binA at h ⊢
  split at h
  · rename_i k a k' a'
    rcases hop with rfl | rfl | rfl <;> simp only [intA] at h <;> (split at h; case isFalse => cases h) <;> rename_i hk <;> subst hk <;> injection h with h <;> injection h with h <;> subst h
    · refine ⟨fun _ => ?_, (fun hh => by cases hh), (fun hh => by cases hh)⟩
      simp [intA, ← Int.not_lt]
    · refine ⟨(fun hh => by cases hh), fun _ => ?_, (fun hh => by cases hh)⟩
      simp [intA]
    · refine ⟨(fun hh => by cases hh), (fun hh => by cases hh), fun _ => ?_⟩
      simp [intA, GE.ge, ← Int.not_lt]
  · rename_i a a'
    rcases hop with rfl | rfl | rfl <;> simp only [strA] at h <;> injection h with h <;> injection h with h <;> subst h
    · refine ⟨fun _ => ?_, (fun hh => by cases hh), (fun hh => by cases hh)⟩
      simp only [strA]
      rw [less_flip]
    · refine ⟨(fun hh => by cases hh), fun _ => ?_, (fun hh => by cases hh)⟩
      simp only [strA]
      rw [less_flip]
    · refine ⟨(fun hh => by cases hh), (fun hh => by cases hh), fun _ => ?_⟩
      simp [strA]
  · split at h
    · cases h
    · rcases hop with rfl | rfl | rfl <;> simp at h
theorem den_app {s : Nat → Value} {u : Nat → List Value → Option Value} {d k : Nat} {nm : String} {xs : List Value} {ys : Array Value} {v : Value} (h : den s u d (.func (.methodOf (k + 1) nm) ⟨xs⟩ ys) = some v) : ∃ d' l, d = d' + 1 ∧ mapO (den s u d') xs = some l ∧ u k l = some v := by
  cases d with
  | zero => cases h
  | succ d =>
    have h : den1 s u (mapO (den s u d)) _ = some v := h
    simp only [den1] at h
    split at h
    · rename_i vs hvs
      exact ⟨d, vs, rfl, hvs, h⟩
    · cases h
theorem den_lit {s : Nat → Value} {u : Nat → List Value → Option Value} {d : Nat} {x y : Value} (h : den s u d x = some y) (hf : flat x = true) : y = x ∧ d ≠ 0 := by
  cases d with
  | zero => cases h
  | succ d => rw [den_flat hf] at h; exact ⟨(Option.some.inj h).symm, by omega⟩
section
variable {P : Program} {cx : Cx} (ok : CxOk P cx) {m : Emb} {hp : Hp} {w : World}
include ok
theorem loadA_ok (inv : Inv m hp w.heap) {t : TypeId} {a a' : Addr} {v : Value} (ha : RA m a a') (h : loadA cx hp t a = some v) : Reads P m w (loadVar t a') v := by
  unfold loadA at h
  split at h
  · rename_i ti hti
    have hti := ok.ty _ _ hti
    split at h
    · rename_i hagg
      split at h
      · rename_i l hl
        injection h with h
        subst h
        obtain ⟨l', h1, h2⟩ := getRow_run P inv ha hl
        refine ⟨.agg ⟨l'⟩, ?_, .agg _ _ h1.1 h1.2⟩
        simp [loadVar, run_isAgg hti, hagg, run_size hti, h2]
      · cases h
    · rename_i hagg
      split at h
      · rename_i v0 hl
        injection h with h
        subst h
        obtain ⟨l', h1, h2, h3⟩ := getRow_spec inv ha hl
        obtain ⟨v', tl, rfl, h4, h5⟩ := h1.head
        have hc := h3 0 v' rfl
        have ha0 : a'.add 0 = a' := rfl
        rw [ha0] at hc
        refine ⟨v', ?_, h4⟩
        simp [loadVar, run_isAgg hti, hagg, hc]
      · cases h
  · cases h
def GN (v : Value) (u : Option Value) : Prop := match v with
  | .tuple ⟨[_]⟩ => ∃ x, u = some x ∧ (x = .nilIface ∨ ∃ te pe, x = .iface te pe)
  | .tuple ⟨[_, _]⟩ => u = none
  | _ => ∃ z, u = some (.int .i64 z)
def GC (v : Value) (u : Option Value) : Prop := (flat v = true ∧ u = some v) ∨ (flat v = false ∧ GN v u)
omit ok in
theorem GC.flat {v : Value} {u : Option Value} (h : GC v u) (hf : Ev.flat v = true) : u = some v := by
  rcases h with ⟨-, h⟩ | ⟨h, -⟩
  · exact h
  · rw [hf] at h; cases h
abbrev AsOk (cx : Cx) (m : Emb) : Prop :=
  (∀ k vs, k ≠ 5 → m.u k vs = if k < 4 then opSem cx k vs else if k < 16 then opRd cx.P (fun a => m.u 5 [.pointer (some a)]) k vs else cx.U (k - 16) vs) ∧ ∀ e b, (e, b) ∈ cx.as → isSym e = true → ∀ d v, den m.s m.u d e = some v → tyOk 1 v = true → v = .bool b
omit ok in
theorem AsOk.ops (h : AsOk cx m) : ∀ k vs, k < 4 → m.u k vs = opSem cx k vs := fun k vs hk => by rw [h.1 k vs (by omega), if_pos hk]
omit ok in
theorem AsOk.rd (h : AsOk cx m) : ∀ k vs, (4 ≤ k ∧ k < 16 ∧ k ≠ 5) → m.u k vs = opRd cx.P (fun a => m.u 5 [.pointer (some a)]) k vs := fun k vs hk => by rw [h.1 k vs (by omega), if_neg (by omega), if_pos (by omega)]
omit ok in
theorem AsOk.user (h : AsOk cx m) : ∀ k vs, m.u (k + 16) vs = cx.U k vs := fun k vs => by rw [h.1 _ _ (by omega), if_neg (by omega), if_neg (by omega), Nat.add_sub_cancel]
omit ok in
theorem AsOk.as (h : AsOk cx m) : ∀ e b, (e, b) ∈ cx.as → isSym e = true → ∀ d v, den m.s m.u d e = some v → tyOk 1 v = true → v = .bool b := h.2
omit ok in
theorem AsOk.mono {m m' : Emb} (h : AsOk cx m) (hm : m.le m') : AsOk cx m' := ⟨fun k vs hk => by rw [hm.u]; exact h.1 k vs hk, fun e b he hs d v hd ht => h.as e b he hs d v (by rw [hm.s, hm.u] at hd; exact hd) ht⟩
abbrev GW (cx : Cx) (m : Emb) (w : World) : Prop :=
  (∀ g t, (g, t) ∈ cx.gv → (∃ cs ty fr, w.heap[g]? = some (.cells cs ty fr) ∧ ∀ (i : Nat) (v : Value), t.get i = some v → GC v cs[i]?) ∧ ∀ b e, m b = some e → e.live = true → e.c ≠ g) ∧ AsOk cx m ∧ ∀ a v, m.u 5 [.pointer (some a)] = some v → w.cell? a = some v ∧ ∀ b e, m b = some e → e.live = true → e.c ≠ a.block
omit ok in
theorem GW.at_ (h : GW cx m w) : ∀ g t, (g, t) ∈ cx.gv → (∃ cs ty fr, w.heap[g]? = some (.cells cs ty fr) ∧ ∀ (i : Nat) (v : Value), t.get i = some v → GC v cs[i]?) ∧ ∀ b e, m b = some e → e.live = true → e.c ≠ g := h.1
omit ok in
theorem GW.as (h : GW cx m w) : AsOk cx m := h.2.1
omit ok in
theorem GW.frz (h : GW cx m w) : ∀ a v, m.u 5 [.pointer (some a)] = some v → w.cell? a = some v ∧ ∀ b e, m b = some e → e.live = true → e.c ≠ a.block := h.2.2
omit ok in
theorem normB_ok (as : AsOk cx m) : ∀ (n : Nat) (v : Value) (b : Bool) (d : Nat), den m.s m.u d v = some (.bool b) → isSym v = true →
    isSym (normB n v).1 = true ∧ ∃ d', den m.s m.u d' (normB n v).1 = some (.bool (b == (normB n v).2)) := by
  intro n
  induction n with
  | zero => intro v b d h hs; exact ⟨hs, d, by simpa [normB] using h⟩
  | succ n ih =>
    intro v b d h hs
    unfold normB
    split
    · rename_i nm k x ys
      split
      · rename_i hx
        obtain ⟨d', l, rfl, h1, h2⟩ := den_app h
        obtain ⟨y1, t1, k1, k2, rfl⟩ := mapO_cons h1
        obtain ⟨x', t2, k3, k4, rfl⟩ := mapO_cons k2
        have hn : t2 = [] := by simp [mapO] at k4; exact k4
        subst hn
        obtain ⟨rfl, -⟩ := den_lit k1 rfl
        rw [as.ops 1 _ (by omega)] at h2
        simp only [opSem] at h2
        have hu : unOf 2 = .not := rfl
        rw [hu] at h2
        cases x' <;> simp only [unA] at h2 <;> first
          | (cases h2; done)
          | skip
        rename_i b0
        injection h2 with h2
        injection h2 with h2
        subst h2
        obtain ⟨q1, d2, q2⟩ := ih x b0 d' k3 hx
        refine ⟨q1, d2, q2.trans ?_⟩
        show some (Value.bool (b0 == (normB n x).2)) = some (Value.bool ((!b0) == !(normB n x).2))
        cases b0 <;> cases (normB n x).2 <;> rfl
      · exact ⟨hs, d, by simpa using h⟩
    · rename_i nm k op t c x y ys
      obtain ⟨d', l, rfl, h1, h2⟩ := den_app h
      obtain ⟨o', r1, k1, e1, rfl⟩ := mapO_cons h1
      obtain ⟨t', r2, k2, e2, rfl⟩ := mapO_cons e1
      obtain ⟨c', r3, k3, e3, rfl⟩ := mapO_cons e2
      obtain ⟨x', r4, k4, e4, rfl⟩ := mapO_cons e3
      obtain ⟨y', r5, k5, e5, rfl⟩ := mapO_cons e4
      have hn : r5 = [] := by simp [mapO] at e5; exact e5
      subst hn
      obtain ⟨rfl, hd⟩ := den_lit k1 rfl
      rw [as.ops 0 _ (by omega)] at h2
      have hnum : ∀ n, den m.s m.u d' (num n) = some (num n) := fun n => by
        obtain ⟨d2, rfl⟩ : ∃ d2, d' = d2 + 1 := ⟨d' - 1, by omega⟩
        exact den_flat rfl d2
      have mk : ∀ (o2 : Nat) (p q p' q' : Value) (r : Bool), den m.s m.u d' p = some p' → den m.s m.u d' q = some q' → opSem cx 0 [num o2, t', c', p', q'] = some (.bool r) → den m.s m.u (d' + 1) (sy 1 1 [num o2, t, c, p, q]) = some (.bool r) := by
        intro o2 p q p' q' r hp hq hr
        have hl : mapO (den m.s m.u d') [num o2, t, c, p, q] = some [num o2, t', c', p', q'] := mapO_of (hnum o2) (mapO_of k2 (mapO_of k3 (mapO_of hp (mapO_of hq (by simp [mapO])))))
        show (match mapO (den m.s m.u d') [num o2, t, c, p, q] with
          | some vs => m.u 0 vs
          | none => none) = some (.bool r)
        rw [hl]
        simp only
        rw [as.ops 0 _ (by omega)]
        exact hr
      have ex : ∀ (o2 : Nat) (p q : Value) (b : Bool), opSem cx 0 [.int k (.ofNat o2), t', c', p, q] = some (.bool b) → ∃ kt tt cc, t' = .int kt (.ofNat tt) ∧ c' = .bool cc ∧ binA (bare cx) (binOf o2) tt cc p q = some (.bool b) := by
        intro o2 p q b hb
        unfold opSem at hb
        split at hb
        · rename_i heq
          cases heq
          exact ⟨_, _, _, rfl, rfl, hb⟩
        · rename_i h0 _; cases h0
        · rename_i h0 _; cases h0
        · rename_i h0 _; cases h0
        · cases hb
      split
      · obtain ⟨kt, tt, cc, rfl, rfl, hb⟩ := ex _ _ _ _ h2
        exact ⟨rfl, d' + 1, mk 11 x y x' y' _ k4 k5 (by have := binA_neq hb; cases b <;> exact this)⟩
      · obtain ⟨kt, tt, cc, rfl, rfl, hb⟩ := ex _ _ _ _ h2
        exact ⟨rfl, d' + 1, mk 13 y x y' x' _ k5 k4 (by have := (binA_flip (.inl rfl) hb).1 rfl; cases b <;> exact this)⟩
      · obtain ⟨kt, tt, cc, rfl, rfl, hb⟩ := ex _ _ _ _ h2
        exact ⟨rfl, d' + 1, mk 13 y x y' x' _ k5 k4 (by have := (binA_flip (.inr (.inl rfl)) hb).2.1 rfl; cases b <;> exact this)⟩
      · obtain ⟨kt, tt, cc, rfl, rfl, hb⟩ := ex _ _ _ _ h2
        exact ⟨rfl, d' + 1, mk 13 x y x' y' _ k4 k5 (by have := (binA_flip (.inr (.inr rfl)) hb).2.2 rfl; cases b <;> exact this)⟩
      · exact ⟨hs, d' + 1, by simpa using h⟩
    · exact ⟨hs, d, by simpa using h⟩
omit ok in
theorem boolA_ok {v v' : Value} {b : Bool} (as : AsOk cx m) (hv : RV m v v') (h : boolA cx v = some b) : v' = .bool b := by
  unfold boolA at h
  split at h
  · injection h with h
    subst h
    exact hv.flat_iff rfl
  · rename_i fn xs ys
    split at h
    · rename_i hmo hty
      have hs : isSym (.func fn xs ys) = true := by cases fn <;> first | rfl | cases hmo
      obtain ⟨⟨d, hd⟩, ht⟩ := hv.sym_iff hs
      rw [Nat.eq_of_beq_eq_true hty] at ht
      obtain ⟨b0, rfl⟩ : ∃ b0, v' = .bool b0 := by
        cases v' with
        | bool b0 => exact ⟨b0, rfl⟩
        | int k n => cases k <;> simp [tyOk, kindCode] at ht
        | _ => simp [tyOk] at ht
      obtain ⟨q1, d', q2⟩ := normB_ok as 9 _ b0 d hd hs
      have h : (match lookS (normB 9 (.func fn xs ys)).1 cx.as with
        | some b => some (b == (normB 9 (.func fn xs ys)).2)
        | none => none) = some b := h
      split at h
      · rename_i b1 hb1
        injection h with h
        have := as.as _ b1 (lookS_mem hb1) q1 d' _ q2 rfl
        injection this with this
        subst h
        rw [← this]
        cases b0 <;> cases (normB 9 (.func fn xs ys)).2 <;> rfl
      · cases h
    · cases h
  · cases h
omit ok in
theorem GW.step {m m' : Emb} {hp hp' : Hp} {w w' : World} (gw : GW cx m w) (st : Step m hp w m' hp' w') : GW cx m' w' := ⟨fun g t hg => by
  obtain ⟨⟨cs, ty, fr, h1, h2⟩, h3⟩ := gw.at_ g t hg
  have hr : g < w.heap.size := (Array.getElem?_eq_some_iff.1 h1).1
  refine ⟨⟨cs, ty, fr, (st.keep g hr (fun b e _ he hl => h3 b e he hl)).trans h1, h2⟩, fun b e he hl => ?_⟩
  by_cases hb : b < hp'.nx
  · rcases st.rng b e hb he hl with ⟨b0, e0, k1, k2, k3, k4⟩ | k
    · rw [← k4]; exact h3 b0 e0 k2 k3
    · omega
  · rw [st.far b (by omega)] at he
    exact h3 b e he hl, gw.as.mono st.le, fun a v hv => by
  rw [st.le.u] at hv
  obtain ⟨h1, h3⟩ := gw.frz a v hv
  have hr : a.block < w.heap.size := by
    unfold World.cell? at h1
    split at h1
    · rename_i hb; exact (Array.getElem?_eq_some_iff.1 hb).1
    · cases h1
  have hk := st.keep a.block hr (fun b e _ he hl => h3 b e he hl)
  refine ⟨by unfold World.cell? at h1 ⊢; rw [hk]; exact h1, fun b e he hl => ?_⟩
  by_cases hb : b < hp'.nx
  · rcases st.rng b e hb he hl with ⟨b0, e0, k1, k2, k3, k4⟩ | k
    · rw [← k4]; exact h3 b0 e0 k2 k3
    · omega
  · rw [st.far b (by omega)] at he
    exact h3 b e he hl⟩
omit ok in
theorem cx_v {g : Nat} {t : Tr Value} (h : cx.v g = some t) : (g, t) ∈ cx.gv := by
  unfold Cx.v at h
  generalize cx.gv = l at h
  induction l with
  | nil => cases h
  | cons p l ih =>
    simp only at h
    split at h
    · rename_i hb
      injection h with h
      have := Nat.eq_of_beq_eq_true hb
      obtain ⟨p1, p2⟩ := p
      simp only at this h
      subst this h
      exact List.mem_cons_self
    · exact List.mem_cons_of_mem _ (ih h)
theorem loadG_ok (gw : GW cx m w) {t : TypeId} {k : Nat} {v : Value} (h : loadG cx k t = some v) : Reads P m w (loadVar t ⟨k / 1048576, k % 1048576, none⟩) v := by
  unfold loadG at h
  split at h
  · rename_i tr ti htr hti
    have hti := ok.ty _ _ hti
    obtain ⟨⟨cs, ty, fr, h1, h2⟩, -⟩ := gw.at_ _ _ (cx_v htr)
    have hcell : ∀ (j : Nat) (u : Value), flat u = true → tr.get j = some u → w.cell? ⟨k / 1048576, j, none⟩ = some u := fun j u hfl hu => by
      have : w.heap[k / 1048576]? = some (.cells cs ty fr) := h1
      rw [cell_of this]
      exact (h2 j u hu).flat hfl
    split at h
    · rename_i hagg
      split at h
      · rename_i l hl
        split at h
        case h_2 => cases h
        rename_i hfa
        injection h with h
        subst h
        obtain ⟨q1, q2⟩ := Tr.list_spec _ _ _ _ hl
        have hfa : ∀ (j : Nat) (u : Value), l[j]? = some u → flat u = true := fun j u hu => List.all_eq_true.1 hfa u (List.mem_of_getElem? hu)
        have hload : (loadCells ⟨k / 1048576, k % 1048576, none⟩ ti.size).run P w = .ok ⟨l⟩ w := run_loadCells q1 (fun j u hu => by
          have hj : j < ti.size := by rw [← q1]; exact (List.getElem?_eq_some_iff.1 hu).1
          have := hcell (k % 1048576 + j) u (hfa j u hu) ((q2 j hj).symm.trans hu)
          have e : (⟨k / 1048576, k % 1048576, none⟩ : Addr).add j = ⟨k / 1048576, k % 1048576 + j, none⟩ := by
            unfold Addr.add
            split
            · rename_i h0
              have h0 : j = 0 := by simpa using h0
              subst h0; rfl
            · rfl
          rw [e]; exact this)
        refine ⟨.agg ⟨l⟩, by simp [loadVar, run_isAgg hti, hagg, run_size hti, hload], .agg _ _ rfl (fun i hi => ?_)⟩
        have hu : l[i]? = some (l.getD i undef) := by simp [List.getD_eq_getElem?_getD, List.getElem?_eq_getElem hi]
        exact .flat _ (hfa _ _ hu)
      · cases h
    · rename_i hagg
      split at h
      case h_2 => cases h
      rename_i u hu
      split at h
      case h_2 => cases h
      rename_i hfu
      injection h with h
      subst h
      have hc := hcell _ _ hfu hu
      exact ⟨u, by simp [loadVar, run_isAgg hti, hagg]; rw [show (k % 1048576 : Nat) = Nat.mod k 1048576 from rfl, hc], .flat _ hfu⟩
  · cases h
theorem partA_ok {t : TypeId} {l l' : List Value} {off : Nat} {v : Value} (hl : RVs m l l') (h : partA cx t l off = some v) : Reads P m w (part t ⟨l'⟩ off) v := by
  unfold partA at h
  split at h
  · cases h
  · rename_i ti hti
    have hti := ok.ty _ _ hti
    split at h
    · rename_i hagg
      split at h
      · rename_i hle
        injection h with h
        subst h
        have hr := (hl.drop off).take ti.size
        refine ⟨.agg ⟨(l'.drop off).take ti.size⟩, ?_, .agg _ _ hr.1 hr.2⟩
        simp only [part, Sem.run_bind, run_isAgg hti, hagg, Result.andThen_ok, if_true, run_size hti, Sem.run_pure]
        congr 2
        apply Array.ext'
        simp [List.take_drop]
      · cases h
    · rename_i hagg
      obtain ⟨v', h1, h2⟩ := hl.at_ h
      refine ⟨v', ?_, h2⟩
      simp [part, run_isAgg hti, hagg, h1]
theorem fieldA_ok {t : TypeId} {x x' : Value} {f : Nat} {v : Value} (hx : RV m x x') (h : fieldA cx t x f = some v) : Reads P m w (Instr.field t x' f) v := by
  unfold fieldA at h
  split at h
  · cases h
  · rename_i ti hti
    have hti := ok.ty _ _ hti
    split at h
    · rename_i fs cs hd
      obtain ⟨l⟩ := cs
      obtain ⟨l', rfl, hl⟩ := hx.agg_iff
      split at h
      · rename_i fd hfd
        obtain ⟨v', h1, h2⟩ := partA_ok ok (w := w) hl h
        refine ⟨v', ?_, h2⟩
        have hfd' : fs[f]? = some fd := by simpa using hfd
        simp [Instr.field, run_under hti, hd, hfd', asAgg, h1]
      · cases h
    · cases h
theorem fieldAddrA_ok {t : TypeId} {x x' : Value} {f : Nat} {v : Value} (hx : RV m x x') (h : fieldAddrA cx t x f = some v) : Reads P m w (Instr.fieldAt t x' f) v := by
  unfold fieldAddrA at h
  split at h
  · cases h
  · rename_i ti hti
    have hti := ok.ty _ _ hti
    split at h
    · rename_i fs a hd
      obtain ⟨a', rfl, ha⟩ := hx.ptr_iff
      split at h
      · rename_i fd hfd
        split at h
        · rename_i te hte
          have hte := ok.ty _ _ hte
          split at h
          · cases h
          · rename_i hz
            injection h with h
            subst h
            have hfd' : fs[f]? = some fd := by simpa using hfd
            have hz' : te.size ≠ 0 := Nat.ne_of_beq_eq_false hz
            refine ⟨.pointer (some (a'.add fd.offset)), ?_, .ptr _ _ (ra_add ha _)⟩
            simp [Instr.fieldAt, run_under hti, hd, hfd', Instr.sureAddr, fieldPlace, run_size hte, hz']
        · cases h
      · cases h
    · rename_i fs k hd
      obtain ⟨hk, rfl⟩ := hx.chan_iff
      split at h
      · rename_i fd hfd
        split at h
        · rename_i te hte
          have hte := ok.ty _ _ hte
          split at h
          · rename_i hz hM
            injection h with h
            subst h
            have hfd' : fs[f]? = some fd := by simpa using hfd
            have hz' : te.size ≠ 0 := Nat.ne_of_beq_eq_false hz
            have hM : k % 1048576 + fd.offset < 1048576 := Nat.blt_eq.mp hM
            have e : (⟨k / 1048576, k % 1048576, none⟩ : Addr).add fd.offset = ⟨k / 1048576, k % 1048576 + fd.offset, none⟩ := by
              unfold Addr.add
              split
              · rename_i h0
                have h0 : fd.offset = 0 := by simpa using h0
                rw [h0]; rfl
              · rfl
            refine ⟨.pointer (some ((⟨k / 1048576, k % 1048576, none⟩ : Addr).add fd.offset)), ?_, ?_⟩
            · simp [Instr.fieldAt, run_under hti, hd, hfd', Instr.sureAddr, fieldPlace, run_size hte, hz']
            · rw [e]
              have := RV.glob (m := m) (k / 1048576) (k % 1048576 + fd.offset) hM
              rwa [show k / 1048576 * 1048576 + (k % 1048576 + fd.offset) = k + fd.offset by omega] at this
          · cases h
        · cases h
      · cases h
    · cases h
theorem indexAddrA_ok {t : TypeId} {x x' ix ix' : Value} {v : Value} (hx : RV m x x') (hi : RV m ix ix') (h : indexAddrA cx t x ix = some v) : Reads P m w (Instr.indexAt t x' ix') v := by
  unfold indexAddrA at h
  split at h
  · cases h
  · rename_i ti hti
    have hti := ok.ty _ _ hti
    split at h
    · rename_i n e a k i hd
      obtain ⟨a', rfl, ha⟩ := hx.ptr_iff
      obtain rfl := hi.flat_iff rfl
      split at h
      · rename_i te hte
        have hte := ok.ty _ _ hte
        split at h
        · rename_i hlt
          injection h with h
          subst h
          have hlt := Nat.blt_eq.mp hlt
          refine ⟨.pointer (some (a'.add (i * te.size))), ?_, .ptr _ _ (ra_add ha _)⟩
          simp [Instr.indexAt, asIntOf, run_under hti, hd, Instr.sureAddr, run_size hte, hlt]
        · cases h
      · cases h
    · rename_i e a n c k i hd
      obtain ⟨a', c', rfl, ha⟩ := hx.slice_iff
      obtain rfl := hi.flat_iff rfl
      split at h
      · rename_i te hte
        have hte := ok.ty _ _ hte
        split at h
        · rename_i hlt
          injection h with h
          subst h
          have hlt := Nat.blt_eq.mp hlt
          have hra : RA m a a' := by
            obtain ⟨h1, en, h2, h3⟩ := ha
            refine ⟨h1, en, h2, ?_⟩
            rcases h3 with ⟨_, h4, _⟩ | ⟨tot, z, _, h4, h5, h6, _⟩
            · exact h4
            · rcases h6 with h6 | h6
              · omega
              · obtain ⟨b', o', s'⟩ := a'
                simp only at h4 h5 h6
                rw [h4, h5, h6]
          refine ⟨.pointer (some (a'.add (i * te.size))), ?_, .ptr _ _ (ra_add hra _)⟩
          simp [Instr.indexAt, asIntOf, run_under hti, hd, run_size hte, hlt]
        · cases h
      · cases h
    · rename_i n e k k2 i hd
      obtain ⟨hk, rfl⟩ := hx.chan_iff
      obtain rfl := hi.flat_iff rfl
      split at h
      · rename_i te hte
        have hte := ok.ty _ _ hte
        split at h
        · rename_i hlt hM
          injection h with h
          subst h
          have hlt := Nat.blt_eq.mp hlt
          have hM : k % 1048576 + i * te.size < 1048576 := Nat.blt_eq.mp hM
          have e : (⟨k / 1048576, k % 1048576, none⟩ : Addr).add (i * te.size) = ⟨k / 1048576, k % 1048576 + i * te.size, none⟩ := by
            unfold Addr.add
            split
            · rename_i h0
              have h0 : i * te.size = 0 := by simpa using h0
              rw [h0]; rfl
            · rfl
          refine ⟨.pointer (some ((⟨k / 1048576, k % 1048576, none⟩ : Addr).add (i * te.size))), ?_, ?_⟩
          · simp [Instr.indexAt, asIntOf, run_under hti, hd, Instr.sureAddr, run_size hte, hlt]
          · rw [e]
            have := RV.glob (m := m) (k / 1048576) (k % 1048576 + i * te.size) hM
            rwa [show k / 1048576 * 1048576 + (k % 1048576 + i * te.size) = k + i * te.size by omega] at this
        · cases h
      · cases h
    · cases h
theorem indexA_ok {t : TypeId} {x x' ix ix' : Value} {v : Value} (hx : RV m x x') (hi : RV m ix ix') (h : indexA cx t x ix = some v) : Reads P m w (Instr.index t x' ix') v := by
  unfold indexA at h
  split at h
  · cases h
  · rename_i ti hti
    have hti := ok.ty _ _ hti
    split at h
    · rename_i n e cs k i hd
      obtain ⟨l⟩ := cs
      obtain ⟨l', rfl, hl⟩ := hx.agg_iff
      obtain rfl := hi.flat_iff rfl
      split at h
      · rename_i te hte
        have hte := ok.ty _ _ hte
        split at h
        · rename_i hlt
          have hlt := Nat.blt_eq.mp hlt
          obtain ⟨v', h1, h2⟩ := partA_ok ok (w := w) hl h
          refine ⟨v', ?_, h2⟩
          simp [Instr.index, asIntOf, run_under hti, hd, run_size hte, hlt, h1]
        · cases h
      · cases h
    · rename_i s k i hd
      obtain rfl := hx.flat_iff rfl
      obtain rfl := hi.flat_iff rfl
      split at h
      · rename_i b hb
        injection h with h
        subst h
        refine .same ?_ rfl
        have hb' : s[i]? = some b := (bytes_get s i).trans hb
        simp [Instr.index, asIntOf, run_under hti, hd, hb']
      · cases h
    · cases h
omit ok in
theorem isTrue_ok (as : AsOk cx m) {l l' : List Value} (h : isTrue cx l = true) (hl : RVs m l l') (hs : l.all symFlat = true) {b : Bool} (hb : opRd cx.P (fun a => m.u 5 [.pointer (some a)]) 8 l' = some (.bool b)) : b = true := by
  unfold isTrue at h
  split at h
  · rename_i hf
    obtain ⟨d, hd⟩ := hl.den_iff hs
    exact follows_ok (r := fun a => m.u 5 [.pointer (some a)]) (cx := cx) (fun k vs hk => as.rd k vs hk) (fun vs => as.ops 0 vs (by omega)) (fun _ => rfl) as.as hf hd hb
  split at h
  · rename_i hb1
    have hr : RV m (sy 1 9 l) (.bool b) := RV.app (k := 8) hl hs (by rw [as.rd 8 _ (by omega)]; exact hb) rfl
    obtain ⟨⟨d, hd⟩, ht⟩ := hr.sym_iff rfl
    have := as.as _ _ (lookS_mem hb1) rfl d _ hd ht
    injection this
  · cases h
theorem idxS_ok (as : AsOk cx m) {t : TypeId} {x x' ix ix' v : Value} (hs : isSym x = true) (hx : RV m x x') (hi : RV m ix ix') (h : idxS cx t x ix = some v) : Reads P m w (Instr.indexAt t x' ix') v := by
  unfold idxS at h
  split at h
  · cases h
  rename_i ti hti
  have hti := ok.ty _ _ hti
  split at h
  case h_2 => cases h
  rename_i e hd
  split at h
  case h_2 => cases h
  rename_i te hte
  have hte := ok.ty _ _ hte
  split at h
  case h_2 => cases h
  rename_i h1 h2
  injection h with h
  subst h
  have hsx : symFlat x = true := by simp [symFlat, hs]
  have := isTrue_ok as h1 (.cons (.flat (num 1) rfl) (.cons hx (.cons hi (.nil m)))) (by simp only [List.all_cons, hsx, h2]; rfl) (b := tIn x' ix') rfl
  unfold tIn at this
  split at this
  · rename_i a n c k j
    refine ⟨.pointer (some (a.add (j * te.size))), ?_, RV.app (k := 6) (l' := [num te.size, .slice (some a) n c, .int k (.ofNat j)]) (.cons (.flat _ rfl) (.cons hx (.cons hi (.nil m)))) (by simp only [List.all_cons, hsx, h2]; rfl) (by rw [as.rd 6 _ (by omega)]; rfl) rfl⟩
    have hlt := Nat.blt_eq.mp this
    simp [Instr.indexAt, asIntOf, run_under hti, hd, run_size hte, hlt]
  · cases this
theorem fieldS_ok (as : AsOk cx m) {t : TypeId} {x x' v : Value} {f : Nat} (hs : isSym x = true) (hx : RV m x x') (h : fieldS cx t x f = some v) : Reads P m w (Instr.fieldAt t x' f) v := by
  unfold fieldS at h
  split at h
  · cases h
  rename_i ti hti
  have hti := ok.ty _ _ hti
  split at h
  case h_2 => cases h
  rename_i fs hd
  split at h
  case h_2 => cases h
  rename_i fd hfd
  split at h
  case h_2 => cases h
  rename_i te hte
  have hte := ok.ty _ _ hte
  split at h
  case h_2 => cases h
  rename_i hz h1
  injection h with h
  subst h
  have hsx : symFlat x = true := by simp [symFlat, hs]
  have hfd' : fs[f]? = some fd := by simpa using hfd
  have hz' : te.size ≠ 0 := Nat.ne_of_beq_eq_false hz
  have := isTrue_ok as h1 (.cons (.flat (num 3) rfl) (.cons hx (.nil m))) (by simp only [List.all_cons, hsx]; rfl) (b := tPtr x') rfl
  unfold tPtr at this
  split at this
  · rename_i a
    refine ⟨.pointer (some (a.add fd.offset)), ?_, RV.app (k := 7) (l' := [.pointer (some a), num fd.offset]) (.cons hx (.cons (.flat _ rfl) (.nil m))) (by simp only [List.all_cons, hsx]; rfl) (by rw [as.rd 7 _ (by omega)]; rfl) rfl⟩
    simp [Instr.fieldAt, run_under hti, hd, hfd', Instr.sureAddr, fieldPlace, run_size hte, hz']
  · cases this
omit ok in
theorem cellsS_ok (gw : GW cx m w) {p : Value} {a : Addr} (hp : RV m p (.pointer (some a))) (hs : isSym p = true) : ∀ (ks : List Nat) (j : Nat), rdAll (fun a => m.u 5 [.pointer (some a)]) a ks j = true →
    ∃ l, RVs m (cellsS p ks j) l ∧ l.length = ks.length ∧ ∀ i v, l[i]? = some v → w.cell? (a.add (j + i)) = some v := by
  intro ks
  induction ks with
  | nil => intro j _; exact ⟨[], .nil m, rfl, fun i v h => by simp at h⟩
  | cons k ks ih =>
    intro j h
    simp only [rdAll, Bool.and_eq_true] at h
    obtain ⟨h1, h2⟩ := h
    obtain ⟨l, k1, k2, k3⟩ := ih (j + 1) h2
    split at h1
    · rename_i v hv
      have hq : RV m (sy 0 8 [p, num j]) (.pointer (some (a.add j))) := RV.app (k := 7) (l' := [.pointer (some a), num j]) (.cons hp (.cons (.flat _ rfl) (.nil m))) (by simp only [List.all_cons]; rw [show symFlat p = true by simp [symFlat, hs]]; rfl) (by rw [gw.as.rd 7 _ (by omega)]; rfl) rfl
      have hr : RV m (sy k 6 [sy 0 8 [p, num j]]) v := RV.app (k := 5) (l' := [.pointer (some (a.add j))]) (.cons hq (.nil m)) rfl hv h1
      refine ⟨v :: l, .cons hr k1, by simp [k2], fun i u hu => ?_⟩
      cases i with
      | zero =>
        injection hu with hu
        subst hu
        exact (gw.frz _ _ hv).1
      | succ i =>
        have := k3 i u (by simpa using hu)
        rw [show j + (i + 1) = j + 1 + i from by omega]
        exact this
    · cases h1
theorem loadS_ok (gw : GW cx m w) {t : TypeId} {p p' v : Value} (hs : isSym p = true) (hp : RV m p p') (h : loadS cx t p = some v) : ∃ a, p' = .pointer (some a) ∧ Reads P m w (loadVar t a) v := by
  unfold loadS at h
  split at h
  case h_2 => cases h
  rename_i ti ks hti hks
  have hti := ok.ty _ _ hti
  split at h
  case h_2 => cases h
  rename_i h1 h2
  have h2 := Nat.eq_of_beq_eq_true h2
  rw [len_eq] at h2
  have hsp : symFlat p = true := by simp [symFlat, hs]
  have := isTrue_ok gw.as h1 (.cons (.flat (num 2) rfl) (.cons (.flat (num t) rfl) (.cons hp (.nil m)))) (by simp only [List.all_cons, hsp]; rfl) (b := tRd cx.P (fun a => m.u 5 [.pointer (some a)]) t p') rfl
  unfold tRd at this
  split at this
  case h_2 => cases this
  rename_i a
  simp only [hks] at this
  obtain ⟨l, k1, k2, k3⟩ := cellsS_ok gw hp hs _ 0 this
  refine ⟨a, rfl, ?_⟩
  split at h
  · rename_i hagg
    injection h with h
    subst h
    have hload : (loadCells a ti.size).run P w = .ok ⟨l⟩ w := run_loadCells (by rw [k2, h2]) (fun j u hu => by have := k3 j u hu; rwa [Nat.zero_add] at this)
    exact ⟨.agg ⟨l⟩, by simp [loadVar, run_isAgg hti, hagg, run_size hti, hload], .agg _ _ k1.1 k1.2⟩
  · rename_i hagg
    split at h
    case h_2 => cases h
    rename_i k
    injection h with h
    subst h
    obtain ⟨u, t1, rfl, q1, q2⟩ := k1.head
    have hc := k3 0 u rfl
    have ha0 : a.add (0 + 0) = a := rfl
    rw [ha0] at hc
    exact ⟨u, by simp [loadVar, run_isAgg hti, hagg, hc], q1⟩
omit ok in
theorem RV.of_denS {ty k : Nat} {xs : List Value} {v : Value} (h : Ev.denS m.s m.u (sy ty k xs) = some v) (ht : tyOk ty v = true) : RV m (sy ty k xs) v := by
  obtain ⟨d, hd⟩ := denS_iff.1 h
  exact .sym k "" _ _ v d hd ht
omit ok in
theorem RV.to_denS {e v' : Value} (h : RV m e v') (hs : symFlat e = true) : Ev.denS m.s m.u e = some v' := denS_iff.2 (h.den_iff hs)
omit ok in
theorem RVs.to_denS : ∀ {l l' : List Value}, RVs m l l' → l.all symFlat = true → mapO (Ev.denS m.s m.u) l = some l' := fun h hs => mapS_iff.2 (h.den_iff hs)
omit ok in
theorem AsOk.seq (as : AsOk cx m) (vs : List Value) : m.u 10 vs = seqOp vs := by rw [as.rd 10 _ (by omega)]; rfl
omit ok in
theorem ltS_ok (as : AsOk cx m) {n i n' i' : Value} (h : ltS cx n i = true) (hn : RV m n n') (hi : RV m i i') (hsn : symFlat n = true) (hsi : symFlat i = true) : tLt n' i' = true := by
  unfold ltS at h
  split at h
  · rw [hn.flat_iff rfl, hi.flat_iff rfl]; exact h
  · exact isTrue_ok as h (.cons (.flat (num 9) rfl) (.cons hn (.cons hi (.nil m)))) (by simp only [List.all_cons, hsn, hsi]; rfl) rfl
omit ok in
theorem leS_ok (as : AsOk cx m) {n n' : Value} {k : Nat} (h : leS cx n k = true) (hn : RV m n n') (hsn : symFlat n = true) : tLe n' (num k) = true := by
  unfold leS at h
  split at h
  · rw [hn.flat_iff rfl]; exact h
  · exact isTrue_ok as h (.cons (.flat (num 11) rfl) (.cons hn (.cons (.flat (num k) rfl) (.nil m)))) (by simp only [List.all_cons, hsn]; rfl) rfl
omit ok in
theorem tLt_iff {n' i' : Value} (h : tLt n' i' = true) : ∃ k1 n k2 i, n' = .int k1 (.ofNat n) ∧ i' = .int k2 (.ofNat i) ∧ i < n := by
  unfold tLt at h
  split at h
  · exact ⟨_, _, _, _, rfl, rfl, Nat.blt_eq.mp h⟩
  · cases h
omit ok in
theorem tLe_iff {n' : Value} {k : Nat} (h : tLe n' (num k) = true) : ∃ k1 n, n' = .int k1 (.ofNat n) ∧ n ≤ k := by
  unfold tLe at h
  split at h
  · rename_i h2
    injection h2 with _ h2
    injection h2 with h2
    subst h2
    exact ⟨_, _, rfl, Nat.le_of_ble_eq_true h⟩
  · cases h
omit ok in
theorem seqPtr_iff {xs : List Value} {i : Value} {z o : Nat} (h : seqPtr xs = some (i, z, o)) : xs = [i, .int .u64 (.ofNat z), .int .u64 (.ofNat o)] := by
  unfold seqPtr at h
  split at h
  · injection h with h
    injection h with h1 h2
    injection h2 with h2 h3
    subst h1; subst h2; subst h3
    rfl
  · cases h
theorem idxQ_ok (as : AsOk cx m) {t : TypeId} {x x' ix ix' v : Value} (hx : RV m x x') (hi : RV m ix ix') (h : idxQ cx t x ix = some v) : Reads P m w (Instr.indexAt t x' ix') v := by
  unfold idxQ at h
  split at h
  case h_2 => cases h
  rename_i b n
  split at h
  · cases h
  rename_i ti hti
  have hti := ok.ty _ _ hti
  split at h
  case h_2 => cases h
  rename_i e hd
  split at h
  case h_2 => cases h
  rename_i te hte
  have hte := ok.ty _ _ hte
  split at h
  case h_2 => cases h
  rename_i h1 h2
  rw [Bool.and_eq_true] at h2
  injection h with h
  subst h
  obtain ⟨k, c', a', rfl, hn, hkc, en, tot, z, he, hop, rfl, hroom⟩ := hx.seq_iff
  obtain ⟨k1, n1, k2, j, hn', rfl, hlt⟩ := tLt_iff (ltS_ok as h1 hn hi h2.2 h2.1)
  injection hn' with _ hn'
  injection hn' with hn'
  subst hn'
  refine ⟨.pointer (some ⟨en.c, en.o + (j * te.size + 0), none⟩), ?_, .seqp b ix k2 j te.size 0 _ hi ⟨en, he, rfl⟩⟩
  simp [Instr.indexAt, asIntOf, run_under hti, hd, run_size hte, hlt, add_at]
theorem fieldQ_ok (as : AsOk cx m) {t : TypeId} {x x' v : Value} {f : Nat} (hx : RV m x x') (h : fieldQ cx t x f = some v) : Reads P m w (Instr.fieldAt t x' f) v := by
  unfold fieldQ at h
  split at h
  case h_2 => cases h
  rename_i b xs
  split at h
  case h_2 => cases h
  rename_i i z o hsp
  obtain rfl := seqPtr_iff hsp
  split at h
  · cases h
  rename_i ti hti
  have hti := ok.ty _ _ hti
  split at h
  case h_2 => cases h
  rename_i fs hd
  split at h
  case h_2 => cases h
  rename_i fd hfd
  split at h
  case h_2 => cases h
  rename_i te hte
  have hte := ok.ty _ _ hte
  split at h
  · cases h
  rename_i hz
  injection h with h
  subst h
  have hfd' : fs[f]? = some fd := by simpa using hfd
  have hz' : te.size ≠ 0 := Nat.ne_of_beq_eq_false hz
  obtain ⟨kd, j, e, rfl, hi, he⟩ := hx.seqp_parts
  refine ⟨.pointer (some ⟨e.c, e.o + (j * z + (o + fd.offset)), none⟩), ?_, .seqp b i kd j z (o + fd.offset) _ hi ⟨e, he, rfl⟩⟩
  simp [Instr.fieldAt, run_under hti, hd, hfd', Instr.sureAddr, fieldPlace, run_size hte, hz', add_at]
  omega
omit ok in
theorem cellQ_rv (as : AsOk cx m) {e i : Value} {cells : List Value} {kd : IntKind} {j z o ty : Nat} {v : Value} (he : ∃ d, den m.s m.u d e = some (.agg ⟨cells⟩)) (hi : RV m i (.int kd (.ofNat j))) (hs : symFlat i = true) (hv : cells[j * z + o]? = some v) (ht : tyOk ty v = true) :
    RV m (sy ty 11 [num 0, e, i, num z, num o]) v := by
  refine RV.of_denS ?_ ht
  rw [denS_app, mapO_of (denS_flat rfl) (mapO_of (denS_iff.2 he) (mapO_of (hi.to_denS hs) (mapO_of (denS_flat rfl) (mapO_of (denS_flat rfl) rfl))))]
  show m.u 10 _ = _
  rw [as.seq]
  exact hv
omit ok in
theorem cellsQ_ok (as : AsOk cx m) {e i : Value} {cells : List Value} {kd : IntKind} {j z : Nat} {ks : List Nat} (he : ∃ d, den m.s m.u d e = some (.agg ⟨cells⟩)) (hi : RV m i (.int kd (.ofNat j))) (hs : symFlat i = true) (hz : ks.length = z)
    (hty : ∀ i v, cells[i]? = some v → tyOk (ks.getD (i % ks.length) 0) v = true) : ∀ (n o : Nat), o + n ≤ z → j * z + z ≤ cells.length → RVs m (cellsQ e i z ks o n) ((cells.drop (j * z + o)).take n) := by
  intro n
  induction n with
  | zero => intro o _ _; simp only [List.take_zero]; exact .nil m
  | succ n ih =>
    intro o ho hl
    have hlt : j * z + o < cells.length := by omega
    have hg : cells[j * z + o]? = some cells[j * z + o] := List.getElem?_eq_getElem hlt
    rw [List.drop_eq_getElem_cons hlt, List.take_succ_cons]
    refine .cons (cellQ_rv as he hi hs hg ?_) (ih (o + 1) (by omega) hl)
    have := hty _ _ hg
    have hm : (j * z + o) % z = o := by rw [show j * z + o = o + z * j by rw [Nat.mul_comm]; omega, Nat.add_mul_mod_self_left, Nat.mod_eq_of_lt (by omega)]
    rw [hz, hm] at this
    exact this
theorem loadQ_ok (gw : GW cx m w) {hp : Hp} (inv : Inv m hp w.heap) {t : TypeId} {b : Nat} {xs ys : List Value} {p' v : Value} (hp' : RV m (.func (.yield b) ⟨xs⟩ ⟨ys⟩) p') (h : loadQ cx hp t b xs ys = some v) : ∃ a, p' = .pointer (some a) ∧ Reads P m w (loadVar t a) v := by
  unfold loadQ at h
  split at h
  case h_2 => cases h
  rename_i i z o hsp
  obtain rfl := seqPtr_iff hsp
  split at h
  case h_2 => cases h
  rename_i ti e n ks ty hti hob
  have hti := ok.ty _ _ hti
  split at h
  case h_2 => cases h
  rename_i h1 h2 h3 h4
  have h1 := Nat.eq_of_beq_eq_true h1
  rw [len_eq] at h1
  have h2 := Nat.le_of_ble_eq_true h2
  rw [Bool.and_eq_true] at h4
  obtain ⟨kd, j, en, rfl, hi, he⟩ := hp'.seqp_parts
  obtain ⟨hl, cells, cs, fr, ⟨hden, ⟨k, hn, hlen⟩, hcell⟩, hheap, -, -⟩ := inv.obj b en _ he hob (by simp)
  obtain ⟨k1, n1, k2, j1, hn', hj', hlt⟩ := tLt_iff (ltS_ok gw.as h4.1 hn hi h4.2 h3)
  injection hn' with _ hn'
  injection hn' with hn'
  injection hj' with _ hj'
  injection hj' with hj'
  subst hn'; subst hj'
  refine ⟨_, rfl, ?_⟩
  have hle : j * z + z ≤ cells.length := by
    rw [hlen, h1]
    have := Nat.mul_le_mul_right z (show j + 1 ≤ k from hlt)
    rw [Nat.succ_mul] at this
    exact this
  have hrvs := cellsQ_ok (ks := ks) gw.as hden hi h3 h1 (fun i v hv => (hcell i v hv).1) ti.size o h2 hle
  have hat : ∀ q u, ((cells.drop (j * z + o)).take ti.size)[q]? = some u → w.cell? ((⟨en.c, en.o + (j * z + o), none⟩ : Addr).add q) = some u := fun q u hu => by
    rw [add_at, cell_of hheap]
    have hq : q < ti.size := by
      have := (List.getElem?_eq_some_iff.1 hu).1
      rw [List.length_take] at this
      omega
    rw [List.getElem?_take, if_pos hq, List.getElem?_drop] at hu
    have := (hcell _ u hu).2
    rwa [show en.o + (j * z + o) + q = en.o + (j * z + o + q) by omega]
  have hll : ((cells.drop (j * z + o)).take ti.size).length = ti.size := by rw [List.length_take, List.length_drop]; omega
  split at h
  · rename_i hagg
    injection h with h
    subst h
    have hload := run_loadCells (P := P) hll hat
    exact ⟨.agg ⟨_⟩, by simp [loadVar, run_isAgg hti, hagg, run_size hti, hload], .agg _ _ hrvs.1 hrvs.2⟩
  · rename_i hagg
    split at h
    case h_2 => cases h
    rename_i h1s
    have h1s := Nat.eq_of_beq_eq_true h1s
    injection h with h
    subst h
    rw [h1s] at hrvs hat
    obtain ⟨u, tl, hu, q1, q2⟩ := hrvs.head
    have hc := hat 0 u (by rw [hu]; rfl)
    have ha0 : (⟨en.c, en.o + (j * z + o), none⟩ : Addr).add 0 = ⟨en.c, en.o + (j * z + o), none⟩ := rfl
    rw [ha0] at hc
    exact ⟨u, by simp [loadVar, run_isAgg hti, hagg, hc], q1⟩
theorem indexAddrT_ok (as : AsOk cx m) {t : TypeId} {x x' ix ix' v : Value} (hx : RV m x x') (hi : RV m ix ix') (h : indexAddrT cx t x ix = some v) : Reads P m w (Instr.indexAt t x' ix') v := by
  unfold indexAddrT at h
  split at h
  · rename_i hs; exact idxS_ok ok as hs hx hi h
  · split at h
    · exact idxQ_ok ok as hx hi h
    · exact indexAddrA_ok ok hx hi h
theorem fieldAddrT_ok (as : AsOk cx m) {t : TypeId} {x x' v : Value} {f : Nat} (hx : RV m x x') (h : fieldAddrT cx t x f = some v) : Reads P m w (Instr.fieldAt t x' f) v := by
  unfold fieldAddrT at h
  split at h
  · rename_i hs; exact fieldS_ok ok as hs hx h
  · split at h
    · exact fieldQ_ok ok as hx h
    · exact fieldAddrA_ok ok hx h
theorem indexS_ok (as : AsOk cx m) {t : TypeId} {x x' ix ix' v : Value} (hx : RV m x x') (hi : RV m ix ix') (h : indexS cx t x ix = some v) : Reads P m w (Instr.index t x' ix') v := by
  unfold indexS at h
  split at h
  · cases h
  rename_i ti hti
  have hti := ok.ty _ _ hti
  split at h
  case h_2 => cases h
  rename_i hd
  split at h
  case h_2 => cases h
  rename_i h1 h2
  rw [Bool.and_eq_true] at h1
  injection h with h
  subst h
  have := isTrue_ok as h2 (.cons (.flat (num 10) rfl) (.cons hx (.cons hi (.nil m)))) (by simp only [List.all_cons, h1.1, h1.2]; rfl) (b := tBy x' ix') rfl
  unfold tBy at this
  split at this
  case h_2 => cases this
  rename_i s k j
  have hlt := Nat.blt_eq.mp this
  obtain ⟨b, hg⟩ : ∃ b, s.data.toList[j]? = some b := ⟨_, List.getElem?_eq_getElem hlt⟩
  refine ⟨.int .u8 b.toNat, ?_, RV.of_denS ?_ ?_⟩
  · have hb' : s[j]? = some b := (bytes_get s j).trans hg
    simp [Instr.index, asIntOf, run_under hti, hd, hb']
  · rw [denS_app, mapO_of (denS_flat rfl) (mapO_of (hx.to_denS h1.1) (mapO_of (hi.to_denS h1.2) rfl))]
    show m.u 10 _ = _
    rw [as.seq]
    show (match s.data.toList[j]? with | some b => some (Value.int .u8 b.toNat) | none => none) = _
    rw [hg]
  · have := UInt8.toNat_lt b
    simp [tyOk, kindCode, IntKind.min, IntKind.max, IntKind.bits, IntKind.signed]
    omega
theorem indexT_ok (as : AsOk cx m) {t : TypeId} {x x' ix ix' v : Value} (hx : RV m x x') (hi : RV m ix ix') (h : indexT cx t x ix = some v) : Reads P m w (Instr.index t x' ix') v := by
  unfold indexT at h
  split at h
  · rename_i h1
    injection h with h
    subst h
    exact indexA_ok ok hx hi h1
  · exact indexS_ok ok as hx hi h
theorem lenS_ok (as : AsOk cx m) {t : TypeId} {x x' v : Value} {ts : Array TypeId} {ty : TypeId} (ht : ts[0]? = some t) (hx : RV m x x') (h : lenS cx t x = some v) : Reads P m w (Builtin.len_ ts ty #[x']) v := by
  unfold lenS at h
  split at h
  · cases h
  rename_i ti hti
  have hti := ok.ty _ _ hti
  split at h
  · rename_i e hd
    split at h
    case h_2 => cases h
    rename_i hs h1
    injection h with h
    subst h
    have hsx : symFlat x = true := by simp [symFlat, hs]
    have := isTrue_ok as h1 (.cons (.flat (num 0) rfl) (.cons hx (.nil m))) (by simp only [List.all_cons, hsx]; rfl) (b := tSl x') rfl
    unfold tSl at this
    split at this
    · rename_i a n c
      have hlt := Nat.blt_eq.mp this
      refine ⟨.int .i64 n, by simp [Builtin.len_, ht, run_under hti, hd, goInt], RV.app (k := 4) (l' := [.slice a n c]) (.cons hx (.nil m)) (by simp only [List.all_cons, hsx]; rfl) (by rw [as.rd 4 _ (by omega)]; rfl) ?_⟩
      simp [tyOk, kindCode, IntKind.min, IntKind.max, IntKind.bits, IntKind.signed]
      omega
    · cases this
  · rename_i hd
    split at h
    case h_2 => cases h
    rename_i hs h1
    injection h with h
    subst h
    have hsx : symFlat x = true := by simp [symFlat, hs]
    have := isTrue_ok as h1 (.cons (.flat (num 6) rfl) (.cons hx (.nil m))) (by simp only [List.all_cons, hsx]; rfl) (b := tSt x') rfl
    unfold tSt at this
    split at this
    · rename_i st
      have hlt := Nat.blt_eq.mp this
      refine ⟨.int .i64 st.size, by simp [Builtin.len_, ht, run_under hti, hd, goInt], RV.app (k := 4) (l' := [.string st]) (.cons hx (.nil m)) (by simp only [List.all_cons, hsx]; rfl) (by rw [as.rd 4 _ (by omega)]; rfl) ?_⟩
      simp [tyOk, kindCode, IntKind.min, IntKind.max, IntKind.bits, IntKind.signed]
      omega
    · cases this
  · cases h
theorem lenA_ok (as : AsOk cx m) {t : TypeId} {x x' v : Value} {ts : Array TypeId} {ty : TypeId} (ht : ts[0]? = some t) (hx : RV m x x') (h : lenA cx t x = some v) : Reads P m w (Builtin.len_ ts ty #[x']) v := by
  unfold lenA at h
  split at h
  · cases h
  · rename_i ti hti
    have hti := ok.ty _ _ hti
    split at h
    · rename_i s hd
      obtain rfl := hx.flat_iff rfl
      injection h with h
      subst h
      exact .same (by simp [Builtin.len_, ht, run_under hti, hd, goInt]) rfl
    · rename_i n e hd
      injection h with h
      subst h
      exact .same (by simp [Builtin.len_, ht, run_under hti, hd, goInt]) rfl
    · rename_i e a n c hd
      injection h with h
      subst h
      refine .same ?_ rfl
      cases a with
      | none => obtain rfl := hx.flat_iff rfl; simp [Builtin.len_, ht, run_under hti, hd, goInt]
      | some a => obtain ⟨a', c', rfl, -⟩ := hx.slice_iff; simp [Builtin.len_, ht, run_under hti, hd, goInt]
    · rename_i k e hd
      obtain rfl := hx.flat_iff rfl
      injection h with h
      subst h
      exact .same (by simp [Builtin.len_, ht, run_under hti, hd, goInt]) rfl
    · rename_i e b n hd
      injection h with h
      subst h
      obtain ⟨k, c', a', rfl, hn, -⟩ := hx.seq_iff
      exact ⟨.int .i64 (.ofNat k), by simp [Builtin.len_, ht, run_under hti, hd, goInt], hn⟩
    · exact lenS_ok ok as ht hx h
    · exact lenS_ok ok as ht hx h
    · cases h
theorem capA_ok (inv : Inv m hp w.heap) {t : TypeId} {x x' v : Value} {ts : Array TypeId} {ty : TypeId} (ht : ts[0]? = some t) (hx : RV m x x') (h : capA cx hp t x = some v) : Reads P m w (Builtin.cap_ ts ty #[x']) v := by
  unfold capA at h
  split at h
  · cases h
  · rename_i ti hti
    have hti := ok.ty _ _ hti
    split at h
    · rename_i e n c hd
      obtain rfl := hx.flat_iff rfl
      injection h with h
      subst h
      exact .same (by simp [Builtin.cap_, ht, run_under hti, hd, goInt]) rfl
    · rename_i e a n c hd
      obtain ⟨a', c', rfl, h1, en, h2, h3⟩ := hx.slice_iff
      split at h
      · rename_i tr k ty' str hob
        injection h with h
        subst h
        obtain ⟨-, ho, -⟩ := inv.obj _ en _ h2 hob (by simp)
        rcases h3 with ⟨h4, -, h5⟩ | ⟨tot, z, h4, -⟩
        · subst h5
          exact .same (by simp [Builtin.cap_, ht, run_under hti, hd, goInt]) rfl
        · rw [h4] at ho
          cases ho
      · cases h
    · cases h
end
end Go.Proofs.YtaepplhgeeaidaaDoor.Ev
