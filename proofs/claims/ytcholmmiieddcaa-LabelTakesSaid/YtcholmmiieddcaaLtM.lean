/- Names, sets of labels, matchers: what holds of them, without a program. -/
import Derived.Test.YtcholmmiieddcaaLtV
set_option linter.unusedVariables false
namespace Go.Proofs.Ytcholmmiieddcaa
open Go Ev
abbrev T := ByteArray
abbrev Lab := T × T
abbrev Mat := Int × T × T
/-! One text ahead of another one. -/
def cmpT (a b : T) : Int := Extern.BytealgCompare.cmp a b
def DifT (a b : T) (i : Nat) : Prop := (∀ j, j < i → a[j]! = b[j]!) ∧ i < b.size ∧ i ≤ a.size ∧ (i < a.size → a[i]! < b[i]!)
theorem cmp_of {a b : T} {i : Nat} (h : DifT a b i) : cmpT a b < 0 := by
  obtain ⟨h1, h2, h3, h4⟩ := h
  unfold cmpT Extern.BytealgCompare.cmp
  by_cases hi : i < a.size
  · have hf : (List.range (min a.size b.size)).find? (fun i => a[i]! != b[i]!) = some i := by
      rw [List.find?_range_eq_some]
      refine ⟨?_, ?_, ?_⟩
      · have := h4 hi
        simp only [bne_iff_ne, ne_eq]
        intro he
        rw [he] at this
        exact absurd this (UInt8.lt_irrefl _)
      · rw [List.mem_range]; omega
      · intro j hj
        simp [h1 j hj]
    rw [hf]
    simp only [h4 hi, if_true]
    decide
  · have he : i = a.size := by omega
    have hf : (List.range (min a.size b.size)).find? (fun i => a[i]! != b[i]!) = none := by
      rw [List.find?_eq_none]
      intro j hj
      rw [List.mem_range] at hj
      simp [h1 j (by omega)]
    rw [hf]
    simp only [show a.size < b.size from by omega, if_true]
    decide
theorem of_cmp {a b : T} (h : cmpT a b < 0) : ∃ i, DifT a b i := by
  unfold cmpT Extern.BytealgCompare.cmp at h
  split at h
  · rename_i i hf
    rw [List.find?_range_eq_some] at hf
    obtain ⟨h1, h2, h3⟩ := hf
    rw [List.mem_range] at h2
    split at h
    · rename_i hl
      exact ⟨i, fun j hj => by have := h3 j hj; simpa using this, by omega, by omega, fun _ => hl⟩
    · exact absurd h (by decide)
  · rename_i hf
    rw [List.find?_eq_none] at hf
    split at h
    · rename_i hl
      refine ⟨a.size, fun j hj => ?_, hl, Nat.le_refl _, fun hh => absurd hh (Nat.lt_irrefl _)⟩
      have := hf j (List.mem_range.2 (by omega))
      simpa using this
    · split at h
      · exact absurd h (by decide)
      · exact absurd h (by decide)
theorem cmp_trans {a b c : T} (h1 : cmpT a b < 0) (h2 : cmpT b c < 0) : cmpT a c < 0 := by
  obtain ⟨i, a1, a2, a3, a4⟩ := of_cmp h1
  obtain ⟨j, b1, b2, b3, b4⟩ := of_cmp h2
  by_cases hij : i < j
  · exact cmp_of (i := i) ⟨fun k hk => (a1 k hk).trans (b1 k (by omega)), by omega, a3, fun h => by rw [← b1 i hij]; exact a4 h⟩
  · by_cases hji : j < i
    · exact cmp_of (i := j) ⟨fun k hk => (a1 k (by omega)).trans (b1 k hk), b2, by omega, fun h => by rw [a1 j hji]; exact b4 (by omega)⟩
    · have : i = j := by omega
      subst this
      exact cmp_of (i := i) ⟨fun k hk => (a1 k hk).trans (b1 k hk), b2, a3, fun h => UInt8.lt_trans (a4 h) (b4 (by omega))⟩
theorem cmp_rng (a b : T) : cmpT a b = -1 ∨ cmpT a b = 0 ∨ cmpT a b = 1 := by
  unfold cmpT Extern.BytealgCompare.cmp
  split
  · split <;> simp
  · split
    · simp
    · split <;> simp

/-! Names, sets, matchers. -/
def digB (c : Nat) : Bool := !(decide (c < 48)) && !(decide (57 < c))
def lowB (c : Nat) : Bool := !(decide (c < 97)) && !(decide (122 < c))
def inB (c : Nat) : Bool := (lowB c || digB c) || c == 95
theorem inB_eq {c : Nat} {b1 b2 b3 b4 b5 : Bool} (h1 : decide (c < 97) = b1) (h2 : decide (122 < c) = b2) (h3 : decide (c < 48) = b3) (h4 : decide (57 < c) = b4) (h5 : (c == 95) = b5) : inB c = (((!b1 && !b2) || (!b3 && !b4)) || b5) := by
  subst h1 h2 h3 h4 h5
  rfl
def allN (t : T) : Nat → Nat → Bool
  | _, 0 => true
  | i, k + 1 => inB (t[i]!).toNat && allN t (i + 1) k
def namB (s : T) : Bool := !(decide (s.size < 1)) && (!(decide (24 < s.size)) && (!(digB (s[0]!).toNat) && allN s 0 s.size))
def wrL (x : Lab) : Bool := !(namB x.1) || (eqT x.2 ⟨⟨[]⟩⟩ || decide (64 < x.2.size))
def wrM (x : Mat) : Bool := !(x.1 == 1 || x.1 == 2) || (!(namB x.2.1) || decide (64 < x.2.2.size))
def ascF : List Lab → Bool
  | x :: y :: l => decide (cmpT x.1 y.1 < 0) && ascF (y :: l)
  | _ => true
def chkL (l : List Lab) : Int := if 8 < l.length then 3 else if !(l.any wrL) && ascF l then 0 else 2
def chkM (m : List Mat) : Int := if 8 < m.length then 3 else if m.any wrM then 2 else 0
def fstT (l : List Lab) (n : T) : Lab := (l.find? fun x => cmpT x.1 n == 0).getD (⟨⟨[]⟩⟩, ⟨⟨[]⟩⟩)
def askB (l : List Lab) (x : Mat) : Bool := eqT (fstT l x.2.1).2 x.2.2 == (x.1 == 1)
def takB (m : List Mat) (l : List Lab) : Bool := chkM m == 0 && (chkL l == 0 && m.all (askB l))
def pickL (l : List Lab) (ns : List T) (b : Bool) : List Lab := if chkL l = 0 then l.filter (fun x => ns.any (fun s => eqT s x.1) == b) else []
theorem asc_mem : ∀ (l : List Lab) (x : Lab), ascF (x :: l) = true → ∀ y, y ∈ l → cmpT x.1 y.1 < 0
  | [], x, _, y, hy => by cases hy
  | z :: l, x, h, y, hy => by
    unfold ascF at h
    rw [Bool.and_eq_true] at h
    have h1 := of_decide_eq_true h.1
    rcases List.mem_cons.1 hy with rfl | hy
    · exact h1
    · exact cmp_trans h1 (asc_mem l z h.2 y hy)
theorem asc_tail {l : List Lab} {x : Lab} (h : ascF (x :: l) = true) : ascF l = true := by
  cases l with
  | nil => rfl
  | cons z l => unfold ascF at h; rw [Bool.and_eq_true] at h; exact h.2
theorem asc_filter (p : Lab → Bool) : ∀ l : List Lab, ascF l = true → ascF (l.filter p) = true
  | [], _ => rfl
  | x :: l, h => by
    have ih := asc_filter p l (asc_tail h)
    rw [List.filter_cons]
    split
    · cases hf : l.filter p with
      | nil => rfl
      | cons z r =>
        have hz : z ∈ l := (List.mem_filter.1 (show z ∈ l.filter p by rw [hf]; exact List.mem_cons_self)).1
        unfold ascF
        rw [← hf, ih, decide_eq_true (asc_mem l x h z hz)]
        rfl
    · exact ih
theorem chk_filter {l : List Lab} (h : chkL l = 0) (p : Lab → Bool) : chkL (l.filter p) = 0 := by
  unfold chkL at h ⊢
  split at h
  · exact absurd h (by decide)
  rename_i h1
  split at h
  · rename_i h2
    rw [Bool.and_eq_true, Bool.not_eq_true'] at h2
    have hl : (l.filter p).length ≤ l.length := List.length_filter_le _ _
    have ha : (l.filter p).any wrL = false := by
      rw [List.any_eq_false] at h2 ⊢
      exact fun x hx => h2.1 x (List.mem_filter.1 hx).1
    rw [if_neg (by omega), ha, asc_filter p l h2.2]
    rfl
  · exact absurd h (by decide)
theorem chk_few {l : List Lab} (h : chkL l = 0) : l.length ≤ 8 := by
  unfold chkL at h
  split at h
  · exact absurd h (by decide)
  · omega
theorem pick_of {l : List Lab} (h : chkL l = 0) (ns : List T) (b : Bool) : pickL l ns b = l.filter (fun x => ns.any (fun s => eqT s x.1) == b) := if_pos h
theorem pick_chk {l : List Lab} (h : chkL l = 0) (ns : List T) (b : Bool) : chkL (pickL l ns b) = 0 := by rw [pick_of h]; exact chk_filter h _
theorem pick_turn {l : List Lab} (h : chkL l = 0) (a b : List T) (x y : Bool) : pickL (pickL l a x) b y = pickL (pickL l b y) a x := by
  rw [pick_of (pick_chk h _ _), pick_of (pick_chk h _ _), pick_of h, pick_of h, List.filter_filter, List.filter_filter]
  congr 1
  funext z
  exact Bool.and_comm _ _
theorem pick_none {l : List Lab} (h : chkL l = 0) (a : List T) : pickL (pickL l a false) a true = [] := by
  rw [pick_of (pick_chk h _ _), pick_of h, List.filter_filter, List.filter_eq_nil_iff]
  intro z _
  cases a.any fun s => eqT s z.1 <;> simp
theorem chkM_mem {m : List Mat} (h : chkM m = 0) : m.length ≤ 8 ∧ ∀ x, x ∈ m → wrM x = false := by
  unfold chkM at h
  split at h
  · exact absurd h (by decide)
  split at h
  · exact absurd h (by decide)
  rename_i h1 h2
  refine ⟨by omega, fun x hx => ?_⟩
  have : m.any wrM = false := by simpa using h2
  rw [List.any_eq_false] at this
  simpa using this x hx
theorem chkM_of {m : List Mat} (h1 : m.length ≤ 8) (h2 : ∀ x, x ∈ m → wrM x = false) : chkM m = 0 := by
  unfold chkM
  rw [if_neg (by omega), if_neg]
  rw [Bool.not_eq_true, List.any_eq_false]
  intro x hx
  rw [h2 x hx]
  decide
theorem tak_app {m n : List Mat} {l : List Lab} (hm : chkM m = 0) (hn : chkM n = 0) (hl : chkL l = 0) (hk : m.length + n.length ≤ 8) : takB (m ++ n) l = (takB m l && takB n l) := by
  have ha : chkM (m ++ n) = 0 := chkM_of (by rw [List.length_append]; omega) (fun x hx => by
    rcases List.mem_append.1 hx with h | h
    · exact (chkM_mem hm).2 x h
    · exact (chkM_mem hn).2 x h)
  unfold takB
  rw [ha, hm, hn, hl, List.all_append]
  rfl
def flipM (x : Mat) : Mat := (3 - x.1, x.2)
theorem tak_flip {m : List Mat} {l : List Lab} {x : Mat} (hm : chkM m = 0) (hl : chkL l = 0) (hx : x ∈ m) : (takB [x] l == takB [flipM x] l) = false := by
  have hw := (chkM_mem hm).2 x hx
  have hk : x.1 = 1 ∨ x.1 = 2 := by
    unfold wrM at hw
    rw [Bool.or_eq_false_iff, Bool.not_eq_false', Bool.or_eq_true] at hw
    rcases hw.1 with h | h
    · exact .inl (by simpa using h)
    · exact .inr (by simpa using h)
  have c1 : chkM [x] = 0 := chkM_of (by simp) (fun y hy => by rw [List.mem_singleton.1 hy]; exact hw)
  have hw2 : wrM (flipM x) = false := by
    unfold wrM flipM
    unfold wrM at hw
    rw [Bool.or_eq_false_iff] at hw ⊢
    refine ⟨?_, hw.2⟩
    rcases hk with h | h <;> simp [h]
  have c2 : chkM [flipM x] = 0 := chkM_of (by simp) (fun y hy => by rw [List.mem_singleton.1 hy]; exact hw2)
  unfold takB
  rw [c1, c2, hl]
  simp only [List.all_cons, List.all_nil, Bool.and_true, beq_self_eq_true, Bool.true_and]
  unfold askB flipM
  simp only
  rcases hk with h | h <;> rw [h] <;> cases eqT (fstT l x.2.1).2 x.2.2 <;> decide
theorem tak_nil {l : List Lab} (hl : chkL l = 0) : takB [] l = true := by
  unfold takB
  rw [hl]
  rfl
/-! As cells. -/
def eT (s : T) : List Value := [.string s]
def eL (x : Lab) : List Value := [.string x.1, .string x.2]
def eM (x : Mat) : List Value := [.int .i64 x.1, .string x.2.1, .string x.2.2]
def dT : List Value → List T
  | .string s :: l => s :: dT l
  | _ => []
def dL : List Value → List Lab
  | .string a :: .string b :: l => (a, b) :: dL l
  | _ => []
def dM : List Value → List Mat
  | .int _ k :: .string a :: .string b :: l => (k, a, b) :: dM l
  | _ => []
theorem dT_e : ∀ l : List T, dT (l.flatMap eT) = l
  | [] => rfl
  | s :: l => by show s :: dT (l.flatMap eT) = s :: l; rw [dT_e l]
theorem dL_e : ∀ l : List Lab, dL (l.flatMap eL) = l
  | [] => rfl
  | x :: l => by show (x.1, x.2) :: dL (l.flatMap eL) = x :: l; rw [dL_e l]
theorem dM_e : ∀ l : List Mat, dM (l.flatMap eM) = l
  | [] => rfl
  | x :: l => by show (x.1, x.2.1, x.2.2) :: dM (l.flatMap eM) = x :: l; rw [dM_e l]
/-- Are there few texts, and short ones? -/
def litF (k : Int) : Nat → List T → Bool
  | i, s :: l => if k < i then false else if 300 < s.size then false else litF k (i + 1) l
  | i, [] => decide ((i : Int) ≤ k)
def labF : List Lab → List Lab → Bool
  | x :: l, y :: m => eqT x.1 y.1 && (eqT x.2 y.2 && labF l m)
  | _, _ => true
def labB (l m : List Lab) : Bool := decide (l.length = m.length) && labF l m
theorem labF_self : ∀ l : List Lab, labF l l = true
  | [] => rfl
  | x :: l => by unfold labF; rw [eqT_self, eqT_self, labF_self l]; rfl
theorem labB_self (l : List Lab) : labB l l = true := by unfold labB; rw [labF_self]; simp
def ltU : Nat → List Value → Option Value
  | 0, [.string s] => some (.bool (namB s))
  | 1, [.string a, .string b] => some (.int .i64 (cmpT a b))
  | 2, [.agg ⟨c⟩] => some (.int .i64 (idxF wrL 0 (dL c)))
  | 3, [.agg ⟨c⟩] => some (.int .i64 (idxF wrM 0 (dM c)))
  | 4, [.agg ⟨c⟩] => some (.agg ⟨(dL c).flatMap eL⟩)
  | 5, [.agg ⟨c⟩] => some (.int .i64 (.ofNat (dL c).length))
  | 6, [.agg ⟨c⟩] => some (.bool (ascF (dL c)))
  | 7, [.agg ⟨c⟩, .string n] => some (.string (fstT (dL c) n).1)
  | 8, [.agg ⟨c⟩, .string n] => some (.string (fstT (dL c) n).2)
  | 9, [.agg ⟨c⟩, .string n] => some (.int .i64 (idxF (fun s => eqT s n) 0 (dT c)))
  | 10, [.agg ⟨c⟩, .int _ k] => some (.bool (litF k 0 (dT c)))
  | 11, [.agg ⟨c⟩, .agg ⟨d⟩] => some (.bool (labB (dL c) (dL d)))
  | 12, [.agg ⟨c⟩] => some (.int .i64 (chkL (dL c)))
  | 13, [.agg ⟨c⟩] => some (.int .i64 (chkM (dM c)))
  | 14, [.agg ⟨c⟩, .agg ⟨d⟩, .bool b] => some (.agg ⟨(pickL (dL c) (dT d) b).flatMap eL⟩)
  | 15, [.agg ⟨c⟩, .agg ⟨d⟩, .bool b] => some (.int .i64 (.ofNat (pickL (dL c) (dT d) b).length))
  | 16, [.agg ⟨c⟩, .agg ⟨d⟩] => some (.bool (takB (dM c) (dL d)))
  | _, _ => none
section
variable {cx : Cx} {R : Addr → Option Value} (hU : cx.U = ltU)
include hU
theorem u0 (s : T) : uRd cx R 16 [.string s] = some (.bool (namB s)) := by rw [n_U 0, hU]; rfl
theorem u1 (a b : T) : uRd cx R 17 [.string a, .string b] = some (.int .i64 (cmpT a b)) := by rw [n_U 1, hU]; rfl
theorem u2 (l : List Lab) : uRd cx R 18 [.agg ⟨l.flatMap eL⟩] = some (.int .i64 (idxF wrL 0 l)) := by rw [n_U 2, hU]; show some (Value.int .i64 (idxF wrL 0 (dL _))) = _; rw [dL_e]
theorem u3 (l : List Mat) : uRd cx R 19 [.agg ⟨l.flatMap eM⟩] = some (.int .i64 (idxF wrM 0 l)) := by rw [n_U 3, hU]; show some (Value.int .i64 (idxF wrM 0 (dM _))) = _; rw [dM_e]
theorem u4 (l : List Lab) : uRd cx R 20 [.agg ⟨l.flatMap eL⟩] = some (.agg ⟨l.flatMap eL⟩) := by rw [n_U 4, hU]; show some (Value.agg ⟨(dL _).flatMap eL⟩) = _; rw [dL_e]
theorem u5 (l : List Lab) : uRd cx R 21 [.agg ⟨l.flatMap eL⟩] = some (.int .i64 (.ofNat l.length)) := by rw [n_U 5, hU]; show some (Value.int .i64 (.ofNat (dL _).length)) = _; rw [dL_e]
theorem u6 (l : List Lab) : uRd cx R 22 [.agg ⟨l.flatMap eL⟩] = some (.bool (ascF l)) := by rw [n_U 6, hU]; show some (Value.bool (ascF (dL _))) = _; rw [dL_e]
theorem u7 (l : List Lab) (n : T) : uRd cx R 23 [.agg ⟨l.flatMap eL⟩, .string n] = some (.string (fstT l n).1) := by rw [n_U 7, hU]; show some (Value.string (fstT (dL _) n).1) = _; rw [dL_e]
theorem u8 (l : List Lab) (n : T) : uRd cx R 24 [.agg ⟨l.flatMap eL⟩, .string n] = some (.string (fstT l n).2) := by rw [n_U 8, hU]; show some (Value.string (fstT (dL _) n).2) = _; rw [dL_e]
theorem u9 (l : List T) (n : T) : uRd cx R 25 [.agg ⟨l.flatMap eT⟩, .string n] = some (.int .i64 (idxF (fun s => eqT s n) 0 l)) := by rw [n_U 9, hU]; show some (Value.int .i64 (idxF (fun s => eqT s n) 0 (dT _))) = _; rw [dT_e]
theorem u10 (l : List T) (k : Int) : uRd cx R 26 [.agg ⟨l.flatMap eT⟩, .int .i64 k] = some (.bool (litF k 0 l)) := by rw [n_U 10, hU]; show some (Value.bool (litF k 0 (dT _))) = _; rw [dT_e]
theorem u11 (l m : List Lab) : uRd cx R 27 [.agg ⟨l.flatMap eL⟩, .agg ⟨m.flatMap eL⟩] = some (.bool (labB l m)) := by rw [n_U 11, hU]; show some (Value.bool (labB (dL _) (dL _))) = _; rw [dL_e, dL_e]
theorem u12 (l : List Lab) : uRd cx R 28 [.agg ⟨l.flatMap eL⟩] = some (.int .i64 (chkL l)) := by rw [n_U 12, hU]; show some (Value.int .i64 (chkL (dL _))) = _; rw [dL_e]
theorem u13 (l : List Mat) : uRd cx R 29 [.agg ⟨l.flatMap eM⟩] = some (.int .i64 (chkM l)) := by rw [n_U 13, hU]; show some (Value.int .i64 (chkM (dM _))) = _; rw [dM_e]
theorem u14 (l : List Lab) (n : List T) (b : Bool) : uRd cx R 30 [.agg ⟨l.flatMap eL⟩, .agg ⟨n.flatMap eT⟩, .bool b] = some (.agg ⟨(pickL l n b).flatMap eL⟩) := by rw [n_U 14, hU]; show some (Value.agg ⟨(pickL (dL _) (dT _) b).flatMap eL⟩) = _; rw [dL_e, dT_e]
theorem u15 (l : List Lab) (n : List T) (b : Bool) : uRd cx R 31 [.agg ⟨l.flatMap eL⟩, .agg ⟨n.flatMap eT⟩, .bool b] = some (.int .i64 (.ofNat (pickL l n b).length)) := by rw [n_U 15, hU]; show some (Value.int .i64 (.ofNat (pickL (dL _) (dT _) b).length)) = _; rw [dL_e, dT_e]
theorem u16 (m : List Mat) (l : List Lab) : uRd cx R 32 [.agg ⟨m.flatMap eM⟩, .agg ⟨l.flatMap eL⟩] = some (.bool (takB m l)) := by rw [n_U 16, hU]; show some (Value.bool (takB (dM _) (dL _))) = _; rw [dM_e, dL_e]
end
end Go.Proofs.Ytcholmmiieddcaa
