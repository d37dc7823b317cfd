import Derived.WalkKit
import Derived.Deep.Draws
import Derived.Lib.Hide
namespace Go.Proofs.YtkgflcpgjdbcdaaGreatDoor
open Go.RowKit
def Rd (w : World) (B : Nat) (v : Value) (xs : List Value) : Prop :=
  ∃ A c, v = .slice A xs.length c ∧ xs.length ≤ c ∧ c ≤ maxLen ∧ (0 < xs.length → ∃ ad : Addr, A = some ad ∧ ad.block < B ∧ ∀ j u, xs[j]? = some u → w.cell? (ad.add j) = some u)
def u8s (l : List UInt8) : List Value := l.map fun c => .int .u8 (c.toNat : Int)
theorem u8s_length (l : List UInt8) : (u8s l).length = l.length := by simp [u8s]
theorem u8s_append (l m : List UInt8) : u8s (l ++ m) = u8s l ++ u8s m := by simp [u8s]
theorem u8s_cons (c : UInt8) (l : List UInt8) : u8s (c :: l) = .int .u8 (c.toNat : Int) :: u8s l := rfl
theorem u8s_drop (l : List UInt8) (n : Nat) : (u8s l).drop n = u8s (l.drop n) := by simp [u8s]
theorem u8s_take (l : List UInt8) (n : Nat) : (u8s l).take n = u8s (l.take n) := by simp [u8s]
theorem u8s_get (l : List UInt8) (n : Nat) (h : n < l.length) : (u8s l)[n]? = some (.int .u8 (l[n].toNat : Int)) := by simp [u8s, h]
theorem u8s_one (l : List UInt8) : ∀ u ∈ u8s l, u.oneCell' = true := by
  intro u hu
  obtain ⟨_, _, rfl⟩ := List.mem_map.1 hu
  rfl
theorem u8s_inj {l m : List UInt8} (h : u8s l = u8s m) : l = m := by
  refine (List.map_inj_right (fun a b hab => ?_)).1 h
  simp only [Value.int.injEq, true_and] at hab
  exact UInt8.toNat_inj.1 (by omega)
theorem block_of_add' (a : Addr) (n : Nat) : (a.add n).block = a.block := by unfold Addr.add; split <;> rfl
theorem add_of_add' (a : Addr) (i j : Nat) : (a.add i).add j = a.add (i + j) := by
  unfold Addr.add
  by_cases hi : i = 0 <;> by_cases hj : j = 0 <;> simp [hi, hj, Nat.add_assoc]
section
variable {w w' : World} {B B' : Nat} {v : Value} {xs : List Value}
theorem Rd.nil (w : World) (B : Nat) : Rd w B (.slice none 0 0) [] := ⟨none, 0, rfl, by simp, by simp [maxLen], fun h => by simp at h⟩
theorem Rd.keep (h : Rd w B v xs) (hk : ∀ p : Addr, p.block < B → w'.cell? p = w.cell? p) : Rd w' B v xs := by
  obtain ⟨A, c, hv, hc, hm, hx⟩ := h
  refine ⟨A, c, hv, hc, hm, fun hn => ?_⟩
  obtain ⟨ad, e, hb, hcell⟩ := hx hn
  exact ⟨ad, e, hb, fun j u hu => (hk _ (by rw [block_of_add']; exact hb)).trans (hcell j u hu)⟩
theorem Rd.more (h : Rd w B v xs) (hB : B ≤ B') : Rd w B' v xs := by
  obtain ⟨A, c, hv, hc, hm, hx⟩ := h
  refine ⟨A, c, hv, hc, hm, fun hn => ?_⟩
  obtain ⟨ad, e, hb, hcell⟩ := hx hn
  exact ⟨ad, e, by omega, hcell⟩
theorem Rd.below (h : Rd w B v xs) (hb : Below B w w') : Rd w' B v xs := h.keep fun _ hp => hb.cell hp
theorem Rd.drewN (h : Rd w B v xs) (k : Nat) : Rd (w.drewN k) B v xs := h
theorem Rd.alloc (h : Rd w B v xs) (hB : B ≤ w.heap.size) (o : Obj) : Rd (w.alloc o) B v xs := h.keep fun p hp => World.cell?_alloc_lt w o p (by omega)
theorem Rd.setCell (h : Rd w B v xs) {p : Addr} (hB : B ≤ p.block) (u : Value) : Rd (w.setCell p u) B v xs :=
  h.keep fun q hq => World.cell?_setCell_other w p q u (fun e => by subst e; omega)
theorem Rd.of_own {base : Nat} {e : TypeId} {n : Nat} (h : w.ownsRow base e 1 v n xs) : Rd w w.heap.size v xs := by
  have hl : xs.length = n := by have := h.1; omega
  rcases h.2 with ⟨rfl, rfl⟩ | ⟨g, cap, cur, rfl, hb, hg, hnc, hcm, hcs, htake⟩
  · have : xs = [] := List.eq_nil_of_length_eq_zero hl
    subst this
    exact Rd.nil _ _
  · refine ⟨some ⟨g, 0, none⟩, cap, by rw [hl], by omega, hcm, fun _ => ⟨⟨g, 0, none⟩, rfl, (Array.getElem?_eq_some_iff.1 hg).1, ?_⟩⟩
    exact h.cells (g := g) rfl
theorem Rd.at_ {A : Option Addr} {n c k : Nat} (h : Rd w B (.slice A n c) xs) (hk : k < xs.length) :
    ∃ ad, A = some ad ∧ ad.block < B ∧ w.cell? (ad.add k) = some xs[k] := by
  obtain ⟨A', c', hv, _, _, hx⟩ := h
  obtain ⟨ad, e, hb, hc⟩ := hx (by omega)
  injection hv with h1 h2 h3
  exact ⟨ad, h1.trans e, hb, hc k _ (List.getElem?_eq_getElem hk)⟩
theorem Rd.form {l : List UInt8} (h : Rd w B v (u8s l)) : ∃ A c, v = .slice A l.length c ∧ l.length ≤ c ∧ c ≤ maxLen := by
  obtain ⟨A, c, hv, hc, hm, _⟩ := h
  rw [u8s_length] at hv hc
  exact ⟨A, c, hv, hc, hm⟩
theorem Rd.byte {l : List UInt8} {A : Option Addr} {n c k : Nat} (h : Rd w B (.slice A n c) (u8s l)) (hk : k < l.length) :
    ∃ ad, A = some ad ∧ ad.block < B ∧ w.cell? (ad.add k) = some (.int .u8 (l[k].toNat : Int)) := by
  obtain ⟨ad, e, hb, hc⟩ := h.at_ (k := k) (by rw [u8s_length]; exact hk)
  refine ⟨ad, e, hb, hc.trans ?_⟩
  simp [u8s]
theorem Rd.len (h : Rd w B v xs) : ∃ A c, v = .slice A xs.length c ∧ xs.length ≤ c ∧ c ≤ maxLen := by
  obtain ⟨A, c, hv, hc, hm, _⟩ := h
  exact ⟨A, c, hv, hc, hm⟩
theorem own_below {base : Nat} {e : TypeId} {size n : Nat} (h : w.ownsRow base e size v n xs) (hb : Below w.heap.size w w') : w'.ownsRow base e size v n xs := by
  refine ⟨h.1, ?_⟩
  rcases h.2 with h2 | ⟨g, cap, cur, hv, hg, hh, r⟩
  · exact .inl h2
  · exact .inr ⟨g, cap, cur, hv, hg, by rw [hb.block g (Array.getElem?_eq_some_iff.1 hh).1]; exact hh, r⟩
theorem own_base {base base' : Nat} {e : TypeId} {size n : Nat} (h : w.ownsRow base e size v n xs) (hb : base' ≤ base) : w.ownsRow base' e size v n xs := by
  refine ⟨h.1, ?_⟩
  rcases h.2 with h2 | ⟨g, cap, cur, hv, hg, hh, r⟩
  · exact .inl h2
  · exact .inr ⟨g, cap, cur, hv, by omega, hh, r⟩
end
def Made (w : World) (n : Nat) (l : List UInt8) (e : Ending) (w' : World) : Prop :=
  ∃ A c, e = .returned (.slice A n c) ∧ w'.ownsRow w.heap.size 5 1 (.slice A n c) n (u8s l) ∧ Below w.heap.size w w'
theorem own_form {w : World} {base : Nat} {e : TypeId} {v : Value} {n : Nat} {xs : List Value} (h : w.ownsRow base e 1 v n xs) : ∃ A c, v = .slice A n c := by
  rcases h.2 with ⟨rfl, rfl⟩ | ⟨g, cap, cur, rfl, _⟩
  · exact ⟨_, _, rfl⟩
  · exact ⟨_, _, rfl⟩
theorem Made.mk {w w' : World} {n : Nat} {l : List UInt8} {v : Value} (h : w'.ownsRow w.heap.size 5 1 v n (u8s l)) (hb : Below w.heap.size w w') : Made w n l (.returned v) w' := by
  obtain ⟨A, c, rfl⟩ := own_form h
  exact ⟨A, c, rfl, h, hb⟩
theorem Made.out {w0 w w' : World} {n : Nat} {l : List UInt8} {e : Ending} (h : Made w n l e w') (hb : Below w0.heap.size w0 w) : Made w0 n l e w' := by
  obtain ⟨A, c, he, hown, hb'⟩ := h
  exact ⟨A, c, he, own_base hown hb.size, hb.trans (hb'.mono hb.size)⟩
theorem Made.rd {w w' : World} {n : Nat} {l : List UInt8} {e : Ending} (h : Made w n l e w') : ∃ A c, e = .returned (.slice A n c) ∧ Rd w' w'.heap.size (.slice A n c) (u8s l) ∧ Below w.heap.size w w' := by
  obtain ⟨A, c, he, hown, hb⟩ := h
  exact ⟨A, c, he, Rd.of_own hown, hb⟩
theorem ret_int {k : IntKind} {a b : Int} (h : a = b) : Ending.returned (.int k a) = .returned (.int k b) := by rw [h]
theorem ret_bool {a b : Bool} (h : a = b) : Ending.returned (.bool a) = .returned (.bool b) := by rw [h]
theorem Rd.new (w : World) (t : TypeId) (cs : Array Value) (n : Nat) (hn : cs.size = n) (hm : n ≤ maxLen) :
    Rd (w.alloc (.cells cs t)) (w.heap.size + 1) (.slice (some ⟨w.heap.size, 0, none⟩) n n) cs.toList := by
  have h := Rd.of_own (World.ownsRow_lit (base := w.heap.size) (e := t) (size := 1) w cs n (Nat.le_refl _) hm (by omega))
  simpa using h
def lowB (x n : Nat) : List UInt8 := (List.range n).map fun i => UInt8.ofNat (x / 256 ^ i)
theorem lowB_length (x n : Nat) : (lowB x n).length = n := by simp [lowB]
def lowRow (x n k : Nat) : List UInt8 := (List.range n).map fun i => if i < k then UInt8.ofNat (x / 256 ^ i) else 0
theorem lowRow_length (x n k : Nat) : (lowRow x n k).length = n := by simp [lowRow]
theorem lowRow_zero (x n : Nat) : u8s (lowRow x n 0) = List.replicate n (.int .u8 0) := by
  apply List.ext_getElem?
  intro j
  by_cases hj : j < n <;> simp [lowRow, u8s, hj]
theorem lowRow_full (x n : Nat) : lowRow x n n = lowB x n := by
  apply List.ext_getElem?
  intro j
  by_cases hj : j < n <;> simp [lowRow, lowB, hj]
theorem lowRow_set (x n k : Nat) (hk : k < n) : (u8s (lowRow x n k)).set k (.int .u8 ((x / 256 ^ k % 256 : Nat) : Int)) = u8s (lowRow x n (k + 1)) := by
  apply List.ext_getElem?
  intro j
  rw [List.getElem?_set]
  by_cases hkj : k = j
  · subst hkj
    simp [lowRow, u8s, hk]
  · by_cases hj : j < n
    · simp only [if_neg hkj]
      by_cases hjk : j < k
      · simp [lowRow, u8s, hj, hjk, Nat.lt_succ_of_lt hjk]
      · have h2 : ¬ j < k + 1 := by omega
        simp [lowRow, u8s, hj, hjk, h2]
    · simp [lowRow, u8s, hj, hkj]
end Go.Proofs.YtkgflcpgjdbcdaaGreatDoor
