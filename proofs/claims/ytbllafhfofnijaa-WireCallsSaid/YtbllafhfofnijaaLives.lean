/- The statements' examples hold: waterwheellaw01.lives answers true. -/
import Derived.Test.YtbllafhfofnijaaNum
import Derived.Test.YtbllafhfofnijaaSum
import Derived.Lib.SlBytesConst
namespace Go.Proofs.Ytbllafhfofnijaa
open Go.RowKit

/-- 'string(b)' of what reads as bytes. -/
theorem run_str_rd {P : Program} {w : World} {B : Nat} (src dst e : TypeId) {A : Option Addr} {n c : Nat} {l : List UInt8} (hs : P.underlying src = some (.slice e)) (he : P.underlying e = some (.int .u8)) (hd : P.underlying dst = some .string)
    (h : Rd w B (.slice A n c) (u8s l)) : (convert src dst (.slice A n c)).run P w = .ok (.string ⟨l.toArray⟩) w := by
  obtain ⟨A', c', hv, _, _⟩ := h.form
  injection hv with h1 h2 h3
  subst h1 h2 h3
  rcases A with _ | ad
  · have hl : l = [] := by
      cases l with
      | nil => rfl
      | cons x l => obtain ⟨ad, h, _⟩ := h.byte (k := 0) (by simp); cases h
    subst hl
    rw [run_convert_bytes_string w src dst e _ _ c hs he hd]
    simp [Conv.bytesToString]
    rfl
  · exact run_convert_bytes_back w src dst e ad c l hs he hd fun j hj => by
      obtain ⟨ad', e1, _, hc⟩ := h.byte hj
      injection e1 with e1
      subst e1
      exact hc

theorem Rd.newf (w : World) (t : TypeId) (fr : Nat × Nat) (cs : Array Value) (n : Nat) (hn : cs.size = n) (hm : n ≤ maxLen) :
    Rd (w.alloc (.cells cs t fr)) (w.heap.size + 1) (.slice (some ⟨w.heap.size, 0, none⟩) n n) cs.toList := by
  subst hn
  refine ⟨some ⟨w.heap.size, 0, none⟩, cs.size, by simp, by simp, hm, fun _ => ⟨⟨w.heap.size, 0, none⟩, rfl, by simp, fun j u hu => ?_⟩⟩
  have hadd : (⟨w.heap.size, 0, none⟩ : Addr).add j = ⟨w.heap.size, j, none⟩ := by unfold Addr.add; split <;> simp_all
  rw [hadd, cell_of_row _ w.heap.size j cs t fr (heap_alloc_new w _)]
  simpa using hu

theorem numB_256 : numB 256 = [2, 0, 1] := by decide +kernel
theorem numB_1 : numB (foldN (-1)) = [1, 1] := by decide +kernel
theorem sumN_9 : sumN [49, 50, 51, 52, 53, 54, 55, 56, 57] = 3808858755 := by decide +kernel

theorem sum_nine (w : World) : Calls Try.prog 20 #[.slice (some ⟨w.heap.size + 1, 0, none⟩) 1 1]
    ((w.alloc (.cells #[.int .u8 49, .int .u8 50, .int .u8 51, .int .u8 52, .int .u8 53, .int .u8 54, .int .u8 55, .int .u8 56, .int .u8 57] 5 (9, 10))).alloc (.cells #[.slice (some ⟨w.heap.size, 0, none⟩) 9 9] 22))
    fun e w' => e = .returned (.int .u32 3808858755) ∧ Below w.heap.size w w' := by
  have h := Rd.newf w 5 (9, 10) #[.int .u8 49, .int .u8 50, .int .u8 51, .int .u8 52, .int .u8 53, .int .u8 54, .int .u8 55, .int .u8 56, .int .u8 57] 9 rfl (by simp [maxLen])
  have h9 : Rd _ _ _ (u8s [49, 50, 51, 52, 53, 54, 55, 56, 57]) := h
  refine (sum_new #[.slice (some ⟨w.heap.size, 0, none⟩) 9 9] [[49, 50, 51, 52, 53, 54, 55, 56, 57]] _ (rdAll1 (h9.more (by simp))) 1 [49, 50, 51, 52, 53, 54, 55, 56, 57] rfl rfl (by omega) _ (by simp)).mono ?_
  rintro e w' ⟨rfl, hb⟩
  rw [sumN_9]
  exact ⟨rfl, ((Below.refl _ _).alloc (Nat.le_refl _) _).trans (hb.mono (by simp))⟩

theorem lives_any (w : World) : Calls Try.prog 6 #[] w fun e w' => e = .returned (.bool true) ∧ Below w.heap.size w w' := by
  have N : Calls Try.prog 14 #[.slice none 0 0, .int .u64 256] w (Made w 3 [2, 0, 1]) := numB_256 ▸ number_any none 0 [] 256 w (Rd.nil _ _) (by simp) (by omega)
  have S : ∀ W : World, Calls Try.prog 16 #[.slice none 0 0, .int .i64 (-1)] W (Made W 2 [1, 1]) := fun W => numB_1 ▸ signed_any none 0 [] (-1) W (Rd.nil _ _) (by simp) (by omega) (by omega)
  have kc := fun (W : World) (C : Array Value) (n c : Nat) => Lib.run_convert_bytes_const (P := Try.prog) W 22 5 C n c Try.underlying22 Try.underlying5
  go_enter Try.func6, Try.ntmps6
  go_wp2_with (first
    | (go_at_call 14; refine N.mono ?_; rintro e w1 ⟨A1, c1, rfl, hown1, hb1⟩; have hs1 := run_str_rd 22 9 5 Try.underlying22 Try.underlying5 Try.underlying9 (Rd.of_own hown1))
    | (go_at_call 16; refine (S _).mono ?_; rintro e w2 ⟨A2, c2, rfl, hown2, hb2⟩; have hs2 := run_str_rd 22 9 5 Try.underlying22 Try.underlying5 Try.underlying9 (Rd.of_own hown2)))
  have hb12 := hb1.trans (hb2.mono hb1.size)
  clear N S kc hown1 hown2 hs1 hs2
  go_wp2_with (go_at_call 20; refine (sum_nine _).mono ?_; rintro e w3 ⟨rfl, hb3⟩)
  go_ret
  exact ⟨rfl, hb12.trans (hb3.mono hb12.size)⟩
end Go.Proofs.Ytbllafhfofnijaa
