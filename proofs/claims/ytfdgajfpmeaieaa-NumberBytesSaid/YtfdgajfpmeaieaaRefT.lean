/- The document's own reader (waterwheelref01): New, Truth, Text. -/
import Derived.Test.YtfdgajfpmeaieaaRefS
namespace Go.Proofs.Ytfdgajfpmeaieaa
open Go.RowKit

theorem rnew_any (A : Option Addr) (c : Nat) (l : List UInt8) (n : Nat) (w : World) (hr : Rd w w.heap.size (.slice A n c) (u8s l)) (hl : n ≤ 1000000) (hn : n = l.length) :
    Calls Try.prog 29 #[.slice A n c] w fun e w' => ∃ s, e = .returned (.pointer (some ⟨s, 0, none⟩)) ∧ w.heap.size ≤ s ∧ RefL w' w.heap.size s l 0 ∧ s < w'.heap.size ∧ Below w.heap.size w w' := by
  obtain ⟨i0, hi, hz0, hz1, hz2⟩ := info_parts info_u8
  have hlen : (u8s l).length = n := by rw [u8s_length]; exact hn.symm
  have hown := World.ownsRow_lit (base := w.heap.size) (e := 5) (size := 1) w #[] 0 (Nat.le_refl _) (by simp [maxLen]) (by simp)
  have hr1 := hr.alloc (Nat.le_refl _) (.cells #[] 5)
  have hm1 : 0 + (u8s l).length ≤ maxLen := by rw [hlen]; unfold maxLen; omega
  have hm2 : (0 + (u8s l).length) * 1 ≤ 140737488355328 := by rw [hlen]; omega
  have hB : w.heap.size ≤ (w.alloc (.cells #[] 5)).heap.size := by simp
  have HL := Lib.hid hlen
  have HN := Lib.hid hn
  clear hlen hn
  go_enter Try.func29, Try.ntmps29
  go_wp2_with (first | (at_builtin; refine wpList_app_rd _ rfl (.tmp 3) (.tmp 4) 40 rfl w.heap.size 5 i0 _ 1 Try.underlying40 hi hz0 hz1 hz2 rfl _ 0 _ rfl hown w.heap.size _ _ rfl hr1 (u8s_one _) hm1 hm2 hB ?_; intro v' w2 hown2 hg2; obtain ⟨A2, c2, rfl⟩ := own_form hown2))
  have hb2 := below_app hown ((Below.refl w.heap.size w).alloc (Nat.le_refl _) _) hB hg2
  have hown3 : w2.ownsRow w.heap.size 5 1 (.slice A2 n c2) n (u8s l) := by
    have h := hown2
    rw [HL.out, Nat.zero_add] at h
    simpa using h
  have hrd := Rd.of_own hown3
  go_ret
  refine ⟨w2.heap.size, rfl, hb2.size, ⟨l, 0, rfl, A2, n, c2, HN.out, Nat.zero_le _, hl, fun ad e => ?_, ?_, (hrd.alloc (Nat.le_refl _) _)⟩, by simp, hb2.alloc hb2.size _⟩
  · subst e
    exact (hown3.lt _ rfl).1
  · rw [HL.out]
    exact heap_alloc_new _ _

theorem truthR_one (c : UInt8) (t : List UInt8) : truthR (c :: t) 1 = if 1 < c.toNat then (0, 0, 4) else (c.toNat, 1, 0) := rfl

theorem rtruth_read (lo s q : Nat) (l : List UInt8) (w : World) (h : RefL w lo s l q) :
    Calls Try.prog 59 #[.pointer (some ⟨s, 0, none⟩)] w (RGave w lo s (.bool ((att truthR 1 l q).1.1 == 1)) (att truthR 1 l q).2) := by
  obtain ⟨b, i, rfl, h⟩ := h
  have H := Lib.hid h
  obtain ⟨A, n, c, hn, hi, hm, -, h1, hr⟩ := h
  have c0 : w.cell? ⟨s, 0, none⟩ = some (.slice A n c) := (cell_of_row w s 0 _ _ _ h1).trans rfl
  have c1 : w.cell? ⟨s, 1, none⟩ = some (.int .i64 (i : Int)) := (cell_of_row w s 1 _ _ _ h1).trans rfl
  have c2 : w.cell? ⟨s, 2, none⟩ = some (.int .i64 (q : Int)) := (cell_of_row w s 2 _ _ _ h1).trans rfl
  have f1 := frozen_of_row w s 1 _ 76 h1
  have f2 := frozen_of_row w s 2 _ 76 h1
  clear h1
  by_cases hq : q ≠ 0
  · rw [att_err _ _ _ _ hq]
    clear hn hr
    go_enter Try.func59, Try.ntmps59
    go_wp2_with fail
    go_ret
    exact ⟨rfl, refl_of H.out, World.grownBy.refl _ _⟩
  obtain rfl : q = 0 := by omega
  by_cases hin : i = n
  · have e : truthR (b.drop i) 1 = (0, 0, 5) := by rw [List.drop_eq_nil_of_le (by omega)]; rfl
    rw [att_bad truthR 1 _ 5 e (by simp)]
    clear hn hr e
    subst hin
    go_enter Try.func59, Try.ntmps59
    go_wp2_with fail
    go_quiet (fail)
    go_wp2_with fail
    go_ret
    exact ⟨rfl, refl_of (RefR.err (q' := 5) (H.out.draw _)), grown_setN _ _ _ _ _⟩
  have hib : i < b.length := by omega
  have hd : b.drop i = b[i] :: b.drop (i + 1) := List.drop_eq_getElem_cons hib
  obtain ⟨ad, rfl, had, hcell⟩ := hr.byte hib
  have ht := truthR_one b[i] (b.drop (i + 1))
  rw [← hd] at ht
  have hk256 := b[i].toNat_lt
  have hwr : IntKind.i64.wrap (i : Int) = (i : Int) := by rw [IntKind.wrap_i64]; omega
  have hcell2 : ∀ x v, ((w.drewN x).setCell ⟨s, 1, none⟩ v).cell? (ad.add i) = some (.int .u8 (b[i].toNat : Int)) := fun x v =>
    (World.cell?_setCell_other _ _ _ _ (fun e => by have := congrArg Addr.block e; rw [block_of_add'] at this; simp at this; omega)).trans hcell
  generalize b[i].toNat = k at ht hcell hcell2 hk256
  by_cases hk : 1 < k
  · rw [if_pos hk] at ht
    rw [att_bad truthR 1 _ 4 ht (by simp)]
    clear hn hr hd ht hcell2
    go_enter Try.func59, Try.ntmps59
    go_wp2_with fail
    go_quiet (fail)
    go_wp2_with fail
    go_quiet (fail)
    go_wp2_with fail
    go_ret
    exact ⟨rfl, refl_of (RefR.err (q' := 4) (H.out.draw _)), ⟨rfl, rfl, rfl, by simp, fun i _ hne => Below.heap_setCell _ _ _ _ (fun e => hne (by rw [e]))⟩⟩
  · rw [if_neg hk] at ht
    rw [att_good truthR 1 _ _ _ ht, List.drop_drop]
    have i1 : (i : Int) < (n : Int) := by omega
    clear hr hd ht hn
    go_enter Try.func59, Try.ntmps59
    go_wp2_with fail
    go_quiet (fail)
    go_wp2_with fail
    go_quiet (fail)
    go_wp2_with fail
    go_quiet (fail)
    go_wp2_with fail
    go_ret
    refine ⟨ret_bool ?_, refl_of (RefR.set (i' := i + 1) (H.out.draw _) (by omega)), ⟨rfl, rfl, rfl, by simp, fun i _ hne => Below.heap_setCell _ _ _ _ (fun e => hne (by rw [e]))⟩⟩
    rw [Bool.eq_iff_iff]
    simp
    omega

theorem next_pos (b : List UInt8) (i : Nat) (h : (nextR b i).2.2 = 0) (hi : i ≤ b.length) : (nextR b i).2.1 ≤ b.length := by
  obtain ⟨k, e1, e2, -, -, -⟩ := next_ok b i 0 h hi
  omega

theorem grown_setN2 (w : World) (k' s k m : Nat) (v : Value) : w.grownBy (((w.drewN k').setCell ⟨s, k, none⟩ v).drewN m) (some s) :=
  let h := grown_set (w.drewN k') s k v
  ⟨h.os, h.tape, h.output, h.size, h.block⟩

set_option maxRecDepth 20000 in
theorem rtext_read (lo s q : Nat) (l : List UInt8) (w : World) (h : RefL w lo s l q) :
    Calls Try.prog 57 #[.pointer (some ⟨s, 0, none⟩)] w (RGave w lo s (.string (textOf (att textR 1048576 l q).1)) (att textR 1048576 l q).2) := by
  obtain ⟨b, i, rfl, h⟩ := h
  have N := next_any lo s i q b w h
  have H := Lib.hid h
  obtain ⟨A, n, c, hn, hi, hm, -, h1, hr⟩ := h
  have hc0 := (cell_of_row w s 0 _ _ _ h1)
  have c0 : w.cell? ⟨s, 0, none⟩ = some (.slice A n c) := hc0.trans rfl
  have c1 : w.cell? ⟨s, 1, none⟩ = some (.int .i64 (i : Int)) := (cell_of_row w s 1 _ _ _ h1).trans rfl
  have c2 : w.cell? ⟨s, 2, none⟩ = some (.int .i64 (q : Int)) := (cell_of_row w s 2 _ _ _ h1).trans rfl
  have f1 := frozen_of_row w s 1 _ 76 h1
  have f2 := frozen_of_row w s 2 _ 76 h1
  clear h1 hc0
  by_cases hq : q ≠ 0
  · rw [att_err _ _ _ _ hq]
    clear N hn hr
    go_enter Try.func57, Try.ntmps57
    go_wp2_with fail
    go_ret
    exact ⟨rfl, refl_of H.out, World.grownBy.refl _ _⟩
  obtain rfl : q = 0 := by omega
  by_cases he : (nextR b i).2.2 ≠ 0
  · have e : textR (b.drop i) 1048576 = (0, 0, (nextR b i).2.2) := by
      unfold textR
      simp only
      rw [next_bad b i 1048576 he, if_pos he]
    rw [att_bad textR 1048576 _ _ e he]
    unfold tup3 at N
    generalize (nextR b i).1 = x at N
    generalize (nextR b i).2.1 = k at N
    generalize (nextR b i).2.2 = er at N he ⊢
    clear hn hr
    go_enter Try.func57, Try.ntmps57
    go_wp2_with (go_at_call 90; refine N.mono ?_; rintro e w' ⟨rfl, kk, rfl⟩)
    go_ret
    exact ⟨rfl, refl_of (RefR.err (H.out.draw kk)), grown_setN _ _ _ _ _⟩
  have he : (nextR b i).2.2 = 0 := by omega
  obtain ⟨k, e1, e2, e0, e3, e4⟩ := next_ok b i 1048576 he (by omega)
  have hld : (b.drop i).length = n - i := by rw [List.length_drop]; omega
  have hT : textR (b.drop i) 1048576 = if 1048576 < (nextR b i).1 then (0, 0, 3) else if n - i - k < (nextR b i).1 then (0, 0, 5) else ((nextR b i).1, k + (nextR b i).1, 0) := by
    unfold textR
    simp only
    rw [e4, hld]
    by_cases hx : 1048576 < (nextR b i).1
    · rw [if_pos hx, if_pos hx, if_pos (by simp)]
    · rw [if_neg hx, if_neg hx, if_neg (by simp)]
  unfold tup3 at N
  rw [he, e1] at N
  have hx2 : (nextR b i).1 < 18446744073709551616 := by unfold maxU at e3; omega
  generalize (nextR b i).1 = x at N hT hx2
  have hen : ((i + k : Nat) : Int) ≤ (n : Int) := by omega
  have hik : i + k ≤ n := by omega
  obtain ⟨en, Hen⟩ : ∃ en, Hid (en = i + k) := ⟨_, Lib.hid rfl⟩
  rw [← Hen.out] at N hen e2
  by_cases hx : 1048576 < x
  · rw [if_pos hx] at hT
    rw [att_bad textR 1048576 _ 3 hT (by simp)]
    clear e1 he e3 e4 hT hn hr e2 hld
    go_enter Try.func57, Try.ntmps57
    go_wp2_with (go_at_call 90; refine N.mono ?_; rintro e w' ⟨rfl, kk, rfl⟩)
    go_ret
    exact ⟨rfl, refl_of (RefR.err (q' := 3) (H.out.draw kk)), grown_setN _ _ _ _ _⟩
  rw [if_neg hx] at hT
  by_cases hx5 : n - i - k < x
  · rw [if_pos hx5] at hT
    rw [att_bad textR 1048576 _ 5 hT (by simp)]
    have hlt : (n : Int) - (en : Int) < (x : Int) := by rw [Hen.out]; omega
    clear e1 he e3 e4 hT hn hr e2 hld hx5
    go_enter Try.func57, Try.ntmps57
    go_wp2_with (go_at_call 90; refine N.mono ?_; rintro e w' ⟨rfl, kk, rfl⟩)
    go_ret
    exact ⟨rfl, refl_of (RefR.err (q' := 5) (H.out.draw kk)), grown_setN _ _ _ _ _⟩
  rw [if_neg hx5] at hT
  rw [att_good textR 1048576 _ _ _ hT, List.drop_drop]
  obtain ⟨ad, rfl, had, _⟩ := hr.byte (k := 0) e0
  have hnc : n ≤ c ∧ c ≤ 9223372036854775807 := by
    obtain ⟨A', c', hv, h1, h2⟩ := hr.form
    injection hv with _ _ h3
    unfold maxLen at h2
    omega
  obtain ⟨hnc, hmx⟩ := hnc
  have hxe : en + x ≤ n := by rw [Hen.out]; omega
  have hlt : ¬ (n : Int) - (en : Int) < (x : Int) := by omega
  have hcut := (hr.cut (i := en) hn (by omega)).cutTo (i := x) (by rw [List.length_drop, hn]) (by omega)
  obtain ⟨S, HS⟩ : ∃ S, Hid (S = (b.drop en).take x) := ⟨_, Lib.hid rfl⟩
  rw [← HS.out] at hcut
  have hfin : textOf (x, (b.drop i).take (k + x)) = ⟨S.toArray⟩ := by
    have hl : ((b.drop i).take (k + x)).length = k + x := by rw [List.length_take, hld]; omega
    show (⟨(((b.drop i).take (k + x)).drop (((b.drop i).take (k + x)).length - x)).toArray⟩ : ByteArray) = _
    rw [hl, Nat.add_sub_cancel, List.drop_take, Nat.add_sub_cancel_left, List.drop_drop, HS.out, Hen.out]
  have HF := Lib.hid hfin
  have hback : i + (k + x) = en + x := by rw [Hen.out]; omega
  rw [hback]
  have e2' : en + x ≤ b.length := by omega
  have ix : (x : Int) < 18446744073709551616 := by omega
  have ie1 : (en : Int) ≤ (en : Int) + (x : Int) := by omega
  have ie2 : (en : Int) + (x : Int) ≤ (c : Int) := by omega
  have ie3 : (0 : Int) ≤ (en : Int) := by omega
  by_cases hce : c = en
  · obtain rfl : x = 0 := by omega
    rw [if_pos hce, hce, Nat.sub_self] at hcut
    have hs : ∀ kk v m, (convert 40 9 (.slice (some ad) 0 0)).run Try.prog ((((w.drewN kk).setCell ⟨s, 1, none⟩ v)).drewN m) = .ok (.string ⟨S.toArray⟩) ((((w.drewN kk).setCell ⟨s, 1, none⟩ v)).drewN m) := fun kk v m =>
      run_str_rd 40 9 5 Try.underlying40 Try.underlying5 Try.underlying9 (((hcut.drewN kk).setCell (Nat.le_refl _) v).drewN m)
    clear e1 he e3 e4 hT hn hr e2 hld hx5 hcut hfin hback
    subst hce
    go_enter Try.func57, Try.ntmps57
    go_wp2_with (go_at_call 90; refine N.mono ?_; rintro e w' ⟨rfl, kk, rfl⟩)
    go_quiet (fail)
    go_wp2_with fail
    go_ret
    exact ⟨ret_str HF.out.symm, refl_of (RefR.set (i' := c + 0) (H.out.draw kk) e2'), grown_setN2 _ _ _ _ _ _⟩
  · rw [if_neg hce, Option.map_some] at hcut
    have hs : ∀ kk v m, (convert 40 9 (.slice (some (ad.add en)) x (c - en))).run Try.prog ((((w.drewN kk).setCell ⟨s, 1, none⟩ v)).drewN m) = .ok (.string ⟨S.toArray⟩) ((((w.drewN kk).setCell ⟨s, 1, none⟩ v)).drewN m) := fun kk v m =>
      run_str_rd 40 9 5 Try.underlying40 Try.underlying5 Try.underlying9 (((hcut.drewN kk).setCell (Nat.le_refl _) v).drewN m)
    clear e1 he e3 e4 hT hn hr e2 hld hx5 hcut hfin hback
    have HE := Lib.hid e2'
    have IE := Lib.hid ie1
    have hle : (x : Int) ≤ (n : Int) - (en : Int) := by omega
    clear hlt ie1 hxe e2' ix hx2
    go_enter Try.func57, Try.ntmps57
    go_wp2_with (go_at_call 90; refine N.mono ?_; rintro e w' ⟨rfl, kk, rfl⟩)
    have ie1 := IE.out
    go_quiet (fail)
    go_wp2_with fail
    go_ret
    exact ⟨ret_str HF.out.symm, refl_of (RefR.set (i' := en + x) (H.out.draw kk) HE.out), grown_setN2 _ _ _ _ _ _⟩
end Go.Proofs.Ytfdgajfpmeaieaa
