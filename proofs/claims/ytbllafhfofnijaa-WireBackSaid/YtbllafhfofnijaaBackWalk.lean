/- The walk of waterwheellaw01.WireBack. -/
import Derived.Test.YtbllafhfofnijaaNew
import Derived.Test.YtbllafhfofnijaaKit
import Derived.Test.YtbllafhfofnijaaTurnIt
import Derived.Test.YtbllafhfofnijaaRefA
import Derived.Deep.DeepCutAuto
import Derived.Test.YtbllafhfofnijaaGrow
import Derived.Deep.RegionWith
import Derived.Deep.QuietTactic
import Derived.BigQuiet
namespace Go.Proofs.Ytbllafhfofnijaa.wireBack
open Go.RowKit

theorem number_n (A : Option Addr) (c n : Nat) (l : List UInt8) (x : Nat) (w : World) (hr : Rd w w.heap.size (.slice A n c) (u8s l)) (hn : n = l.length) (hl : n ≤ 35184372088832) (hx : x < 18446744073709551616) :
    Calls Try.prog 14 #[.slice A n c, .int .u64 (x : Int)] w (Made w (n + (numB x).length) (l ++ numB x)) := by
  subst hn
  exact number_any A c l x w hr hl hx
theorem signed_n (A : Option Addr) (c n : Nat) (l : List UInt8) (x : Int) (w : World) (hr : Rd w w.heap.size (.slice A n c) (u8s l)) (hn : n = l.length) (hl : n ≤ 35184372088832) (h1 : -9223372036854775808 ≤ x) (h2 : x ≤ 9223372036854775807) :
    Calls Try.prog 16 #[.slice A n c, .int .i64 x] w (Made w (n + (numB (foldN x)).length) (l ++ numB (foldN x))) := by
  subst hn
  exact signed_any A c l x w hr hl h1 h2
theorem truth_n (A : Option Addr) (c n : Nat) (l : List UInt8) (b : Bool) (w : World) (hr : Rd w w.heap.size (.slice A n c) (u8s l)) (hn : n = l.length) (hl : n ≤ 35184372088832) :
    Calls Try.prog 18 #[.slice A n c, .bool b] w (Made w (n + 1) (l ++ boolB b)) := by
  subst hn
  exact truth_any A c l b w hr hl
theorem text_n (A : Option Addr) (c n : Nat) (l : List UInt8) (s : ByteArray) (w : World) (hr : Rd w w.heap.size (.slice A n c) (u8s l)) (hn : n = l.length) (hl : n ≤ 35184372088832) (hs : s.size ≤ 1048576) :
    Calls Try.prog 7 #[.slice A n c, .string s] w (TextMade w (l ++ textB s)) := by
  subst hn
  exact text_any A c l s w hr hl hs

theorem below_drewN {B : Nat} {w w' : World} (h : Below B w w') (k : Nat) : Below B w (w'.drewN k) := ⟨h.1, h.2, h.3, h.4, h.5⟩

def u64s (xs : List Nat) : List Value := xs.map fun (x : Nat) => .int .u64 (x : Int)
def i64s (zs : List Int) : List Value := zs.map (Value.int .i64)
def numsB (xs : List Nat) (k : Nat) : List UInt8 := ((xs.take k).map numB).flatten
def sigsB (zs : List Int) (k : Nat) : List UInt8 := ((zs.take k).map fun z => numB (foldN z)).flatten
theorem numsB_succ (xs : List Nat) (k : Nat) (h : k < xs.length) : numsB xs (k + 1) = numsB xs k ++ numB xs[k] := by
  unfold numsB
  rw [List.take_succ_eq_append_getElem h, List.map_append, List.flatten_append]
  simp only [List.map_cons, List.map_nil, List.flatten_cons, List.flatten_nil, List.append_nil]
theorem sigsB_succ (zs : List Int) (k : Nat) (h : k < zs.length) : sigsB zs (k + 1) = sigsB zs k ++ numB (foldN zs[k]) := by
  unfold sigsB
  rw [List.take_succ_eq_append_getElem h, List.map_append, List.flatten_append]
  simp only [List.map_cons, List.map_nil, List.flatten_cons, List.flatten_nil, List.append_nil]

def numsR (xs : List Nat) (k : Nat) : List UInt8 := ((xs.drop k).map numB).flatten
def sigsR (zs : List Int) (k : Nat) : List UInt8 := ((zs.drop k).map fun z => numB (foldN z)).flatten
theorem numsR_cons (xs : List Nat) (k : Nat) (h : k < xs.length) : numsR xs k = numB xs[k] ++ numsR xs (k + 1) := by
  unfold numsR
  rw [List.drop_eq_getElem_cons h, List.map_cons, List.flatten_cons]
theorem sigsR_cons (zs : List Int) (k : Nat) (h : k < zs.length) : sigsR zs k = numB (foldN zs[k]) ++ sigsR zs (k + 1) := by
  unfold sigsR
  rw [List.drop_eq_getElem_cons h, List.map_cons, List.flatten_cons]
theorem numsR_end (xs : List Nat) : numsR xs xs.length = [] := by simp [numsR]
theorem sigsR_end (zs : List Int) : sigsR zs zs.length = [] := by simp [sigsR]
theorem nums_all (xs : List Nat) : numsB xs xs.length = numsR xs 0 := by simp [numsR, numsB]
theorem sigs_all (zs : List Int) : sigsB zs zs.length = sigsR zs 0 := by simp [sigsR, sigsB]

theorem att_num (x : Nat) (rest : List UInt8) (h : x < 18446744073709551616) : att numR maxU (numB x ++ rest) 0 = ((x, numB x), (rest, 0)) := att_back x rest maxU h (by unfold maxU; omega)

/-- What the reader of bytes makes of a number at their head, where there is one. -/
theorem att_ok (lb : List UInt8) (h : (att numR maxU lb 0).2.2 = 0) :
    ∃ k, k ≤ lb.length ∧ (att numR maxU lb 0).2.1 = lb.drop k ∧ lb.take k = numB (att numR maxU lb 0).1.1 := by
  have f := numR_facts lb maxU maxU_lt
  unfold att at h ⊢
  rw [if_neg (by simp)] at h ⊢
  by_cases hq : (numR lb maxU).2.2 ≠ 0
  · rw [if_pos hq] at h
    exact absurd h hq
  · rw [if_neg hq]
    exact ⟨(numR lb maxU).2.1, f.2.2.1, rfl, numR_only lb maxU (by simpa using hq)⟩
theorem quiet_left' {P : Program} {f : FuncId} {args : Array Value} {w : World} {n : Nat} {v : Value}
    (h : Calls P f args (w.drewN n) fun e w' => e = .returned v ∧ w.drewN n = w') : Calls P f args (w.drewN n) fun e w'' => e = .returned v ∧ ∃ m, w'' = w.drewN m :=
  h.mono fun _ _ ⟨he, hw⟩ => ⟨he, n, hw.symm⟩
theorem str_rd {w : World} {B n c : Nat} {A : Option Addr} {l : List UInt8} (h : Rd w B (.slice A n c) (u8s l)) : (convert 22 9 (.slice A n c)).run Try.prog w = .ok (.string ⟨l.toArray⟩) w :=
  run_str_rd 22 9 5 Try.underlying22 Try.underlying5 Try.underlying9 h

theorem att_truth (is : Bool) (t : List UInt8) : att truthR 1 (boolB is ++ t) 0 = ((if is then 1 else 0, boolB is), (t, 0)) := by
  cases is <;> simp [att, truthR, boolB]
theorem textR_back (s : ByteArray) (hs : s.size ≤ 1048576) : textR (textB s) 1048576 = (s.size, (textB s).length, 0) := by
  have h := numR_back s.size s.data.toList 1048576 (by omega) hs
  have hd : s.data.toList.length = s.size := rfl
  unfold textR
  rw [show textB s = numB s.size ++ s.data.toList from rfl, h]
  simp only
  rw [if_neg (by simp), if_neg (by rw [List.length_append]; omega), List.length_append, hd]
theorem att_text (s : ByteArray) (hs : s.size ≤ 1048576) : att textR 1048576 (textB s) 0 = ((s.size, textB s), ([], 0)) := by
  rw [att, if_neg (by simp), textR_back s hs]
  simp
theorem textOf_back (s : ByteArray) : textOf (s.size, textB s) = s := by
  have hd : s.data.toList.length = s.size := rfl
  have e : (textB s).drop ((textB s).length - s.size) = s.data.toList := by
    rw [show textB s = numB s.size ++ s.data.toList from rfl, List.length_append, hd, Nat.add_sub_cancel, List.drop_left]
  show (⟨((textB s).drop ((textB s).length - s.size)).toArray⟩ : ByteArray) = s
  rw [e]

set_option maxHeartbeats 16000000 in
set_option maxRecDepth 100000 in
theorem walk (Al Am Ab : Option Addr) (cl cm cb nb : Nat) (xs : List Nat) (zs : List Int) (s : ByteArray) (is : Bool) (lb : List UInt8) (x y z : Int) (w : World)
    (hl : Rd w w.heap.size (.slice Al xs.length cl) (u64s xs)) (hx : ∀ k (h : k < xs.length), xs[k] < 18446744073709551616)
    (hm : Rd w w.heap.size (.slice Am zs.length cm) (i64s zs)) (hz : ∀ k (h : k < zs.length), -9223372036854775808 ≤ zs[k] ∧ zs[k] ≤ 9223372036854775807)
    (hb : Rd w w.heap.size (.slice Ab nb cb) (u8s lb)) (hnb : nb = lb.length)
    (k1 : xs.length ≤ 200) (k2 : zs.length ≤ 200) (k3 : s.size ≤ 5000) (k4 : nb ≤ 5000)
    (px1 : -9223372036854775808 ≤ x) (px2 : x ≤ 9223372036854775807) (py1 : -9223372036854775808 ≤ y) (py2 : y ≤ 9223372036854775807) (pz1 : -9223372036854775808 ≤ z) (pz2 : z ≤ 9223372036854775807) :
    Calls Try.prog 5 #[.slice Al xs.length cl, .slice Am zs.length cm, .string s, .bool is, .slice Ab nb cb, .int .i64 x, .int .i64 y, .int .i64 z] w fun e w' => e = .returned (.bool true) ∧ Below w.heap.size w w' := by
  have HNB := Lib.hid hnb
  have HX := Lib.hid hx
  have HZ := Lib.hid hz
  clear hnb hx hz
  go_enter Try.func5, Try.ntmps5
  go_wp2_with (go_at_call 6; refine (lives_any _).mono ?_; rintro e w1 ⟨rfl, hb1⟩)
  go_loopw [17, 18] (fun v i wr => ∃ (k : Nat) (A : Option Addr) (n c : Nat), k ≤ xs.length ∧ i = .int .i64 k ∧ v = .slice A n c ∧ n ≤ 9 * k ∧ Hid (n = (numsB xs k).length) ∧ wr.ownsRow w.heap.size 5 1 (.slice A n c) n (u8s (numsB xs k)) ∧ Below w.heap.size w wr)
    (fun _ i _ => xs.length - (intOf i).toNat)
  case atStart => exact ⟨0, none, 0, 0, Nat.zero_le _, rfl, rfl, Nat.le_refl _, Lib.hid rfl, World.ownsRow_nil _ _ _ _, hb1⟩
  case round =>
    obtain ⟨k, A, n, c, hk, rfl, rfl, hn9, HN, hown, bel⟩ := hrel
    by_cases hlt : k < xs.length
    · obtain ⟨ad, rfl, _, hcell⟩ := (hl.below bel).at_ (k := k) (by simpa [u64s] using hlt)
      have hc2 : wr.cell? (ad.add k) = some (.int .u64 ((xs[k] : Nat) : Int)) := by rw [hcell]; simp [u64s]
      have hxk := HX.out k hlt
      have HS := Lib.hid (numsB_succ xs k hlt)
      have h8 := sz_le xs[k] hxk
      have N := number_n A c n (numsB xs k) xs[k] wr (Rd.of_own hown) HN.out (by omega) hxk
      have hnl : (numB xs[k]).length ≤ 9 := by rw [numB_length]; omega
      obtain ⟨m, Hm⟩ : ∃ m, Hid (m = (numB xs[k]).length) := ⟨_, Lib.hid rfl⟩
      rw [← Hm.out] at N hnl
      obtain ⟨xk, Hxk⟩ : ∃ xk, Hid (xk = xs[k]) := ⟨_, Lib.hid rfl⟩
      rw [← Hxk.out] at hc2 hxk N
      clear hcell h8
      go_wp2_with (go_at_call 14; refine N.mono ?_; rintro e w2 ⟨A2, c2, rfl, o2, hb2⟩)
      go_roundw
      case rel => exact ⟨k + 1, A2, n + m, c2, by omega, by go_num, rfl, by omega, Lib.hid (by rw [HS.out, List.length_append, ← HN.out, ← Hm.out]), by rw [HS.out, ← Hxk.out]; exact own_base o2 bel.size, bel.trans (hb2.mono bel.size)⟩
      case measure => simp [intOf]; omega
    · obtain rfl : k = xs.length := by omega
      go_wp2_with fail
      obtain ⟨P, HP⟩ : ∃ P, Hid (P = numsB xs xs.length) := ⟨_, Lib.hid rfl⟩
      rw [← HP.out] at hown HN
      have hn18 : n ≤ 1800 := by omega
      go_loopw [17, 19] (fun v i wr => ∃ (k : Nat) (A : Option Addr) (n c : Nat), k ≤ zs.length ∧ i = .int .i64 k ∧ v = .slice A n c ∧ n ≤ 1800 + 9 * k ∧ Hid (n = (P ++ sigsB zs k).length) ∧ wr.ownsRow w.heap.size 5 1 (.slice A n c) n (u8s (P ++ sigsB zs k)) ∧ Below w.heap.size w wr)
        (fun _ i _ => zs.length - (intOf i).toNat)
      case atStart => exact ⟨0, A, n, c, Nat.zero_le _, rfl, rfl, by omega, Lib.hid (by rw [HN.out]; simp [sigsB]), by simpa [sigsB] using hown, bel⟩
      case round =>
        clear hown HN hn18 hn9 bel hb1
        obtain ⟨k, A, n, c, hk, rfl, rfl, hn9, HN, hown, bel⟩ := hrel
        by_cases hlt : k < zs.length
        · obtain ⟨ad, rfl, _, hcell⟩ := (hm.below bel).at_ (k := k) (by simpa [i64s] using hlt)
          have hc2 : wr.cell? (ad.add k) = some (.int .i64 zs[k]) := by rw [hcell]; simp [i64s]
          obtain ⟨hz1, hz2⟩ := HZ.out k hlt
          have HS := Lib.hid (sigsB_succ zs k hlt)
          have h8 := sz_le (foldN zs[k]) (foldN_lt _ hz1 hz2)
          have N := signed_n A c n (P ++ sigsB zs k) zs[k] wr (Rd.of_own hown) HN.out (by omega) hz1 hz2
          have hnl : (numB (foldN zs[k])).length ≤ 9 := by rw [numB_length]; omega
          obtain ⟨m, Hm⟩ : ∃ m, Hid (m = (numB (foldN zs[k])).length) := ⟨_, Lib.hid rfl⟩
          rw [← Hm.out] at N hnl
          obtain ⟨zk, Hzk⟩ : ∃ zk, Hid (zk = zs[k]) := ⟨_, Lib.hid rfl⟩
          rw [← Hzk.out] at hc2 hz1 hz2 N
          clear hcell h8
          go_wp2_with (go_at_call 16; refine N.mono ?_; rintro e w2 ⟨A2, c2, rfl, o2, hb2⟩)
          go_roundw
          case rel => exact ⟨k + 1, A2, n + m, c2, by omega, by go_num, rfl, by omega, Lib.hid (by rw [HS.out, ← List.append_assoc, List.length_append, ← HN.out, ← Hm.out]), by rw [HS.out, ← Hzk.out, ← List.append_assoc]; exact own_base o2 bel.size, bel.trans (hb2.mono bel.size)⟩
          case measure => simp [intOf]; omega
        · obtain rfl : k = zs.length := by omega
          obtain ⟨Q, HQ⟩ : ∃ Q, Hid (Q = P ++ sigsB zs zs.length) := ⟨_, Lib.hid rfl⟩
          rw [← HQ.out] at hown HN
          have N := truth_n A c n Q is wr (Rd.of_own hown) HN.out (by omega)
          go_wp2_with (go_at_call 18; refine N.mono ?_; rintro e w2 ⟨A2, c2, rfl, o2, hb2⟩)
          have b2 := bel.trans (hb2.mono bel.size)
          have X := text_n A2 c2 (n + 1) (Q ++ boolB is) s w2 (Rd.of_own o2) (by rw [List.length_append, ← HN.out]; rfl) (by omega) (by omega)
          clear N hown o2 hb2 bel
          refine X.mono ?_
          rintro e w3 ⟨A3, c3, rfl, o3, hb3⟩
          have b3 := b2.trans (hb3.mono b2.size)
          have htl : (textB s).length ≤ 5009 := by
            have := sz_le s.size (by omega)
            rw [textB, List.length_append, numB_length]
            have : s.data.toList.length = s.size := rfl
            omega
          have hql : Q.length ≤ 3600 := by rw [← HN.out]; omega
          obtain ⟨F, HF⟩ : ∃ F, Hid (F = Q ++ boolB is ++ textB s) := ⟨_, Lib.hid rfl⟩
          rw [← HF.out] at o3 ⊢
          have hfl : F.length ≤ 8700 := by rw [HF.out]; simp [boolB]; omega
          have W := new_any A3 c3 F F.length w3 (Rd.of_own o3) (by omega) rfl
          clear X o3 hb3 b2
          go_wp2_with fail
          refine W.mono ?_
          rintro e w4 ⟨lo, r, rfl, g1, g2, h4, hb4⟩
          have b4 := b3.trans (hb4.mono b3.size)
          have glo : w.heap.size ≤ lo := Nat.le_trans b3.size g1
          obtain ⟨Z2, HZ2⟩ : ∃ Z2, Hid (Z2 = boolB is ++ textB s) := ⟨_, Lib.hid rfl⟩
          obtain ⟨Z1, HZ1⟩ : ∃ Z1, Hid (Z1 = sigsR zs 0 ++ Z2) := ⟨_, Lib.hid rfl⟩
          have hF : F = numsR xs 0 ++ Z1 := by rw [HF.out, HQ.out, HP.out, nums_all, sigs_all, HZ1.out, HZ2.out]; simp only [List.append_assoc]
          rw [hF] at h4
          clear hF W hb4 b3 g1
          go_wp2_with fail
          go_loopw [22] (fun i wr => ∃ k : Nat, k ≤ xs.length ∧ i = .int .i64 k ∧ Rdr wr lo r (numsR xs k ++ Z1) 0 ∧ Below w.heap.size w wr) (fun i _ => xs.length - (intOf i).toNat)
          case atStart => exact ⟨0, Nat.zero_le _, rfl, h4, b4⟩
          case round =>
            clear h4 b4 htl hql hfl hn9 HN
            obtain ⟨k, hk, rfl, hrd, bel⟩ := hrel
            by_cases hlt : k < xs.length
            · obtain ⟨ad, rfl, hadb, hcell⟩ := (hl.below bel).at_ (k := k) (by simpa [u64s] using hlt)
              have hc2 : wr.cell? (ad.add k) = some (.int .u64 ((xs[k] : Nat) : Int)) := by rw [hcell]; simp [u64s]
              have hxk := HX.out k hlt
              rw [numsR_cons xs k hlt, List.append_assoc] at hrd
              have N := number_read lo r 0 _ wr.drew hrd
              rw [att_num xs[k] _ hxk] at N
              obtain ⟨xk, Hxk⟩ : ∃ xk, Hid (xk = xs[k]) := ⟨_, Lib.hid rfl⟩
              rw [← Hxk.out] at hc2 hxk N
              have hblk : (ad.add k).block < wr.drew.heap.size := by rw [block_of_add']; exact Nat.lt_of_lt_of_le hadb bel.size
              have hner : some (ad.add k).block ≠ some r := by rw [block_of_add']; simp; omega
              have HB := Lib.hid hblk
              have HR := Lib.hid hner
              clear hcell hrd hblk hner hadb
              go_wp2_with fail
              go_region_with (go_at_call 25; refine N.mono ?_; rintro e w7 ⟨rfl, h7, hg7⟩; have hc7 := (World.cell?_of_block (hg7.block _ HB.out HR.out)).trans hc2)
              all_goals go_wp2_with fail
              all_goals exact ⟨⟨k + 1, by omega, by go_num, h7, bel.drew.grown hg7 bel.size (by intro j hj; injection hj; omega)⟩, by simp [intOf]; omega⟩
            · obtain rfl : k = xs.length := by omega
              rw [numsR_end, List.nil_append, HZ1.out] at hrd
              go_wp2_with fail
              go_loopw [23] (fun i wr => ∃ k : Nat, k ≤ zs.length ∧ i = .int .i64 k ∧ Rdr wr lo r (sigsR zs k ++ Z2) 0 ∧ Below w.heap.size w wr) (fun i _ => zs.length - (intOf i).toNat)
              case atStart => exact ⟨0, Nat.zero_le _, rfl, hrd, bel⟩
              case round =>
                clear hrd bel
                obtain ⟨k, hk, rfl, hrd, bel⟩ := hrel
                by_cases hlt : k < zs.length
                · obtain ⟨ad, rfl, hadb, hcell⟩ := (hm.below bel).at_ (k := k) (by simpa [i64s] using hlt)
                  have hc2 : wr.cell? (ad.add k) = some (.int .i64 zs[k]) := by rw [hcell]; simp [i64s]
                  obtain ⟨hz1, hz2⟩ := HZ.out k hlt
                  rw [sigsR_cons zs k hlt, List.append_assoc] at hrd
                  have N := signed_read lo r 0 _ wr.drew hrd
                  rw [att_num (foldN zs[k]) _ (foldN_lt _ hz1 hz2)] at N
                  simp only at N
                  rw [unfold_fold _ hz1 hz2] at N
                  obtain ⟨zk, Hzk⟩ : ∃ zk, Hid (zk = zs[k]) := ⟨_, Lib.hid rfl⟩
                  rw [← Hzk.out] at hc2 hz1 hz2 N
                  have hblk : (ad.add k).block < wr.drew.heap.size := by rw [block_of_add']; exact Nat.lt_of_lt_of_le hadb bel.size
                  have hner : some (ad.add k).block ≠ some r := by rw [block_of_add']; simp; omega
                  have HB := Lib.hid hblk
                  have HR := Lib.hid hner
                  clear hcell hrd hblk hner hadb
                  go_wp2_with fail
                  go_region_with (go_at_call 27; refine N.mono ?_; rintro e w7 ⟨rfl, h7, hg7⟩; have hc7 := (World.cell?_of_block (hg7.block _ HB.out HR.out)).trans hc2)
                  all_goals go_wp2_with fail
                  all_goals exact ⟨⟨k + 1, by omega, by go_num, h7, bel.drew.grown hg7 bel.size (by intro j hj; injection hj; omega)⟩, by simp [intOf]; omega⟩
                · obtain rfl : k = zs.length := by omega
                  rw [sigsR_end, List.nil_append, HZ2.out] at hrd
                  have N := truth_read lo r 0 _ wr hrd
                  rw [att_truth] at N
                  have hv : (((if is then 1 else 0, boolB is), (textB s, 0)) : (Nat × List UInt8) × (List UInt8 × Nat)).1.1 = 1 ↔ is = true := by cases is <;> simp
                  have hv2 : ((((if is then 1 else 0, boolB is), (textB s, 0)) : (Nat × List UInt8) × (List UInt8 × Nat)).1.1 == 1) = is := by cases is <;> rfl
                  rw [hv2] at N
                  clear hv hv2 hrd
                  go_wp2_with fail
                  refine N.mono ?_
                  rintro e w7 ⟨rfl, h7, hg7⟩
                  have b7 := bel.grown hg7 bel.size (by intro j hj; injection hj; omega)
                  have X := text_read lo r 0 _ w7 h7
                  rw [att_text s (by omega)] at X
                  simp only at X
                  rw [textOf_back] at X
                  clear N h7 hg7 bel
                  go_wp2_with fail
                  refine X.mono ?_
                  rintro e w8 ⟨rfl, h8, hg8⟩
                  have b8 := b7.grown hg8 b7.size (by intro j hj; injection hj; omega)
                  have E := end_read lo r 0 _ w8 h8
                  rw [show endN [] 0 = 0 from rfl] at E
                  clear X h8 hg8 b7
                  go_wp2_with fail
                  refine E.mono ?_
                  rintro e w' ⟨rfl, rfl⟩
                  clear E
                  have hb8 := hb.below b8
                  have O1 := own_any Ab cb lb nb w8 (hb8.more b8.size) (by omega) HNB.out
                  go_wp2_with fail
                  refine O1.mono ?_
                  rintro e w9 ⟨A9, c9, rfl, o9, bb9⟩
                  have b9 := b8.trans (bb9.mono b8.size)
                  have Q1 := new_any A9 c9 lb nb w9 (Rd.of_own o9) (by omega) HNB.out
                  clear O1 o9 bb9 b8 hb8
                  go_wp2_with fail
                  refine Q1.mono ?_
                  rintro e w10 ⟨lo1, r1, rfl, g3, g4, h10, bb10⟩
                  have b10 := b9.trans (bb10.mono b9.size)
                  have z9 := b9.size
                  clear Q1 bb10 b9
                  have hb10 := hb.below b10
                  have O2 := own_any Ab cb lb nb w10 (hb10.more b10.size) (by omega) HNB.out
                  go_wp2_with fail
                  refine O2.mono ?_
                  rintro e w11 ⟨A11, c11, rfl, o11, bb11⟩
                  have b11 := b10.trans (bb11.mono b10.size)
                  have h11 := h10.below bb11
                  have z11 := h11.lt
                  have Q2 := new_any A11 c11 lb nb w11 (Rd.of_own o11) (by omega) HNB.out
                  clear O2 o11 bb11 b10 h10 hb10
                  go_wp2_with fail
                  refine Q2.mono ?_
                  rintro e w12 ⟨lo2, r2, rfl, g5, g6, h12, bb12⟩
                  have b12 := b11.trans (bb12.mono b11.size)
                  have p12 := h11.below bb12
                  clear Q2 bb12 b11 h11
                  have N := number_read lo1 r1 0 lb w12 p12
                  go_wp2_with fail
                  refine N.mono ?_
                  rintro e w13 ⟨rfl, p13, hg13⟩
                  have q13 := h12.kept hg13 (by omega) g6
                  have b13 := b12.grown hg13 b12.size (by intro j hj; injection hj; omega)
                  clear N p12 h12 b12 hg13
                  have S := signed_read lo2 r2 0 lb w13 q13
                  go_wp2_with fail
                  refine S.mono ?_
                  rintro e w14 ⟨rfl, q14, hg14⟩
                  have p14 := p13.kept hg14 (by omega) g4
                  have b14 := b13.grown hg14 b13.size (by intro j hj; injection hj; omega)
                  clear S q13 p13 b13 hg14
                  have hu := att_num_le maxU lb 0 maxU_lt
                  have hok := Lib.hid (att_ok lb)
                  generalize att numR maxU lb 0 = a at *
                  have hu2 : a.1.1 < 18446744073709551616 := by unfold maxU at hu; omega
                  have HU := Lib.hid hu2
                  clear hu hu2
                  go_wp2_with fail
                  go_cut [173] (fun v wx => v = .bool false ∧ Below w.heap.size w wx)
                  case first =>
                    by_cases hq : a.2.2 = 0
                    · obtain ⟨k, hkl, hd, ht⟩ := hok.out hq
                      have E := fun n => err_read lo1 r1 a.2.2 a.2.1 (w14.drewN n) p14
                      rw [hq] at E
                      obtain ⟨ml, Hml⟩ : ∃ ml, Hid (ml = a.2.1.length) := ⟨_, Lib.hid rfl⟩
                      have hnk : nb = k + ml := by
                        have e1 := HNB.out
                        have e2 := Hml.out
                        rw [hd, List.length_drop] at e2
                        omega
                      subst hnk
                      have hcut := ((hb.below b14).cutTo (i := k) HNB.out (by omega))
                      rw [ht] at hcut
                      have HT := Lib.hid ht
                      clear hok hd ht
                      have p14d : Rdr w14.drew lo1 r1 a.2.1 a.2.2 := p14
                      have q14d : Rdr w14.drew lo2 r2 a.2.1 a.2.2 := q14
                      rw [hq] at p14d q14d
                      have hcutd : Rd w14.drew w.heap.size (.slice Ab k cb) (u8s (numB a.1.1)) := hcut
                      have hsz : w.heap.size ≤ w14.drew.heap.size := b14.size
                      have sl := str_rd hcutd
                      have hvz : -9223372036854775808 ≤ unfoldN a.1.1 ∧ unfoldN a.1.1 ≤ 9223372036854775807 := by have := HU.out; unfold unfoldN; split <;> omega
                      have N := number_n none 0 0 [] a.1.1 w14.drew (Rd.nil _ _) rfl (by omega) HU.out
                      have S := fun W => signed_n none 0 0 [] (unfoldN a.1.1) W (Rd.nil _ _) rfl (by omega) hvz.1 hvz.2
                      rw [fold_unfold] at S
                      simp only [Nat.zero_add, List.nil_append] at N S
                      obtain ⟨U, HUU⟩ : ∃ U, Hid (U = numB a.1.1) := ⟨_, Lib.hid rfl⟩
                      rw [← HUU.out] at N S hcutd sl
                      obtain ⟨ul, Hul⟩ : ∃ ul, Hid (ul = U.length) := ⟨_, Lib.hid rfl⟩
                      rw [← Hul.out] at N S
                      have hkcb : k + ml ≤ cb ∧ cb ≤ 9223372036854775807 := by
                        obtain ⟨A', c', hv, h1, h2⟩ := hb.form
                        have := HNB.out
                        injection hv with _ _ h3
                        unfold maxLen at h2
                        omega
                      obtain ⟨hkc1, hkc2⟩ := hkcb
                      clear E HT hcut p14 q14 hvz
                      have hkI : (k : Int) ≤ (cb : Int) := by omega
                      have hk0 : (0 : Int) ≤ (k : Int) := by omega
                      have hwk : IntKind.i64.wrap (k : Int) = (k : Int) := by rw [IntKind.wrap_i64]; omega
                      have hS0 : (Below w14.drew.heap.size w14.drew w14.drew ∧ (convert 22 9 (.slice Ab k cb)).run Try.prog w14.drew = .ok (.string ⟨U.toArray⟩) w14.drew) := ⟨Below.refl _ _, sl⟩
                      go_region_held3 (fun w' => (Below w14.drew.heap.size w14.drew w' ∧ (convert 22 9 (.slice Ab k cb)).run Try.prog w' = .ok (.string ⟨U.toArray⟩) w')) (assumption) (first
                        | (go_at_call 37; refine (err_read lo1 r1 0 a.2.1 _ (by exact p14d)).mono ?_; rintro e w' ⟨rfl, rfl⟩)
                        | (go_at_call 14; refine N.mono ?_; rintro e w15 ⟨A15, c15, rfl, o15, bb15⟩; have r15 := Rd.of_own o15; have p15 := p14d.below bb15; have q15 := q14d.below bb15; have hc15 := hcutd.below (bb15.mono hsz); have b15 := b14.drew.trans (bb15.mono b14.size)
                           have hS1 : ((Below w14.drew.heap.size w14.drew w15 ∧ (convert 22 9 (.slice Ab k cb)).run Try.prog w15 = .ok (.string ⟨U.toArray⟩) w15) ∧ Below w15.heap.size w15 w15 ∧ (convert 22 9 (.slice A15 ul c15)).run Try.prog w15 = .ok (.string ⟨U.toArray⟩) w15) := ⟨⟨bb15, str_rd hc15⟩, Below.refl _ _, str_rd r15⟩
                           rw [shut_eq (fun w' => ((Below w14.drew.heap.size w14.drew w' ∧ (convert 22 9 (.slice Ab k cb)).run Try.prog w' = .ok (.string ⟨U.toArray⟩) w') ∧ Below w15.heap.size w15 w' ∧ (convert 22 9 (.slice A15 ul c15)).run Try.prog w' = .ok (.string ⟨U.toArray⟩) w')) (fun _ h => h.1) ‹Shut _›] at *)
                        | (go_at_call 35; with_reducible refine (left_read lo1 r1 0 a.2.1 _ (by exact p15)).mono ?_; rintro e w' ⟨rfl, rfl⟩; rw [← Hml.out])
                        | (go_at_call 35; with_reducible refine (left_read lo2 r2 0 a.2.1 _ (by exact q16)).mono ?_; rintro e w' ⟨rfl, rfl⟩; rw [← Hml.out])
                        | (go_at_call 16; refine (S _).mono ?_; rintro e w16 ⟨A16, c16, rfl, o16, bb16⟩; have r16 := Rd.of_own o16; have q16 := q15.below bb16; have b16 := b15.trans (bb16.mono b15.size)
                           have hS2 : (((Below w14.drew.heap.size w14.drew w16 ∧ (convert 22 9 (.slice Ab k cb)).run Try.prog w16 = .ok (.string ⟨U.toArray⟩) w16) ∧ Below w15.heap.size w15 w16 ∧ (convert 22 9 (.slice A15 ul c15)).run Try.prog w16 = .ok (.string ⟨U.toArray⟩) w16) ∧ (convert 22 9 (.slice A16 ul c16)).run Try.prog w16 = .ok (.string ⟨U.toArray⟩) w16) := ⟨⟨⟨bb15.trans (bb16.mono bb15.size), str_rd (hc15.below (bb16.mono (Nat.le_trans hsz bb15.size)))⟩, bb16, str_rd (r15.below bb16)⟩, str_rd r16⟩
                           rw [shut_eq (fun w' => (((Below w14.drew.heap.size w14.drew w' ∧ (convert 22 9 (.slice Ab k cb)).run Try.prog w' = .ok (.string ⟨U.toArray⟩) w') ∧ Below w15.heap.size w15 w' ∧ (convert 22 9 (.slice A15 ul c15)).run Try.prog w' = .ok (.string ⟨U.toArray⟩) w') ∧ (convert 22 9 (.slice A16 ul c16)).run Try.prog w' = .ok (.string ⟨U.toArray⟩) w')) (fun _ h => h.1) ‹Shut _›] at *))
                      go_wp2_with fail
                      go_meet
                      exact ⟨rfl, b16⟩
                    · have hqB : ((a.2.2 : Int) == 0) = false := by simp; omega
                      clear hok
                      have E := fun n => err_read lo1 r1 a.2.2 a.2.1 (w14.drewN n) p14
                      go_quiet ((go_at_call 37; exact quiet_left' (E _)))
                      go_wp2_with fail
                      go_meet
                      exact ⟨rfl, below_drewN b14 _⟩
                  case rest =>
                    obtain ⟨rfl, bt⟩ := hcut
                    clear q14 p14 b14 hok HU
                    obtain ⟨i0, hi, hy0, hy1, hy2⟩ := info_parts info_u8
                    have hbt := hb.below bt
                    have O1 := own_any Ab cb lb nb wc (hbt.more bt.size) (by omega) HNB.out
                    go_wp2_with fail
                    refine O1.mono ?_
                    rintro e w31 ⟨A31, c31, rfl, o31, bb31⟩
                    have b31 := bt.trans (bb31.mono bt.size)
                    have F := frame_any A31 c31 lb nb w31 (Rd.of_own o31) HNB.out (by omega)
                    clear O1 o31 bb31 hbt
                    go_wp2_with fail
                    refine F.mono ?_
                    rintro e w32 ⟨Af, cf, mf, hmf, rfl, of, bb32⟩
                    have b32 := b31.trans (bb32.mono b31.size)
                    rw [frameB_length, ← HNB.out] at hmf
                    obtain ⟨gf, rfl⟩ : ∃ g, Af = some ⟨g, 0, none⟩ := by
                      rcases of.2 with ⟨h, h0⟩ | ⟨g, cap, cur, h, _⟩
                      · omega
                      · injection h with h1 _ _
                        exact ⟨g, h1⟩
                    have of0 := own_base of b31.size
                    have m8 : (8 : Int) ≤ (mf : Int) := by omega
                    have m5 : (mf : Int) ≤ 5008 := by omega
                    have HMF := Lib.hid hmf
                    have O2 := own_any (some ⟨gf, 0, none⟩) cf (frameB lb) mf w32 (Rd.of_own of) (by omega) (by rw [HMF.out, frameB_length, HNB.out])
                    clear F bb32 hmf b31 bt of
                    go_wp2_with fail
                    refine O2.mono ?_
                    rintro e w33 ⟨A33, c33, rfl, o33, bb33⟩
                    have b33 := b32.trans (bb33.mono b32.size)
                    have o33a := own_below o33 ((Below.refl _ _).alloc (Nat.le_refl _) (.cells #[.int .u8 7] 5))
                    have b33a := bb33.alloc bb33.size (.cells #[.int .u8 7] 5)
                    have hnew := rd_one (w := w33) (z := 7) (b := 7) rfl
                    have hm1 : mf + (u8s [7]).length ≤ maxLen := by simp [u8s, maxLen]; omega
                    have hm2 : (mf + (u8s [7]).length) * 1 ≤ 140737488355328 := by simp [u8s]; omega
                    clear O2 o33 bb33
                    go_wp2_with (first | (at_builtin; refine wpList_app_rd _ rfl (.tmp 189) (.tmp 190) 22 rfl w32.heap.size 5 i0 _ 1 Try.underlying22 hi hy0 hy1 hy2 rfl _ mf _ rfl o33a (w33.heap.size + 1) _ _ rfl hnew (u8s_one _) hm1 hm2 b33a.size ?_; intro v35 w35 o35 hg35; obtain ⟨A35, c35, rfl⟩ := own_form o35))
                    have bb35 := below_app o33a b33a b33a.size hg35
                    have b35 := b32.trans (bb35.mono b32.size)
                    have of35 := own_below of0 bb35
                    rw [← u8s_append] at o35
                    have U := unframe_any A35 c35 (mf + (u8s [7]).length) (frameB lb ++ [7]) w35 (Rd.of_own o35) (by rw [List.length_append, frameB_length, HMF.out, HNB.out]; rfl) (by simp [u8s]; omega)
                    have hlb : lb.length ≤ 5000 := by rw [← HNB.out]; omega
                    rw [frame_back lb [7] (by omega)] at U
                    have hm36 : 8 + lb.length = mf := by rw [HMF.out, HNB.out]
                    rw [hm36] at U
                    have HLB := Lib.hid hlb
                    have HM36 := Lib.hid hm36
                    clear o33a b33a hnew hm1 hm2 hg35 bb35 b33 o35 of0 b32 hlb hm36
                    refine U.mono ?_
                    rintro e w36 ⟨A36, c36, n36, hn36, rfl, o36, bb36⟩
                    obtain rfl : n36 = lb.length := hn36
                    have b36 := b35.trans (bb36.mono b35.size)
                    have of36 := own_below of35 bb36
                    have s36 := str_rd (Rd.of_own o36)
                    have sb36 := str_rd (hb.below b36)
                    have hfl : mf = (frameB lb).length := by rw [frameB_length, HM36.out]
                    have hgf := (of36.lt gf rfl).1
                    have hmp : (1 : Int) ≤ 8 * ((mf : Int) - 4) := by omega
                    have hmq : 8 * ((mf : Int) - 4) ≤ 9223372036854775807 := by omega
                    have PX := pick_any x (8 * ((mf : Int) - 4)) w36 px1 px2 hmp hmq
                    have PY := pick_any y (8 * ((mf : Int) - 4)) w36 py1 py2 hmp hmq
                    have PZ := pick_any z (8 * ((mf : Int) - 4)) w36 pz1 pz2 hmp hmq
                    have rem : ∀ u : Int, ∃ j : Nat, u % (8 * ((mf : Int) - 4)) = (j : Int) ∧ j < 8 * (mf - 4) := fun u => by
                      have a1 := Int.emod_nonneg u (show 8 * ((mf : Int) - 4) ≠ 0 by omega)
                      have a2 := Int.emod_lt_of_pos u (show 0 < 8 * ((mf : Int) - 4) by omega)
                      exact ⟨(u % (8 * ((mf : Int) - 4))).toNat, by omega, by omega⟩
                    obtain ⟨ix, ex, hix⟩ := rem x
                    obtain ⟨iy, ey, hiy⟩ := rem y
                    obtain ⟨iz, ez, hiz⟩ := rem z
                    rw [ex] at PX
                    rw [ey] at PY
                    rw [ez] at PZ
                    have TB : unR (if iz ≠ ix ∧ iz ≠ iy then flip (if iy ≠ ix then flip (flip (frameB lb) ix) iy else flip (frameB lb) ix) iz else (if iy ≠ ix then flip (flip (frameB lb) ix) iy else flip (frameB lb) ix)) = ([], 0, 4) := turned_bad lb ix iy iz HLB.out (by rw [← hfl]; exact hix) (by rw [← hfl]; exact hiy) (by rw [← hfl]; exact hiz)
                    have HFL := Lib.hid hfl
                    clear rem ex ey ez hfl hmp hmq
                    by_cases hyx : iy = ix
                    · subst hyx
                      by_cases hzx : iz = iy
                      · subst hzx
                        rw [if_neg (by simp), if_neg (by simp)] at TB
                        have HTB := Lib.hid TB
                        clear TB
                        go_wp2_with fail
                        refine PX.mono ?_
                        rintro e w' ⟨rfl, rfl⟩
                        go_wp2_with fail
                        refine PY.mono ?_
                        rintro e w' ⟨rfl, rfl⟩
                        go_wp2_with fail
                        refine PZ.mono ?_
                        rintro e w' ⟨rfl, rfl⟩
                        go_wp2_with fail
                        refine (turn_any w.heap.size gf mf cf iz (frameB lb) w36 of36 HFL.out hiz (by omega)).mono ?_
                        rintro e w37 ⟨⟨vw37, rfl⟩, ow37, gw37⟩
                        have bw37 := b36.grown gw37 b36.size (by intro j hj; injection hj; omega)
                        have U3 := unframe_any (some ⟨gf, 0, none⟩) cf mf (flip (frameB lb) iz) w37 (Rd.of_own ow37) (by rw [flip_length]; exact HFL.out) (by omega)
                        rw [HTB.out] at U3
                        go_wp2_with fail
                        refine U3.mono ?_
                        rintro e w40 ⟨A40, c40, n40, hn40, rfl, o40, bb40⟩
                        clear hn40
                        go_wp2_with fail
                        go_ret
                        exact ⟨rfl, bw37.trans (bb40.mono bw37.size)⟩
                      · have hB1 : ((iz : Int) != (iy : Int)) = true := by simp; omega
                        rw [if_pos ⟨hzx, hzx⟩, if_neg (by simp)] at TB
                        have HTB := Lib.hid TB
                        clear TB
                        go_wp2_with fail
                        refine PX.mono ?_
                        rintro e w' ⟨rfl, rfl⟩
                        go_wp2_with fail
                        refine PY.mono ?_
                        rintro e w' ⟨rfl, rfl⟩
                        go_wp2_with fail
                        refine PZ.mono ?_
                        rintro e w' ⟨rfl, rfl⟩
                        go_wp2_with fail
                        refine (turn_any w.heap.size gf mf cf iy (frameB lb) w36 of36 HFL.out hiy (by omega)).mono ?_
                        rintro e w37 ⟨⟨vw37, rfl⟩, ow37, gw37⟩
                        have bw37 := b36.grown gw37 b36.size (by intro j hj; injection hj; omega)
                        go_wp2_with fail
                        refine (turn_any w.heap.size gf mf cf iz (flip (frameB lb) iy) w37 ow37 (by rw [flip_length]; exact HFL.out) hiz (by omega)).mono ?_
                        rintro e w38 ⟨⟨vw38, rfl⟩, ow38, gw38⟩
                        have bw38 := bw37.grown gw38 bw37.size (by intro j hj; injection hj; omega)
                        have U3 := unframe_any (some ⟨gf, 0, none⟩) cf mf (flip (flip (frameB lb) iy) iz) w38 (Rd.of_own ow38) (by rw [flip_length, flip_length]; exact HFL.out) (by omega)
                        rw [HTB.out] at U3
                        go_wp2_with fail
                        refine U3.mono ?_
                        rintro e w40 ⟨A40, c40, n40, hn40, rfl, o40, bb40⟩
                        clear hn40
                        go_wp2_with fail
                        go_ret
                        exact ⟨rfl, bw38.trans (bb40.mono bw38.size)⟩
                    · have hB0 : ((iy : Int) != (ix : Int)) = true := by simp; omega
                      by_cases hzx : iz = ix
                      · subst hzx
                        rw [if_neg (by simp), if_pos hyx] at TB
                        have HTB := Lib.hid TB
                        clear TB
                        go_wp2_with fail
                        refine PX.mono ?_
                        rintro e w' ⟨rfl, rfl⟩
                        go_wp2_with fail
                        refine PY.mono ?_
                        rintro e w' ⟨rfl, rfl⟩
                        go_wp2_with fail
                        refine PZ.mono ?_
                        rintro e w' ⟨rfl, rfl⟩
                        go_wp2_with fail
                        refine (turn_any w.heap.size gf mf cf iz (frameB lb) w36 of36 HFL.out hiz (by omega)).mono ?_
                        rintro e w37 ⟨⟨vw37, rfl⟩, ow37, gw37⟩
                        have bw37 := b36.grown gw37 b36.size (by intro j hj; injection hj; omega)
                        go_wp2_with fail
                        refine (turn_any w.heap.size gf mf cf iy (flip (frameB lb) iz) w37 ow37 (by rw [flip_length]; exact HFL.out) hiy (by omega)).mono ?_
                        rintro e w38 ⟨⟨vw38, rfl⟩, ow38, gw38⟩
                        have bw38 := bw37.grown gw38 bw37.size (by intro j hj; injection hj; omega)
                        have U3 := unframe_any (some ⟨gf, 0, none⟩) cf mf (flip (flip (frameB lb) iz) iy) w38 (Rd.of_own ow38) (by rw [flip_length, flip_length]; exact HFL.out) (by omega)
                        rw [HTB.out] at U3
                        go_wp2_with fail
                        refine U3.mono ?_
                        rintro e w40 ⟨A40, c40, n40, hn40, rfl, o40, bb40⟩
                        clear hn40
                        go_wp2_with fail
                        go_ret
                        exact ⟨rfl, bw38.trans (bb40.mono bw38.size)⟩
                      · by_cases hzy : iz = iy
                        · subst hzy
                          rw [if_neg (by simp), if_pos hyx] at TB
                          have HTB := Lib.hid TB
                          clear TB
                          go_wp2_with fail
                          refine PX.mono ?_
                          rintro e w' ⟨rfl, rfl⟩
                          go_wp2_with fail
                          refine PY.mono ?_
                          rintro e w' ⟨rfl, rfl⟩
                          go_wp2_with fail
                          refine PZ.mono ?_
                          rintro e w' ⟨rfl, rfl⟩
                          go_wp2_with fail
                          refine (turn_any w.heap.size gf mf cf ix (frameB lb) w36 of36 HFL.out hix (by omega)).mono ?_
                          rintro e w37 ⟨⟨vw37, rfl⟩, ow37, gw37⟩
                          have bw37 := b36.grown gw37 b36.size (by intro j hj; injection hj; omega)
                          go_wp2_with fail
                          refine (turn_any w.heap.size gf mf cf iz (flip (frameB lb) ix) w37 ow37 (by rw [flip_length]; exact HFL.out) hiz (by omega)).mono ?_
                          rintro e w38 ⟨⟨vw38, rfl⟩, ow38, gw38⟩
                          have bw38 := bw37.grown gw38 bw37.size (by intro j hj; injection hj; omega)
                          have U3 := unframe_any (some ⟨gf, 0, none⟩) cf mf (flip (flip (frameB lb) ix) iz) w38 (Rd.of_own ow38) (by rw [flip_length, flip_length]; exact HFL.out) (by omega)
                          rw [HTB.out] at U3
                          go_wp2_with fail
                          refine U3.mono ?_
                          rintro e w40 ⟨A40, c40, n40, hn40, rfl, o40, bb40⟩
                          clear hn40
                          go_wp2_with fail
                          go_ret
                          exact ⟨rfl, bw38.trans (bb40.mono bw38.size)⟩
                        · have hB1 : ((iz : Int) != (ix : Int)) = true := by simp; omega
                          have hB2 : ((iz : Int) != (iy : Int)) = true := by simp; omega
                          rw [if_pos ⟨hzx, hzy⟩, if_pos hyx] at TB
                          have HTB := Lib.hid TB
                          clear TB
                          go_wp2_with fail
                          refine PX.mono ?_
                          rintro e w' ⟨rfl, rfl⟩
                          go_wp2_with fail
                          refine PY.mono ?_
                          rintro e w' ⟨rfl, rfl⟩
                          go_wp2_with fail
                          refine PZ.mono ?_
                          rintro e w' ⟨rfl, rfl⟩
                          go_wp2_with fail
                          refine (turn_any w.heap.size gf mf cf ix (frameB lb) w36 of36 HFL.out hix (by omega)).mono ?_
                          rintro e w37 ⟨⟨vw37, rfl⟩, ow37, gw37⟩
                          have bw37 := b36.grown gw37 b36.size (by intro j hj; injection hj; omega)
                          go_wp2_with fail
                          refine (turn_any w.heap.size gf mf cf iy (flip (frameB lb) ix) w37 ow37 (by rw [flip_length]; exact HFL.out) hiy (by omega)).mono ?_
                          rintro e w38 ⟨⟨vw38, rfl⟩, ow38, gw38⟩
                          have bw38 := bw37.grown gw38 bw37.size (by intro j hj; injection hj; omega)
                          go_wp2_with fail
                          refine (turn_any w.heap.size gf mf cf iz (flip (flip (frameB lb) ix) iy) w38 ow38 (by rw [flip_length, flip_length]; exact HFL.out) hiz (by omega)).mono ?_
                          rintro e w39 ⟨⟨vw39, rfl⟩, ow39, gw39⟩
                          have bw39 := bw38.grown gw39 bw38.size (by intro j hj; injection hj; omega)
                          have U3 := unframe_any (some ⟨gf, 0, none⟩) cf mf (flip (flip (flip (frameB lb) ix) iy) iz) w39 (Rd.of_own ow39) (by rw [flip_length, flip_length, flip_length]; exact HFL.out) (by omega)
                          rw [HTB.out] at U3
                          go_wp2_with fail
                          refine U3.mono ?_
                          rintro e w40 ⟨A40, c40, n40, hn40, rfl, o40, bb40⟩
                          clear hn40
                          go_wp2_with fail
                          go_ret
                          exact ⟨rfl, bw39.trans (bb40.mono bw39.size)⟩
end Go.Proofs.Ytbllafhfofnijaa.wireBack
