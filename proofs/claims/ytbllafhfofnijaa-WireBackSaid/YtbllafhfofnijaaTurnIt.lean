/- waterwheellaw01.turn: one bit of a row of the call's own is turned. -/
import Derived.Test.YtbllafhfofnijaaSyn
namespace Go.Proofs.Ytbllafhfofnijaa
open Go.RowKit

theorem wrap_pow : ∀ j : Fin 8, (2 : Int) ^ j.val % 256 = ((2 ^ j.val : Nat) : Int) := by decide

theorem turn_xor (c : UInt8) (j : Nat) (hj : j < 8) : bits .xor .u8 (c.toNat : Int) ((2 : Int) ^ j % 256) = ((turnB c j).toNat : Int) := by
  have hc := c.toNat_lt
  have hp : 2 ^ j < 2 ^ 8 := Nat.pow_lt_pow_right (by omega) hj
  have e : (2 : Int) ^ j % 256 = ((2 ^ j : Nat) : Int) := wrap_pow ⟨j, hj⟩
  rw [e, turnB_toNat c j hj, u8_xor_nat _ _ (by omega) (by omega)]

theorem turn_any (B g n c i : Nat) (f : List UInt8) (w : World) (ho : w.ownsRow B 5 1 (.slice (some ⟨g, 0, none⟩) n c) n (u8s f)) (hn : n = f.length) (hi : i < 8 * (n - 4)) (hl : n ≤ 100000) :
    Calls Try.prog 40 #[.slice (some ⟨g, 0, none⟩) n c, .int .i64 (i : Int)] w fun e w' => (∃ v, e = .returned v) ∧ w'.ownsRow B 5 1 (.slice (some ⟨g, 0, none⟩) n c) n (u8s (flip f i)) ∧ w.grownBy w' (some g) := by
  have hp : 4 + i / 8 < f.length := by omega
  have hcell := ho.cellAt (4 + i / 8) (by omega)
  rw [u8s_get _ _ hp] at hcell
  have hfr := ho.frozenAt (4 + i / 8)
  have hst := ho.stored (4 + i / 8) (.int .u8 ((turnB f[4 + i / 8] (i % 8)).toNat : Int))
  have hx := turn_xor f[4 + i / 8] (i % 8) (by omega)
  have hset : (u8s f).set (4 + i / 8) (.int .u8 ((turnB f[4 + i / 8] (i % 8)).toNat : Int)) = u8s (flip f i) := by
    unfold u8s flip
    rw [List.map_set]
    simp [List.getD, List.getElem?_eq_getElem hp]
  generalize (turnB f[4 + i / 8] (i % 8)).toNat = nv at hst hx hset
  rw [hset] at hst
  have HST := Lib.hid hst
  generalize f[4 + i / 8].toNat = cb at hcell hx
  have hd : i / 8 < n - 4 := by omega
  clear hst hset hn hp ho
  go_enter Try.func40, Try.ntmps40
  go_wp2
  go_end0
  exact ⟨⟨_, rfl⟩, HST.out⟩
end Go.Proofs.Ytbllafhfofnijaa
