import Derived.Test.YtaepplhgeeaidaaDoorLxT
import Derived.Test.YtaepplhgeeaidaaDoorChecked
import Derived.Test.YtaepplhgeeaidaaDoorEvRx
import Derived.Test.YtaepplhgeeaidaaDoorEvFl
set_option linter.unusedVariables false
set_option maxRecDepth 100000
namespace Go.Proofs.YtaepplhgeeaidaaDoor
open Go Go.RowKit Ev
def lxTab0 : List (Nat × Value) := [(0, .int .u8 (0)), (1, .int .u8 (1)), (2, .int .u8 (28)), (3, .int .u8 (2)), (4, .int .u8 (29)), (5, .int .u8 (14)), (6, .int .u8 (24)), (7, .int .u8 (3)), (8, .int .u8 (30)), (9, .int .u8 (22)), (10, .int .u8 (20)), (11, .int .u8 (15)), (12, .int .u8 (25)), (13, .int .u8 (17)), (14, .int .u8 (4)), (15, .int .u8 (8)), (16, .int .u8 (31)), (17, .int .u8 (27)), (18, .int .u8 (13)), (19, .int .u8 (23)), (20, .int .u8 (21)), (21, .int .u8 (19)), (22, .int .u8 (16)), (23, .int .u8 (7)), (24, .int .u8 (26)), (25, .int .u8 (12)), (26, .int .u8 (18)), (27, .int .u8 (6)), (28, .int .u8 (11)), (29, .int .u8 (5)), (30, .int .u8 (10)), (31, .int .u8 (9))]
def lxTab1 : List (Nat × Value) := [(0, .int .u8 (0)), (1, .int .u8 (1)), (2, .int .u8 (56)), (3, .int .u8 (2)), (4, .int .u8 (57)), (5, .int .u8 (49)), (6, .int .u8 (28)), (7, .int .u8 (3)), (8, .int .u8 (61)), (9, .int .u8 (58)), (10, .int .u8 (42)), (11, .int .u8 (50)), (12, .int .u8 (38)), (13, .int .u8 (29)), (14, .int .u8 (17)), (15, .int .u8 (4)), (16, .int .u8 (62)), (17, .int .u8 (47)), (18, .int .u8 (59)), (19, .int .u8 (36)), (20, .int .u8 (45)), (21, .int .u8 (43)), (22, .int .u8 (51)), (23, .int .u8 (22)), (24, .int .u8 (53)), (25, .int .u8 (39)), (26, .int .u8 (33)), (27, .int .u8 (30)), (28, .int .u8 (24)), (29, .int .u8 (18)), (30, .int .u8 (12)), (31, .int .u8 (5)), (32, .int .u8 (63)), (33, .int .u8 (55)), (34, .int .u8 (48)), (35, .int .u8 (27)), (36, .int .u8 (60)), (37, .int .u8 (41)), (38, .int .u8 (37)), (39, .int .u8 (16)), (40, .int .u8 (46)), (41, .int .u8 (35)), (42, .int .u8 (44)), (43, .int .u8 (21)), (44, .int .u8 (52)), (45, .int .u8 (32)), (46, .int .u8 (23)), (47, .int .u8 (11)), (48, .int .u8 (54)), (49, .int .u8 (26)), (50, .int .u8 (40)), (51, .int .u8 (15)), (52, .int .u8 (34)), (53, .int .u8 (20)), (54, .int .u8 (31)), (55, .int .u8 (10)), (56, .int .u8 (25)), (57, .int .u8 (14)), (58, .int .u8 (19)), (59, .int .u8 (9)), (60, .int .u8 (13)), (61, .int .u8 (8)), (62, .int .u8 (7)), (63, .int .u8 (6))]
def lxTab2 : List (Nat × Value) := [(0, .int .u64 (1)), (1, .int .u64 (10)), (2, .int .u64 (100)), (3, .int .u64 (1000)), (4, .int .u64 (10000)), (5, .int .u64 (100000)), (6, .int .u64 (1000000)), (7, .int .u64 (10000000)), (8, .int .u64 (100000000)), (9, .int .u64 (1000000000)), (10, .int .u64 (10000000000)), (11, .int .u64 (100000000000)), (12, .int .u64 (1000000000000)), (13, .int .u64 (10000000000000)), (14, .int .u64 (100000000000000)), (15, .int .u64 (1000000000000000)), (16, .int .u64 (10000000000000000)), (17, .int .u64 (100000000000000000)), (18, .int .u64 (1000000000000000000)), (19, .int .u64 (10000000000000000000)), (20, .tuple ⟨[.bool true, .bool true]⟩)]
noncomputable def lxTabs : List (Nat × Tr Value) := [(4, Tr.putSome lxTab0), (5, Tr.putSome lxTab1), (0, Tr.putSome lxTab2), (1, someInt), (2, someIface), (3, someIface)]
noncomputable def naOrc (q : List (Value × Bool)) : List (FuncId × OrcF) := []
def naargs : List ArgT := [(9, none)]
noncomputable def napls : List Asrt := [{ G := ⟨Tr.putList (symIns Tryd.prog naargs 0) .nil 0, []⟩, Gh := ⟨.nil, 100, 100⟩, fs := factsIn Tryd.prog naargs 0, B := 1 }
  , { G := ⟨(Tr.putSome [(0, (unk 2 0))]), []⟩, Gh := ⟨obsTr [], 100, 100⟩, fs := factsIn Tryd.prog naargs 0, B := 1 }
  , { G := ⟨(Tr.putSome [(0, (unk 2 0))]), []⟩, Gh := ⟨obsTr [], 100, 100⟩, fs := factsIn Tryd.prog naargs 0, B := 1 }
  , { G := ⟨(Tr.putSome [(0, (unk 2 0)), (18, (sy 6 5 [(unk 2 0)])), (19, (unk 6 1))]), []⟩, Gh := ⟨obsTr [], 100, 100⟩, fs := factsIn Tryd.prog naargs 0, B := 1 }
  , { G := ⟨(Tr.putSome []), []⟩, Gh := ⟨obsTr [], 100, 100⟩, fs := factsIn Tryd.prog naargs 0, B := 1 }
  ]
def naplan : TP := (.seq .run [1] (.seq .run [2] (.seq (.seq .run [3] (.block (.loop [3] .run))) [4] .run)))
theorem na_checked : chkF Tryd.prog [] [] [] naOrc lxU 100000 60 50 naargs napls natab naplan = true := by decide +kernel
theorem na_flat : aggFlat Tryd.prog naargs = true := by decide +kernel
noncomputable def rdOrc (q : List (Value × Bool)) : List (FuncId × OrcF) := []
def rdargs : List ArgT := [(9, none), (49, some (.func (.func 29) ⟨[]⟩ ⟨[]⟩))]
noncomputable def rdpls : List Asrt := [{ G := ⟨Tr.putList (symIns Tryd.prog rdargs 0) .nil 0, []⟩, Gh := ⟨.nil, 100, 100⟩, fs := factsIn Tryd.prog rdargs 0, B := 1 }
  , { G := ⟨(Tr.putSome [(0, (unk 2 0)), (1, (.func (.func 29) ⟨[]⟩ ⟨[]⟩))]), []⟩, Gh := ⟨obsTr [], 100, 100⟩, fs := factsIn Tryd.prog rdargs 0, B := 1 }
  , { G := ⟨(Tr.putSome [(0, (unk 2 0)), (1, (.func (.func 29) ⟨[]⟩ ⟨[]⟩)), (5, (unk 6 1))]), []⟩, Gh := ⟨obsTr [], 100, 100⟩, fs := factsIn Tryd.prog rdargs 0, B := 1 }
  , { G := ⟨(Tr.putSome [(5, (unk 6 1))]), []⟩, Gh := ⟨obsTr [], 100, 100⟩, fs := factsIn Tryd.prog rdargs 0, B := 1 }
  ]
def rdplan : TP := (.seq .run [1] (.seq .run [2] (.seq (.block (.loop [2] .run)) [3] .run)))
theorem rd_checked : chkF Tryd.prog [] [] [] rdOrc lxU 100000 60 38 rdargs rdpls rdtab rdplan = true := by decide +kernel
theorem rd_flat : aggFlat Tryd.prog rdargs = true := by decide +kernel
noncomputable def rwOrc (q : List (Value × Bool)) : List (FuncId × OrcF) := []
def rwargs : List ArgT := [(9, none), (49, some (.func (.func 39) ⟨[]⟩ ⟨[]⟩))]
noncomputable def rwpls : List Asrt := [{ G := ⟨Tr.putList (symIns Tryd.prog rwargs 0) .nil 0, []⟩, Gh := ⟨.nil, 100, 100⟩, fs := factsIn Tryd.prog rwargs 0, B := 1 }
  , { G := ⟨(Tr.putSome [(0, (unk 2 0)), (1, (.func (.func 39) ⟨[]⟩ ⟨[]⟩))]), []⟩, Gh := ⟨obsTr [], 100, 100⟩, fs := factsIn Tryd.prog rwargs 0, B := 1 }
  , { G := ⟨(Tr.putSome [(0, (unk 2 0)), (1, (.func (.func 39) ⟨[]⟩ ⟨[]⟩)), (5, (unk 6 1))]), []⟩, Gh := ⟨obsTr [], 100, 100⟩, fs := factsIn Tryd.prog rwargs 0, B := 1 }
  , { G := ⟨(Tr.putSome [(5, (unk 6 1))]), []⟩, Gh := ⟨obsTr [], 100, 100⟩, fs := factsIn Tryd.prog rwargs 0, B := 1 }
  ]
def rwplan : TP := (.seq .run [1] (.seq .run [2] (.seq (.block (.loop [2] .run)) [3] .run)))
theorem rw_checked : chkF Tryd.prog [] [] [] rwOrc lxU 100000 60 38 rwargs rwpls rwtab rwplan = true := by decide +kernel
theorem rw_flat : aggFlat Tryd.prog rwargs = true := by decide +kernel
noncomputable def skOrc (q : List (Value × Bool)) : List (FuncId × OrcF) := []
def skargs : List ArgT := [(9, none)]
noncomputable def skpls : List Asrt := [{ G := ⟨Tr.putList (symIns Tryd.prog skargs 0) .nil 0, []⟩, Gh := ⟨.nil, 100, 100⟩, fs := factsIn Tryd.prog skargs 0, B := 1 }
  , { G := ⟨(Tr.putSome [(0, (unk 2 0))]), []⟩, Gh := ⟨obsTr [], 100, 100⟩, fs := factsIn Tryd.prog skargs 0, B := 1 }
  , { G := ⟨(Tr.putSome [(0, (unk 2 0)), (3, (.int .i64 (.ofNat 0)))]), []⟩, Gh := ⟨obsTr [], 100, 100⟩, fs := factsIn Tryd.prog skargs 0, B := 1 }
  , { G := ⟨(Tr.putSome [(0, (unk 2 0)), (3, (unk 6 1))]), []⟩, Gh := ⟨obsTr [], 100, 100⟩, fs := factsIn Tryd.prog skargs 0, B := 1 }
  , { G := ⟨(Tr.putSome [(0, (unk 2 0)), (3, (unk 6 1))]), []⟩, Gh := ⟨obsTr [], 100, 100⟩, fs := factsIn Tryd.prog skargs 0, B := 1 }
  , { G := ⟨(Tr.putSome [(3, (unk 6 1))]), []⟩, Gh := ⟨obsTr [], 100, 100⟩, fs := factsIn Tryd.prog skargs 0, B := 1 }
  , { G := ⟨(Tr.putSome [(0, (unk 2 0)), (3, (unk 6 1)), (8, (unk 1 2))]), []⟩, Gh := ⟨obsTr [], 100, 100⟩, fs := factsIn Tryd.prog skargs 0, B := 1 }
  , { G := ⟨(Tr.putSome [(0, (unk 2 0)), (3, (unk 6 1))]), []⟩, Gh := ⟨obsTr [], 100, 100⟩, fs := factsIn Tryd.prog skargs 0, B := 1 }
  , { G := ⟨(Tr.putSome [(0, (unk 2 0)), (3, (unk 6 1))]), []⟩, Gh := ⟨obsTr [], 100, 100⟩, fs := factsIn Tryd.prog skargs 0, B := 1 }
  ]
def skplan : TP := (.seq .run [1] (.scope (.seq .run [2] (.seq .run [3] (.seq (.block (.loop [3] (.seq .run [4] (.block (.block (.seq .run [6] (.cond [7] (.block (.loop [7] .run)) [8] .run))))))) [5] .run)))))
theorem sk_checked : chkF Tryd.prog [] [] [] skOrc lxU 100000 60 17 skargs skpls sktab skplan = true := by decide +kernel
theorem sk_flat : aggFlat Tryd.prog skargs = true := by decide +kernel
noncomputable def ueOrc (q : List (Value × Bool)) : List (FuncId × OrcF) := [(32, (fnO Tryd.prog [(9, none), (5, none)] [([6], false)] 3 q))]
def ueargs : List ArgT := [(9, none)]
noncomputable def uepls : List Asrt := [{ G := ⟨Tr.putList (symIns Tryd.prog ueargs 0) .nil 0, []⟩, Gh := ⟨.nil, 100, 100⟩, fs := factsIn Tryd.prog ueargs 0, B := 1 }
  ]
def ueplan : TP := .run
theorem ue_checked : chkF Tryd.prog [] [] [] ueOrc lxU 100000 60 23 ueargs uepls uetab ueplan = true := by decide +kernel
theorem ue_flat : aggFlat Tryd.prog ueargs = true := by decide +kernel
noncomputable def uqOrc (q : List (Value × Bool)) : List (FuncId × OrcF) := [(23, (fnO Tryd.prog [(9, none)] [([7], false), ([6], false)] 5 q))]
def uqargs : List ArgT := [(9, none)]
noncomputable def uqpls : List Asrt := [{ G := ⟨Tr.putList (symIns Tryd.prog uqargs 0) .nil 0, []⟩, Gh := ⟨.nil, 100, 100⟩, fs := factsIn Tryd.prog uqargs 0, B := 1 }
  , { G := ⟨(Tr.putSome [(0, (unk 2 0))]), []⟩, Gh := ⟨obsTr [], 100, 100⟩, fs := factsIn Tryd.prog uqargs 0, B := 1 }
  , { G := ⟨(Tr.putSome [(0, (unk 2 0))]), []⟩, Gh := ⟨obsTr [], 100, 100⟩, fs := factsIn Tryd.prog uqargs 0, B := 1 }
  , { G := ⟨(Tr.putSome [(0, (unk 2 0)), (4, (.slice none 0 0))]), []⟩, Gh := ⟨obsTr [], 100, 100⟩, fs := factsIn Tryd.prog uqargs 0, B := 1 }
  , { G := ⟨(Tr.putSome [(0, (unk 2 0)), (4, (.slice none 0 0)), (5, (.int .i64 (.ofNat 1)))]), []⟩, Gh := ⟨obsTr [], 100, 100⟩, fs := factsIn Tryd.prog uqargs 0, B := 1 }
  , { G := ⟨(Tr.putSome [(0, (unk 2 0)), (4, (.slice none 0 0)), (5, (unk 6 1))]), []⟩, Gh := ⟨obsTr [], 100, 100⟩, fs := factsIn Tryd.prog uqargs 0, B := 1 }
  , { G := ⟨(Tr.putSome []), []⟩, Gh := ⟨obsTr [], 100, 100⟩, fs := factsIn Tryd.prog uqargs 0, B := 1 }
  , { G := ⟨(Tr.putSome [(0, (unk 2 0)), (4, (.func (.yield 100) ⟨[(unk 6 1)]⟩ ⟨[]⟩)), (5, (unk 6 2))]), []⟩, Gh := ⟨obsTr [(100, (.seq (unk 20 3) (unk 6 1) [7] 5))], 101, 101⟩, fs := factsIn Tryd.prog uqargs 0, B := 1 }
  ]
def uqplan : TP := (.seq .run [1] (.scope (.seq .run [2] (.seq .run [3] (.seq .run [4] (.seq .run [5, 7] (.seq (.block (.loop [5, 7] .run)) [6] .run)))))))
theorem uq_checked : chkF Tryd.prog [] [] [] uqOrc lxU 100000 60 12 uqargs uqpls uqtab uqplan = true := by decide +kernel
theorem uq_flat : aggFlat Tryd.prog uqargs = true := by decide +kernel
noncomputable def mnOrc (q : List (Value × Bool)) : List (FuncId × OrcF) := [(33, (fnOL Tryd.prog [(9, none), (9, none)] [0] [([1], false)] 27 q))]
def mnargs : List ArgT := [(26, none)]
noncomputable def mnpls : List Asrt := [{ G := ⟨Tr.putList (symIns Tryd.prog mnargs 0) .nil 0, []⟩, Gh := ⟨.nil, 100, 100⟩, fs := factsIn Tryd.prog mnargs 0, B := 1 }
  ]
def mnplan : TP := .run
theorem mn_checked : chkF Tryd.prog [] [] lxTabs mnOrc lxU 100000 60 19 mnargs mnpls mntab mnplan = true := by decide +kernel
theorem mn_flat : aggFlat Tryd.prog mnargs = true := by decide +kernel
noncomputable def ftOrc (q : List (Value × Bool)) : List (FuncId × OrcF) := [(50, (fnO Tryd.prog [(9, none)] [([1], false)] 0 q)), (38, (fnO Tryd.prog [(9, none), (49, some (.func (.func 39) ⟨[]⟩ ⟨[]⟩))] [([6], false)] 2 q)), (32, (fnO Tryd.prog [(9, none), (5, none)] [([6], false)] 3 q)), (12, (fnO Tryd.prog [(9, none)] [([2], false), ([6], false)] 7 q)), (31, (fnOL Tryd.prog [(9, none)] [0, 1000] [([6, 2, 6, 6], true), ([6], false)] 9 q)), (51, (fnOL Tryd.prog [(9, none)] [0] [([2], false)] 26 q))]
def ftargs : List ArgT := [(9, none), (4, none)]
noncomputable def ftpls : List Asrt := [{ G := ⟨Tr.putList (symIns Tryd.prog ftargs 0) .nil 0, []⟩, Gh := ⟨.nil, 100, 100⟩, fs := factsIn Tryd.prog ftargs 0, B := 2 }
  ]
def ftplan : TP := .run
theorem ft_checked : chkF Tryd.prog [] [] lxTabs ftOrc lxU 100000 60 18 ftargs ftpls fttab ftplan = true := by decide +kernel
theorem ft_flat : aggFlat Tryd.prog ftargs = true := by decide +kernel
noncomputable def alOrc (q : List (Value × Bool)) : List (FuncId × OrcF) := [(17, (fnO Tryd.prog [(9, none)] [([6], false)] 4 q)), (18, (fnOL Tryd.prog [(9, none), (4, none)] [0, 1000] [([6, 2, 6, 6], true), ([6], false)] 15 q)), (19, (fnO Tryd.prog [(26, none)] [([1], false)] 14 q))]
def alargs : List ArgT := [(9, none)]
noncomputable def alpls : List Asrt := [{ G := ⟨Tr.putList (symIns Tryd.prog alargs 0) .nil 0, []⟩, Gh := ⟨.nil, 100, 100⟩, fs := factsIn Tryd.prog alargs 0, B := 1 }
  , { G := ⟨(Tr.putSome [(0, (unk 2 0)), (3, (.pointer (some ⟨100, 0, none⟩)))]), []⟩, Gh := ⟨obsTr [(100, (.cells (Tr.putSome [(0, (.int .i64 (.ofNat 0))), (1, (.int .i64 (.ofNat 0)))]) 2 29 none false))], 101, 101⟩, fs := factsIn Tryd.prog alargs 0, B := 1 }
  , { G := ⟨(Tr.putSome [(0, (unk 2 0)), (3, (.pointer (some ⟨100, 0, none⟩)))]), []⟩, Gh := ⟨obsTr [(100, (.cells (Tr.putSome [(0, (.int .i64 (.ofNat 0))), (1, (.int .i64 (.ofNat 0)))]) 2 29 none false))], 101, 101⟩, fs := factsIn Tryd.prog alargs 0, B := 1 }
  , { G := ⟨(Tr.putSome [(0, (unk 2 0)), (3, (.pointer (some ⟨100, 0, none⟩))), (4, (.slice none 0 0))]), []⟩, Gh := ⟨obsTr [(100, (.cells (Tr.putSome [(0, (.int .i64 (.ofNat 0))), (1, (.int .i64 (.ofNat 0)))]) 2 29 none false))], 101, 101⟩, fs := factsIn Tryd.prog alargs 0, B := 1 }
  , { G := ⟨(Tr.putSome [(0, (unk 2 0)), (3, (.pointer (some ⟨100, 0, none⟩))), (4, (.slice none 0 0)), (5, (unk 6 1))]), []⟩, Gh := ⟨obsTr [(100, (.cells (Tr.putSome [(0, (unk 6 2)), (1, (unk 6 3))]) 2 29 none false))], 101, 101⟩, fs := factsIn Tryd.prog alargs 0, B := 1 }
  , { G := ⟨(Tr.putSome [(0, (unk 2 0)), (3, (.pointer (some ⟨100, 0, none⟩))), (4, (.func (.yield 101) ⟨[(unk 6 1)]⟩ ⟨[]⟩)), (5, (unk 6 2))]), []⟩, Gh := ⟨obsTr [(100, (.cells (Tr.putSome [(0, (unk 6 3)), (1, (unk 6 4))]) 2 29 none false)), (101, (.seq (unk 20 5) (unk 6 1) [6, 2, 6, 6] 33))], 102, 102⟩, fs := factsIn Tryd.prog alargs 0, B := 1 }
  , { G := ⟨(Tr.putSome [(0, (unk 2 0)), (3, (.pointer (some ⟨100, 0, none⟩))), (4, (.slice none 0 0))]), []⟩, Gh := ⟨obsTr [(100, (.cells (Tr.putSome [(0, (unk 6 1)), (1, (unk 6 2))]) 2 29 none false))], 101, 101⟩, fs := factsIn Tryd.prog alargs 0, B := 1 }
  , { G := ⟨(Tr.putSome [(0, (unk 2 0)), (3, (.pointer (some ⟨100, 0, none⟩))), (4, (.func (.yield 101) ⟨[(unk 6 1)]⟩ ⟨[]⟩))]), []⟩, Gh := ⟨obsTr [(100, (.cells (Tr.putSome [(0, (unk 6 2)), (1, (unk 6 3))]) 2 29 none false)), (101, (.seq (unk 20 4) (unk 6 1) [6, 2, 6, 6] 33))], 102, 102⟩, fs := factsIn Tryd.prog alargs 0, B := 1 }
  , { G := ⟨(Tr.putSome [(2, (.func (.yield 100) ⟨[(unk 6 1)]⟩ ⟨[]⟩)), (3, (.pointer (some ⟨101, 0, none⟩)))]), []⟩, Gh := ⟨obsTr [(100, (.seq (unk 20 2) (unk 6 1) [6, 2, 6, 6] 33)), (101, (.cells (Tr.putSome [(0, (unk 6 3)), (1, (unk 6 4))]) 2 29 none false))], 102, 102⟩, fs := factsIn Tryd.prog alargs 0, B := 1 }
  ]
def alplan : TP := (.seq .run [1] (.seq .run [2] (.seq .run [3] (.seq .run [4, 5] (.seq (.block (.loop [4, 5] .run)) [6, 7] (.seq .run [8] .run))))))
theorem al_checked : chkF Tryd.prog [] [] lxTabs alOrc lxU 100000 60 7 alargs alpls altab alplan = true := by decide +kernel
theorem al_flat : aggFlat Tryd.prog alargs = true := by decide +kernel
noncomputable def tkOrc (q : List (Value × Bool)) : List (FuncId × OrcF) := []
def tkargs : List ArgT := [(26, none), (26, none), (4, none)]
noncomputable def tkpls : List Asrt := [{ G := ⟨Tr.putList (symIns Tryd.prog tkargs 0) .nil 0, []⟩, Gh := ⟨.nil, 100, 100⟩, fs := factsIn Tryd.prog tkargs 0, B := 3 }
  , { G := ⟨(Tr.putSome [(0, (unk 0 0)), (1, (unk 0 1)), (2, (unk 1 2))]), []⟩, Gh := ⟨obsTr [], 100, 100⟩, fs := factsIn Tryd.prog tkargs 0, B := 3 }
  , { G := ⟨(Tr.putSome [(0, (unk 0 0)), (1, (unk 0 1)), (2, (unk 1 2))]), []⟩, Gh := ⟨obsTr [], 100, 100⟩, fs := factsIn Tryd.prog tkargs 0, B := 3 }
  , { G := ⟨(Tr.putSome [(0, (unk 0 0)), (1, (unk 0 1)), (2, (unk 1 2)), (7, (unk 6 3))]), []⟩, Gh := ⟨obsTr [], 100, 100⟩, fs := factsIn Tryd.prog tkargs 0, B := 3 }
  , { G := ⟨(Tr.putSome []), []⟩, Gh := ⟨obsTr [], 100, 100⟩, fs := factsIn Tryd.prog tkargs 0, B := 3 }
  ]
def tkplan : TP := (.seq .run [1] (.seq .run [2] (.seq (.seq .run [3] (.block (.loop [3] .run))) [4] .run)))
theorem tk_checked : chkF Tryd.prog [] [] [] tkOrc lxU 100000 60 9 tkargs tkpls tktab tkplan = true := by decide +kernel
theorem tk_flat : aggFlat Tryd.prog tkargs = true := by decide +kernel
end Go.Proofs.YtaepplhgeeaidaaDoor
