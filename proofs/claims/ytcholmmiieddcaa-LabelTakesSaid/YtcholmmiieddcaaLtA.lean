/- LabelTakes: that the code goes so. -/
import Derived.Test.YtcholmmiieddcaaLtT
import Derived.Test.YtcholmmiieddcaaChecked
set_option linter.unusedVariables false
set_option maxRecDepth 100000
namespace Go.Proofs.Ytcholmmiieddcaa
open Go Go.RowKit Ev
/-! na -/
noncomputable def naOrc (q : List (Value × Bool)) : List (FuncId × OrcF) := []
def naargs : List ArgT := [(9, none)]
noncomputable def napls : List Asrt := [{ G := ⟨Tr.putList (symIns Try.prog naargs 0) .nil 0, []⟩, Gh := ⟨.nil, 100, 100⟩, fs := factsIn Try.prog naargs 0, B := 1 }
  , { G := ⟨(Tr.putSome [(0, (unk 2 0))]), []⟩, Gh := ⟨obsTr [], 100, 100⟩, fs := factsIn Try.prog naargs 0, B := 1 }
  , { G := ⟨(Tr.putSome [(0, (unk 2 0))]), []⟩, Gh := ⟨obsTr [], 100, 100⟩, fs := factsIn Try.prog naargs 0, B := 1 }
  , { G := ⟨(Tr.putSome [(0, (unk 2 0)), (18, (sy 6 5 [(unk 2 0)])), (19, (unk 6 1))]), []⟩, Gh := ⟨obsTr [], 100, 100⟩, fs := factsIn Try.prog naargs 0, B := 1 }
  , { G := ⟨(Tr.putSome []), []⟩, Gh := ⟨obsTr [], 100, 100⟩, fs := factsIn Try.prog naargs 0, B := 1 }
  ]
def naplan : TP := (.seq .run [1] (.seq .run [2] (.seq (.seq .run [3] (.block (.loop [3] .run))) [4] .run)))
theorem na_checked : chkF Try.prog [] [] [] naOrc ltU 100000 60 33 naargs napls natab naplan = true := by decide +kernel
theorem na_flat : aggFlat Try.prog naargs = true := by decide +kernel
/-! xw -/
noncomputable def xwOrc (q : List (Value × Bool)) : List (FuncId × OrcF) := [(33, (fnO Try.prog [(9, none)] [([1], false)] 0 q))]
def xwargs : List ArgT := [(41, none), (45, some (.func (.func 16) ⟨[]⟩ ⟨[]⟩))]
noncomputable def xwpls : List Asrt := [{ G := ⟨Tr.putList (symIns Try.prog xwargs 0) .nil 0, []⟩, Gh := ⟨.nil, 100, 100⟩, fs := factsIn Try.prog xwargs 0, B := 1 }
  , { G := ⟨(Tr.putSome [(0, (unk 0 0)), (1, (.func (.func 16) ⟨[]⟩ ⟨[]⟩))]), []⟩, Gh := ⟨obsTr [], 100, 100⟩, fs := factsIn Try.prog xwargs 0, B := 1 }
  , { G := ⟨(Tr.putSome [(0, (unk 0 0)), (1, (.func (.func 16) ⟨[]⟩ ⟨[]⟩)), (7, (sy 6 5 [(unk 0 0)])), (8, (unk 6 1))]), []⟩, Gh := ⟨obsTr [], 100, 100⟩, fs := factsIn Try.prog xwargs 0, B := 1 }
  , { G := ⟨(Tr.putSome []), []⟩, Gh := ⟨obsTr [], 100, 100⟩, fs := factsIn Try.prog xwargs 0, B := 1 }
  ]
def xwplan : TP := (.seq .run [1] (.seq (.seq .run [2] (.block (.loop [2] .run))) [3] .run))
theorem xw_checked : chkF Try.prog [] [] [] xwOrc ltU 100000 60 32 xwargs xwpls xwtab xwplan = true := by decide +kernel
theorem xw_flat : aggFlat Try.prog xwargs = true := by decide +kernel
/-! xm -/
noncomputable def xmOrc (q : List (Value × Bool)) : List (FuncId × OrcF) := [(33, (fnO Try.prog [(9, none)] [([1], false)] 0 q))]
def xmargs : List ArgT := [(23, none), (50, some (.func (.func 20) ⟨[]⟩ ⟨[]⟩))]
noncomputable def xmpls : List Asrt := [{ G := ⟨Tr.putList (symIns Try.prog xmargs 0) .nil 0, []⟩, Gh := ⟨.nil, 100, 100⟩, fs := factsIn Try.prog xmargs 0, B := 1 }
  , { G := ⟨(Tr.putSome [(0, (unk 0 0)), (1, (.func (.func 20) ⟨[]⟩ ⟨[]⟩))]), []⟩, Gh := ⟨obsTr [], 100, 100⟩, fs := factsIn Try.prog xmargs 0, B := 1 }
  , { G := ⟨(Tr.putSome [(0, (unk 0 0)), (1, (.func (.func 20) ⟨[]⟩ ⟨[]⟩)), (7, (sy 6 5 [(unk 0 0)])), (8, (unk 6 1))]), []⟩, Gh := ⟨obsTr [], 100, 100⟩, fs := factsIn Try.prog xmargs 0, B := 1 }
  , { G := ⟨(Tr.putSome []), []⟩, Gh := ⟨obsTr [], 100, 100⟩, fs := factsIn Try.prog xmargs 0, B := 1 }
  ]
def xmplan : TP := (.seq .run [1] (.seq (.seq .run [2] (.block (.loop [2] .run))) [3] .run))
theorem xm_checked : chkF Try.prog [] [] [] xmOrc ltU 100000 60 35 xmargs xmpls xmtab xmplan = true := by decide +kernel
theorem xm_flat : aggFlat Try.prog xmargs = true := by decide +kernel
/-! en -/
noncomputable def enOrc (q : List (Value × Bool)) : List (FuncId × OrcF) := []
def enargs : List ArgT := [(22, none)]
noncomputable def enpls : List Asrt := [{ G := ⟨Tr.putList (symIns Try.prog enargs 0) .nil 0, []⟩, Gh := ⟨.nil, 100, 100⟩, fs := factsIn Try.prog enargs 0, B := 1 }
  , { G := ⟨(Tr.putSome [(0, (unk 0 0))]), []⟩, Gh := ⟨obsTr [], 100, 100⟩, fs := factsIn Try.prog enargs 0, B := 1 }
  , { G := ⟨(Tr.putSome [(0, (unk 0 0)), (3, (.func (.yield 100) ⟨[(unk 6 1)]⟩ ⟨[]⟩))]), []⟩, Gh := ⟨obsTr [(100, (.seq (unk 20 2) (unk 6 1) [2, 2] 44))], 101, 101⟩, fs := factsIn Try.prog enargs 0, B := 1 }
  , { G := ⟨(Tr.putSome [(3, (.func (.yield 100) ⟨[(unk 6 1)]⟩ ⟨[]⟩)), (9, (unk 0 0)), (10, (sy 6 5 [(unk 0 0)])), (11, (unk 6 2))]), []⟩, Gh := ⟨obsTr [(100, (.seq (unk 20 3) (unk 6 1) [2, 2] 44))], 101, 101⟩, fs := factsIn Try.prog enargs 0, B := 1 }
  , { G := ⟨(Tr.putSome [(3, (.func (.yield 100) ⟨[(unk 6 1)]⟩ ⟨[]⟩))]), []⟩, Gh := ⟨obsTr [(100, (.seq (unk 20 2) (unk 6 1) [2, 2] 44))], 101, 101⟩, fs := factsIn Try.prog enargs 0, B := 1 }
  ]
def enplan : TP := (.seq .run [1] (.seq .run [2] (.seq (.seq .run [3] (.block (.loop [3] .run))) [4] .run)))
theorem en_checked : chkF Try.prog [] [] [] enOrc ltU 100000 60 14 enargs enpls entab enplan = true := by decide +kernel
theorem en_flat : aggFlat Try.prog enargs = true := by decide +kernel
/-! as -/
noncomputable def asOrc (q : List (Value × Bool)) : List (FuncId × OrcF) := [(44, (fnO Try.prog [(9, none), (9, none)] [([6], false)] 1 q))]
def asargs : List ArgT := [(41, none), (47, some (.func (.func 18) ⟨[]⟩ ⟨[]⟩))]
noncomputable def aspls : List Asrt := [{ G := ⟨Tr.putList (symIns Try.prog asargs 0) .nil 0, []⟩, Gh := ⟨.nil, 100, 100⟩, fs := factsIn Try.prog asargs 0, B := 1 }
  , { G := ⟨(Tr.putSome [(0, (unk 0 0)), (1, (.func (.func 18) ⟨[]⟩ ⟨[]⟩))]), []⟩, Gh := ⟨obsTr [], 100, 100⟩, fs := factsIn Try.prog asargs 0, B := 1 }
  , { G := ⟨(Tr.putSome [(0, (unk 0 0)), (1, (.func (.func 18) ⟨[]⟩ ⟨[]⟩)), (5, (unk 6 1))]), []⟩, Gh := ⟨obsTr [], 100, 100⟩, fs := factsIn Try.prog asargs 0, B := 1 }
  , { G := ⟨(Tr.putSome []), []⟩, Gh := ⟨obsTr [], 100, 100⟩, fs := factsIn Try.prog asargs 0, B := 1 }
  ]
def asplan : TP := (.seq .run [1] (.seq (.seq .run [2] (.block (.loop [2] .run))) [3] .run))
theorem as_checked : chkF Try.prog [] [] [] asOrc ltU 100000 60 17 asargs aspls astab asplan = true := by decide +kernel
theorem as_flat : aggFlat Try.prog asargs = true := by decide +kernel
/-! fi -/
noncomputable def fiOrc (q : List (Value × Bool)) : List (FuncId × OrcF) := [(44, (fnO Try.prog [(9, none), (9, none)] [([6], false)] 1 q))]
def fiargs : List ArgT := [(41, none), (9, none), (76, some (.func (.func 34) ⟨[]⟩ ⟨[]⟩))]
noncomputable def fipls : List Asrt := [{ G := ⟨Tr.putList (symIns Try.prog fiargs 0) .nil 0, []⟩, Gh := ⟨.nil, 100, 100⟩, fs := factsIn Try.prog fiargs 0, B := 2 }
  , { G := ⟨(Tr.putSome [(0, (unk 0 0)), (1, (unk 2 1)), (2, (.func (.func 34) ⟨[]⟩ ⟨[]⟩)), (6, (.pointer (some ⟨100, 0, none⟩)))]), []⟩, Gh := ⟨obsTr [(100, (.cells (Tr.putSome [(0, (.string ⟨⟨[]⟩⟩)), (1, (.string ⟨⟨[]⟩⟩))]) 2 44 none false))], 101, 101⟩, fs := factsIn Try.prog fiargs 0, B := 2 }
  , { G := ⟨(Tr.putSome [(1, (unk 2 1)), (2, (.func (.func 34) ⟨[]⟩ ⟨[]⟩)), (6, (.pointer (some ⟨100, 0, none⟩))), (9, (unk 0 0)), (10, (sy 6 5 [(unk 0 0)])), (11, (unk 6 2))]), []⟩, Gh := ⟨obsTr [(100, (.cells (Tr.putSome [(0, (unk 2 3)), (1, (unk 2 4))]) 2 44 none false))], 101, 101⟩, fs := factsIn Try.prog fiargs 0, B := 2 }
  , { G := ⟨(Tr.putSome [(6, (.pointer (some ⟨100, 0, none⟩)))]), []⟩, Gh := ⟨obsTr [(100, (.cells (Tr.putSome [(0, (unk 2 2)), (1, (unk 2 3))]) 2 44 none false))], 101, 101⟩, fs := factsIn Try.prog fiargs 0, B := 2 }
  ]
def fiplan : TP := (.seq .run [1] (.seq (.seq .run [2] (.block (.loop [2] .run))) [3] .run))
theorem fi_checked : chkF Try.prog [] [] [] fiOrc ltU 100000 60 37 fiargs fipls fitab fiplan = true := by decide +kernel
theorem fi_flat : aggFlat Try.prog fiargs = true := by decide +kernel
/-! si -/
noncomputable def siOrc (q : List (Value × Bool)) : List (FuncId × OrcF) := []
def siargs : List ArgT := [(24, none), (9, none)]
noncomputable def sipls : List Asrt := [{ G := ⟨Tr.putList (symIns Try.prog siargs 0) .nil 0, []⟩, Gh := ⟨.nil, 100, 100⟩, fs := factsIn Try.prog siargs 0, B := 2 }
  , { G := ⟨(Tr.putSome [(0, (unk 0 0)), (1, (unk 2 1))]), []⟩, Gh := ⟨obsTr [], 100, 100⟩, fs := factsIn Try.prog siargs 0, B := 2 }
  , { G := ⟨(Tr.putSome [(0, (unk 0 0)), (1, (unk 2 1)), (7, (sy 6 5 [(unk 0 0)])), (8, (unk 6 2))]), []⟩, Gh := ⟨obsTr [], 100, 100⟩, fs := factsIn Try.prog siargs 0, B := 2 }
  , { G := ⟨(Tr.putSome []), []⟩, Gh := ⟨obsTr [], 100, 100⟩, fs := factsIn Try.prog siargs 0, B := 2 }
  ]
def siplan : TP := (.seq .run [1] (.seq (.seq .run [2] (.block (.loop [2] .run))) [3] .run))
theorem si_checked : chkF Try.prog [] [] [] siOrc ltU 100000 60 45 siargs sipls sitab siplan = true := by decide +kernel
theorem si_flat : aggFlat Try.prog siargs = true := by decide +kernel
/-! li -/
noncomputable def liOrc (q : List (Value × Bool)) : List (FuncId × OrcF) := []
def liargs : List ArgT := [(24, none), (3, none)]
noncomputable def lipls : List Asrt := [{ G := ⟨Tr.putList (symIns Try.prog liargs 0) .nil 0, []⟩, Gh := ⟨.nil, 100, 100⟩, fs := factsIn Try.prog liargs 0, B := 2 }
  , { G := ⟨(Tr.putSome [(0, (unk 0 0)), (1, (unk 6 1))]), []⟩, Gh := ⟨obsTr [], 100, 100⟩, fs := factsIn Try.prog liargs 0, B := 2 }
  , { G := ⟨(Tr.putSome [(0, (unk 0 0)), (1, (unk 6 1)), (5, (unk 6 2))]), []⟩, Gh := ⟨obsTr [], 100, 100⟩, fs := factsIn Try.prog liargs 0, B := 2 }
  , { G := ⟨(Tr.putSome [(0, (unk 0 0)), (1, (unk 6 1))]), []⟩, Gh := ⟨obsTr [], 100, 100⟩, fs := factsIn Try.prog liargs 0, B := 2 }
  ]
def liplan : TP := (.seq .run [1] (.seq (.seq .run [2] (.block (.loop [2] .run))) [3] .run))
theorem li_checked : chkF Try.prog [] [] [] liOrc ltU 100000 60 7 liargs lipls litab liplan = true := by decide +kernel
theorem li_flat : aggFlat Try.prog liargs = true := by decide +kernel
/-! la -/
noncomputable def laOrc (q : List (Value × Bool)) : List (FuncId × OrcF) := []
def laargs : List ArgT := [(22, none), (22, none)]
noncomputable def lapls : List Asrt := [{ G := ⟨Tr.putList (symIns Try.prog laargs 0) .nil 0, []⟩, Gh := ⟨.nil, 100, 100⟩, fs := factsIn Try.prog laargs 0, B := 2 }
  , { G := ⟨(Tr.putSome [(0, (unk 0 0)), (1, (unk 0 1))]), []⟩, Gh := ⟨obsTr [], 100, 100⟩, fs := factsIn Try.prog laargs 0, B := 2 }
  , { G := ⟨(Tr.putSome [(0, (unk 0 0)), (1, (unk 0 1))]), []⟩, Gh := ⟨obsTr [], 100, 100⟩, fs := factsIn Try.prog laargs 0, B := 2 }
  , { G := ⟨(Tr.putSome [(0, (unk 0 0)), (1, (unk 0 1)), (5, (unk 6 2))]), []⟩, Gh := ⟨obsTr [], 100, 100⟩, fs := factsIn Try.prog laargs 0, B := 2 }
  , { G := ⟨(Tr.putSome []), []⟩, Gh := ⟨obsTr [], 100, 100⟩, fs := factsIn Try.prog laargs 0, B := 2 }
  ]
def laplan : TP := (.seq .run [1] (.seq .run [2] (.seq (.seq .run [3] (.block (.loop [3] .run))) [4] .run)))
theorem la_checked : chkF Try.prog [] [] [] laOrc ltU 100000 60 9 laargs lapls latab laplan = true := by decide +kernel
theorem la_flat : aggFlat Try.prog laargs = true := by decide +kernel
/-! ck -/
noncomputable def ckOrc (q : List (Value × Bool)) : List (FuncId × OrcF) := [(14, (rowO Try.prog [(22, none)] [2, 2] 44 false 4 q)), (32, (fnO Try.prog [(41, none), (45, some (.func (.func 16) ⟨[]⟩ ⟨[]⟩))] [([6], false)] 2 q)), (17, (fnO Try.prog [(41, none), (47, some (.func (.func 18) ⟨[]⟩ ⟨[]⟩))] [([1], false)] 6 q))]
def ckargs : List ArgT := [(22, none)]
noncomputable def ckpls : List Asrt := [{ G := ⟨Tr.putList (symIns Try.prog ckargs 0) .nil 0, []⟩, Gh := ⟨.nil, 100, 100⟩, fs := factsIn Try.prog ckargs 0, B := 1 }
  ]
def ckplan : TP := .run
theorem ck_checked : chkF Try.prog [] [] [] ckOrc ltU 100000 60 5 ckargs ckpls cktab ckplan = true := by decide +kernel
theorem ck_flat : aggFlat Try.prog ckargs = true := by decide +kernel
/-! cm -/
noncomputable def cmOrc (q : List (Value × Bool)) : List (FuncId × OrcF) := [(35, (fnO Try.prog [(23, none), (50, some (.func (.func 20) ⟨[]⟩ ⟨[]⟩))] [([6], false)] 3 q))]
def cmargs : List ArgT := [(23, none)]
noncomputable def cmpls : List Asrt := [{ G := ⟨Tr.putList (symIns Try.prog cmargs 0) .nil 0, []⟩, Gh := ⟨.nil, 100, 100⟩, fs := factsIn Try.prog cmargs 0, B := 1 }
  ]
def cmplan : TP := .run
theorem cm_checked : chkF Try.prog [] [] [] cmOrc ltU 100000 60 6 cmargs cmpls cmtab cmplan = true := by decide +kernel
theorem cm_flat : aggFlat Try.prog cmargs = true := by decide +kernel
/-! pk -/
noncomputable def pkOrc (q : List (Value × Bool)) : List (FuncId × OrcF) := [(5, (fnO Try.prog [(22, none)] [([6], false)] 12 q)), (45, (fnO Try.prog [(24, none), (9, none)] [([6], false)] 9 q))]
def pkargs : List ArgT := [(22, none), (24, none), (4, none)]
noncomputable def pkpls : List Asrt := [{ G := ⟨Tr.putList (symIns Try.prog pkargs 0) .nil 0, []⟩, Gh := ⟨.nil, 100, 100⟩, fs := factsIn Try.prog pkargs 0, B := 3 }
  , { G := ⟨(Tr.putSome [(0, (unk 0 0)), (1, (unk 0 1)), (2, (unk 1 2))]), []⟩, Gh := ⟨obsTr [], 100, 100⟩, fs := factsIn Try.prog pkargs 0, B := 3 }
  , { G := ⟨(Tr.putSome [(0, (unk 0 0)), (1, (unk 0 1)), (2, (unk 1 2))]), []⟩, Gh := ⟨obsTr [], 100, 100⟩, fs := factsIn Try.prog pkargs 0, B := 3 }
  , { G := ⟨(Tr.putSome [(0, (unk 0 0)), (1, (unk 0 1)), (2, (unk 1 2)), (7, (.slice none 0 0))]), []⟩, Gh := ⟨obsTr [], 100, 100⟩, fs := factsIn Try.prog pkargs 0, B := 3 }
  , { G := ⟨(Tr.putSome [(1, (unk 0 1)), (2, (unk 1 2)), (7, (.slice none 0 0)), (13, (unk 0 0)), (14, (sy 6 5 [(unk 0 0)])), (15, (unk 6 3))]), []⟩, Gh := ⟨obsTr [], 100, 100⟩, fs := factsIn Try.prog pkargs 0, B := 3 }
  , { G := ⟨(Tr.putSome [(1, (unk 0 1)), (2, (unk 1 2)), (7, (.func (.yield 100) ⟨[(unk 6 3)]⟩ ⟨[]⟩)), (13, (unk 0 0)), (14, (sy 6 5 [(unk 0 0)])), (15, (unk 6 4))]), []⟩, Gh := ⟨obsTr [(100, (.seq (unk 20 5) (unk 6 3) [2, 2] 39))], 101, 101⟩, fs := factsIn Try.prog pkargs 0, B := 3 }
  , { G := ⟨(Tr.putSome [(7, (.slice none 0 0))]), []⟩, Gh := ⟨obsTr [], 100, 100⟩, fs := factsIn Try.prog pkargs 0, B := 3 }
  , { G := ⟨(Tr.putSome [(7, (.func (.yield 100) ⟨[(unk 6 3)]⟩ ⟨[]⟩))]), []⟩, Gh := ⟨obsTr [(100, (.seq (unk 20 4) (unk 6 3) [2, 2] 39))], 101, 101⟩, fs := factsIn Try.prog pkargs 0, B := 3 }
  ]
def pkplan : TP := (.seq .run [1] (.seq .run [2] (.seq .run [3] (.seq (.seq .run [4, 5] (.block (.loop [4, 5] .run))) [6, 7] .run))))
theorem pk_checked : chkF Try.prog [] [] [] pkOrc ltU 100000 60 23 pkargs pkpls pktab pkplan = true := by decide +kernel
theorem pk_flat : aggFlat Try.prog pkargs = true := by decide +kernel
/-! lt -/
noncomputable def ltOrc (q : List (Value × Bool)) : List (FuncId × OrcF) := [(4, trueO), (5, (fnO Try.prog [(22, none)] [([6], false)] 12 q)), (6, (fnO Try.prog [(23, none)] [([6], false)] 13 q)), (7, (fnO Try.prog [(24, none), (3, none)] [([1], false)] 10 q)), (9, (fnO Try.prog [(22, none), (22, none)] [([1], false)] 11 q)), (8, (fnO Try.prog [(23, none), (22, none)] [([1], false)] 16 q)), (23, (rowO Try.prog [(22, none), (24, none), (4, none)] [2, 2] 39 true 14 q))]
def ltargs : List ArgT := [(22, none), (23, none), (23, none), (24, none), (24, none)]
noncomputable def ltpls : List Asrt := [{ G := ⟨Tr.putList (symIns Try.prog ltargs 0) .nil 0, []⟩, Gh := ⟨.nil, 100, 100⟩, fs := factsIn Try.prog ltargs 0, B := 5 }
  , { G := ⟨(Tr.putSome [(0, (unk 0 0)), (1, (unk 0 1)), (2, (unk 0 2)), (3, (unk 0 3)), (4, (unk 0 4))]), []⟩, Gh := ⟨obsTr [], 100, 100⟩, fs := factsIn Try.prog ltargs 0, B := 5 }
  , { G := ⟨(Tr.putSome [(0, (unk 0 0)), (1, (unk 0 1)), (2, (unk 0 2)), (3, (unk 0 3)), (4, (unk 0 4))]), []⟩, Gh := ⟨obsTr [], 100, 100⟩, fs := factsIn Try.prog ltargs 0, B := 5 }
  , { G := ⟨(Tr.putSome [(0, (unk 0 0)), (1, (unk 0 1)), (2, (unk 0 2)), (3, (unk 0 3)), (4, (unk 0 4))]), []⟩, Gh := ⟨obsTr [], 100, 100⟩, fs := factsIn Try.prog ltargs 0, B := 5 }
  , { G := ⟨(Tr.putSome [(0, (unk 0 0)), (1, (unk 0 1)), (3, (unk 0 3)), (4, (unk 0 4))]), []⟩, Gh := ⟨obsTr [], 100, 100⟩, fs := factsIn Try.prog ltargs 0, B := 5 }
  , { G := ⟨(Tr.putSome [(0, (unk 0 0)), (1, (unk 0 1)), (3, (unk 0 3)), (4, (unk 0 4)), (11, (unk 6 5))]), []⟩, Gh := ⟨obsTr [], 100, 100⟩, fs := factsIn Try.prog ltargs 0, B := 5 }
  , { G := ⟨(Tr.putSome [(0, (unk 0 0)), (3, (unk 0 3)), (4, (unk 0 4))]), []⟩, Gh := ⟨obsTr [], 100, 100⟩, fs := factsIn Try.prog ltargs 0, B := 5 }
  ]
def ltplan : TP := (.seq .run [1] (.seq .run [2] (.seq .run [3] (.seq .run [4] (.seq (.seq .run [5] (.block (.loop [5] .run))) [6] .run)))))
theorem lt_checked : chkF Try.prog [] [] [] ltOrc ltU 100000 60 3 ltargs ltpls lttab ltplan = true := by decide +kernel
theorem lt_flat : aggFlat Try.prog ltargs = true := by decide +kernel
end Go.Proofs.Ytcholmmiieddcaa
