/-
  THE SEAT's FUNCTIONS, COMPILED: each is what the program has. Own work.
-/
import Derived.Test.YtggjplfnalolcaaDoorShZ
import Derived.Test.YtggjplfnalolcaaDoorRows
import Derived.KernelRfl
namespace Go.Proofs.YtggjplfnalolcaaDoor
open Go.Sh
set_option maxRecDepth 100000
abbrev CF (f : Func) := { t : IFn // cFn Tryd.prog f = some t }
def cT3 : CF Tryd.f3 := ⟨_, by conv => lhs; reduce⟩
def cT4 : CF Tryd.f4 := ⟨_, by conv => lhs; reduce⟩
def cT5 : CF Tryd.f5 := ⟨_, by conv => lhs; reduce⟩
def cT6 : CF Tryd.f6 := ⟨_, by conv => lhs; reduce⟩
def cT7 : CF Tryd.f7 := ⟨_, by conv => lhs; reduce⟩
def cT8 : CF Tryd.f8 := ⟨_, by conv => lhs; reduce⟩
def cT9 : CF Tryd.f9 := ⟨_, by conv => lhs; reduce⟩
def cT10 : CF Tryd.f10 := ⟨_, by conv => lhs; reduce⟩
def cT11 : CF Tryd.f11 := ⟨_, by conv => lhs; reduce⟩
def cT12 : CF Tryd.f12 := ⟨_, by conv => lhs; reduce⟩
def cT13 : CF Tryd.f13 := ⟨_, by conv => lhs; reduce⟩
def cT14 : CF Tryd.f14 := ⟨_, by conv => lhs; reduce⟩
def cT15 : CF Tryd.f15 := ⟨_, by conv => lhs; reduce⟩
def cT16 : CF Tryd.f16 := ⟨_, by conv => lhs; reduce⟩
def cT17 : CF Tryd.f17 := ⟨_, by conv => lhs; reduce⟩
def cT18 : CF Tryd.f18 := ⟨_, by conv => lhs; reduce⟩
def cT19 : CF Tryd.f19 := ⟨_, by conv => lhs; reduce⟩
def cT20 : CF Tryd.f20 := ⟨_, by conv => lhs; reduce⟩
def cT21 : CF Tryd.f21 := ⟨_, by conv => lhs; reduce⟩
def cT22 : CF Tryd.f22 := ⟨_, by conv => lhs; reduce⟩
def cT23 : CF Tryd.f23 := ⟨_, by conv => lhs; reduce⟩
def cT24 : CF Tryd.f24 := ⟨_, by conv => lhs; reduce⟩
def cT25 : CF Tryd.f25 := ⟨_, by conv => lhs; reduce⟩
def cT26 : CF Tryd.f26 := ⟨_, by conv => lhs; reduce⟩
def cT27 : CF Tryd.f27 := ⟨_, by conv => lhs; reduce⟩
def cT28 : CF Tryd.f28 := ⟨_, by conv => lhs; reduce⟩
def cT29 : CF Tryd.f29 := ⟨_, by conv => lhs; reduce⟩
def cT30 : CF Tryd.f30 := ⟨_, by conv => lhs; reduce⟩
def cT32 : CF Tryd.f32 := ⟨_, by conv => lhs; reduce⟩
def cT33 : CF Tryd.f33 := ⟨_, by conv => lhs; reduce⟩
def cT34 : CF Tryd.f34 := ⟨_, by conv => lhs; reduce⟩
def cT35 : CF Tryd.f35 := ⟨_, by conv => lhs; reduce⟩
def cT40 : CF Tryd.f40 := ⟨_, by conv => lhs; reduce⟩
def cT41 : CF Tryd.f41 := ⟨_, by conv => lhs; reduce⟩
def t3 : IFn := cT3.1
def t4 : IFn := cT4.1
def t5 : IFn := cT5.1
def t6 : IFn := cT6.1
def t7 : IFn := cT7.1
def t8 : IFn := cT8.1
def t9 : IFn := cT9.1
def t10 : IFn := cT10.1
def t11 : IFn := cT11.1
def t12 : IFn := cT12.1
def t13 : IFn := cT13.1
def t14 : IFn := cT14.1
def t15 : IFn := cT15.1
def t16 : IFn := cT16.1
def t17 : IFn := cT17.1
def t18 : IFn := cT18.1
def t19 : IFn := cT19.1
def t20 : IFn := cT20.1
def t21 : IFn := cT21.1
def t22 : IFn := cT22.1
def t23 : IFn := cT23.1
def t24 : IFn := cT24.1
def t25 : IFn := cT25.1
def t26 : IFn := cT26.1
def t27 : IFn := cT27.1
def t28 : IFn := cT28.1
def t29 : IFn := cT29.1
def t30 : IFn := cT30.1
def t32 : IFn := cT32.1
def t33 : IFn := cT33.1
def t34 : IFn := cT34.1
def t35 : IFn := cT35.1
def t40 : IFn := cT40.1
def t41 : IFn := cT41.1
def tree : Tr IFn := (.n (.n (.n (.n (.n .l (.some t15) .l) (.some t7) (.n .l (.some t23) .l)) (.some t3) (.n (.n (.n .l (.some t35) .l) (.some t19) .l) (.some t11) (.n .l (.some t27) .l))) .none (.n (.n (.n (.n .l (.some t33) .l) (.some t17) .l) (.some t9) (.n (.n .l (.some t41) .l) (.some t25) .l)) (.some t5) (.n (.n .l (.some t21) .l) (.some t13) (.n .l (.some t29) .l)))) .none (.n (.n (.n (.n (.n .l (.some t32) .l) (.some t16) .l) (.some t8) (.n (.n .l (.some t40) .l) (.some t24) .l)) (.some t4) (.n (.n .l (.some t20) .l) (.some t12) (.n .l (.some t28) .l))) .none (.n (.n (.n (.n .l (.some t34) .l) (.some t18) .l) (.some t10) (.n .l (.some t26) .l)) (.some t6) (.n (.n .l (.some t22) .l) (.some t14) (.n .l (.some t30) .l)))))
def rows : List (Nat × IFn) := [(3, t3), (4, t4), (5, t5), (6, t6), (7, t7), (8, t8), (9, t9), (10, t10), (11, t11), (12, t12), (13, t13), (14, t14), (15, t15), (16, t16), (17, t17), (18, t18), (19, t19), (20, t20), (21, t21), (22, t22), (23, t23), (24, t24), (25, t25), (26, t26), (27, t27), (28, t28), (29, t29), (30, t30), (32, t32), (33, t33), (34, t34), (35, t35), (40, t40), (41, t41)]
theorem tree_eq : tree = treeOf rows := by kernel_rfl
theorem tab_ok : TabOk Tryd.prog (fun f => tree.get f) := rows_tab tree_eq ((rows_cons Tryd.func3 cT3.2 (rows_cons Tryd.func4 cT4.2 (rows_cons Tryd.func5 cT5.2 (rows_cons Tryd.func6 cT6.2 (rows_cons Tryd.func7 cT7.2 (rows_cons Tryd.func8 cT8.2 (rows_cons Tryd.func9 cT9.2 (rows_cons Tryd.func10 cT10.2 (rows_cons Tryd.func11 cT11.2 (rows_cons Tryd.func12 cT12.2 (rows_cons Tryd.func13 cT13.2 (rows_cons Tryd.func14 cT14.2 (rows_cons Tryd.func15 cT15.2 (rows_cons Tryd.func16 cT16.2 (rows_cons Tryd.func17 cT17.2 (rows_cons Tryd.func18 cT18.2 (rows_cons Tryd.func19 cT19.2 (rows_cons Tryd.func20 cT20.2 (rows_cons Tryd.func21 cT21.2 (rows_cons Tryd.func22 cT22.2 (rows_cons Tryd.func23 cT23.2 (rows_cons Tryd.func24 cT24.2 (rows_cons Tryd.func25 cT25.2 (rows_cons Tryd.func26 cT26.2 (rows_cons Tryd.func27 cT27.2 (rows_cons Tryd.func28 cT28.2 (rows_cons Tryd.func29 cT29.2 (rows_cons Tryd.func30 cT30.2 (rows_cons Tryd.func32 cT32.2 (rows_cons Tryd.func33 cT33.2 (rows_cons Tryd.func34 cT34.2 (rows_cons Tryd.func35 cT35.2 (rows_cons Tryd.func40 cT40.2 (rows_cons Tryd.func41 cT41.2 rows_nil)))))))))))))))))))))))))))))))))))
theorem mixed : Tryd.prog.follows .mixedOrders = true := by kernel_rfl
end Go.Proofs.YtggjplfnalolcaaDoor
