/-
 THE SEAT's FUNCTIONS, COMPILED: each is what the program has. Own work.
-/
import Derived.Test.YtheidgcgdkmmiaaDoorShZ
import Derived.Test.YtheidgcgdkmmiaaDoorRows
import Derived.KernelRfl
namespace Go.Proofs.YtheidgcgdkmmiaaDoor
open Go.Sh
set_option maxRecDepth 100000
abbrev CF (f : Func) := { t : IFn // cFn Tryd.prog f = some t }
@[reducible] def oP (d : Nat) (x : K) : IOp := ⟨some d, x, none, [], false⟩
def cT3 : CF Tryd.f3 := ⟨_, by conv => lhs; reduce⟩
def cT4 : CF Tryd.f4 := ⟨_, by conv => lhs; reduce⟩
def cT5 : CF Tryd.f5 := ⟨_, by conv => lhs; reduce⟩
def cT6 : CF Tryd.f6 := ⟨_, by conv => lhs; reduce⟩
def cT7 : CF Tryd.f7 := ⟨_, by conv => lhs; reduce⟩
def cT8 : CF Tryd.f8 := ⟨_, by conv => lhs; reduce⟩
def cT9 : CF Tryd.f9 := ⟨_, by conv => lhs; reduce⟩
def cT10 : CF Tryd.f10 := ⟨_, by conv => lhs; reduce⟩
def cT11 : CF Tryd.f11 := ⟨_, by conv => lhs; reduce⟩
def cT12 : CF Tryd.f12 := ⟨_, by conv => lhs; reduce⟩
def cT13 : CF Tryd.f13 := ⟨_, by conv => lhs; reduce⟩
def cT14 : CF Tryd.f14 := ⟨_, by conv => lhs; reduce⟩
def cT15 : CF Tryd.f15 := ⟨_, by conv => lhs; reduce⟩
def cT16 : CF Tryd.f16 := ⟨_, by conv => lhs; reduce⟩
def cT17 : CF Tryd.f17 := ⟨_, by conv => lhs; reduce⟩
def cT18 : CF Tryd.f18 := ⟨_, by conv => lhs; reduce⟩
def cT19 : CF Tryd.f19 := ⟨_, by conv => lhs; reduce⟩
def cT20 : CF Tryd.f20 := ⟨_, by conv => lhs; reduce⟩
def cT21 : CF Tryd.f21 := ⟨_, by conv => lhs; reduce⟩
def cT22 : CF Tryd.f22 := ⟨_, by conv => lhs; reduce⟩
def cT23 : CF Tryd.f23 := ⟨_, by conv => lhs; reduce⟩
def cT24 : CF Tryd.f24 := ⟨_, by conv => lhs; reduce⟩
def cT25 : CF Tryd.f25 := ⟨_, by conv => lhs; reduce⟩
def cT26 : CF Tryd.f26 := ⟨_, by conv => lhs; reduce⟩
def cT27 : CF Tryd.f27 := ⟨_, by conv => lhs; reduce⟩
def cT28 : CF Tryd.f28 := ⟨_, by conv => lhs; reduce⟩
def cT29 : CF Tryd.f29 := ⟨_, by conv => lhs; reduce⟩
def cT30 : CF Tryd.f30 := ⟨_, by conv => lhs; reduce⟩
def cT31 : CF Tryd.f31 := ⟨_, by conv => lhs; reduce⟩
def cT32 : CF Tryd.f32 := ⟨_, by conv => lhs; reduce⟩
def cT33 : CF Tryd.f33 := ⟨_, by conv => lhs; reduce⟩
def cT34 : CF Tryd.f34 := ⟨_, by conv => lhs; reduce⟩
def cT35 : CF Tryd.f35 := ⟨_, by conv => lhs; reduce⟩
def cT36 : CF Tryd.f36 := ⟨_, by conv => lhs; reduce⟩
def cT37 : CF Tryd.f37 := ⟨_, by conv => lhs; reduce⟩
def cT38 : CF Tryd.f38 := ⟨_, by conv => lhs; reduce⟩
def cT39 : CF Tryd.f39 := ⟨_, by conv => lhs; reduce⟩
def cT40 : CF Tryd.f40 := ⟨_, by conv => lhs; reduce⟩
def cT41 : CF Tryd.f41 := ⟨_, by conv => lhs; reduce⟩
def cT42 : CF Tryd.f42 := ⟨_, by conv => lhs; reduce⟩
def cT43 : CF Tryd.f43 := ⟨_, by conv => lhs; reduce⟩
def cT44 : CF Tryd.f44 := ⟨_, by conv => lhs; reduce⟩
def cT45 : CF Tryd.f45 := ⟨_, by conv => lhs; reduce⟩
def cT46 : CF Tryd.f46 := ⟨_, by conv => lhs; reduce⟩
def cT47 : CF Tryd.f47 := ⟨_, by conv => lhs; reduce⟩
def cT48 : CF Tryd.f48 := ⟨_, by conv => lhs; reduce⟩
def cT49 : CF Tryd.f49 := ⟨_, by conv => lhs; reduce⟩
def cT50 : CF Tryd.f50 := ⟨_, by conv => lhs; reduce⟩
def cT51 : CF Tryd.f51 := ⟨_, by conv => lhs; reduce⟩
def cT52 : CF Tryd.f52 := ⟨_, by conv => lhs; reduce⟩
def cT53 : CF Tryd.f53 := ⟨_, by conv => lhs; reduce⟩
def cT54 : CF Tryd.f54 := ⟨_, by conv => lhs; reduce⟩
def cT55 : CF Tryd.f55 := ⟨_, by conv => lhs; reduce⟩
def cT56 : CF Tryd.f56 := ⟨_, by conv => lhs; reduce⟩
def cT57 : CF Tryd.f57 := ⟨_, by conv => lhs; reduce⟩
def cT58 : CF Tryd.f58 := ⟨_, by conv => lhs; reduce⟩
def cT59 : CF Tryd.f59 := ⟨_, by conv => lhs; reduce⟩
def cT61 : CF Tryd.f61 := ⟨_, by conv => lhs; reduce⟩
def cT62 : CF Tryd.f62 := ⟨_, by conv => lhs; reduce⟩
def cT63 : CF Tryd.f63 := ⟨_, by conv => lhs; reduce⟩
def cT64 : CF Tryd.f64 := ⟨_, by conv => lhs; reduce⟩
def cT65 : CF Tryd.f65 := ⟨_, by conv => lhs; reduce⟩
def cT66 : CF Tryd.f66 := ⟨_, by conv => lhs; reduce⟩
def cT67 : CF Tryd.f67 := ⟨_, by conv => lhs; reduce⟩
def cT68 : CF Tryd.f68 := ⟨_, by conv => lhs; reduce⟩
def cT69 : CF Tryd.f69 := ⟨_, by conv => lhs; reduce⟩
def cT70 : CF Tryd.f70 := ⟨_, by conv => lhs; reduce⟩
def cT71 : CF Tryd.f71 := ⟨_, by conv => lhs; reduce⟩
def cT72 : CF Tryd.f72 := ⟨_, by conv => lhs; reduce⟩
def cT73 : CF Tryd.f73 := ⟨_, by conv => lhs; reduce⟩
def cT74 : CF Tryd.f74 := ⟨_, by conv => lhs; reduce⟩
def cT75 : CF Tryd.f75 := ⟨_, by conv => lhs; reduce⟩
def cT76 : CF Tryd.f76 := ⟨⟨.seq (.reg [oP 1 (.box 22 (.t 0)), oP 2 (.alloc 22 (.replicate 32 (.i .u8 (.c (.ofNat 0))))), oP 3 (.mv (.k (.b false)))]) (.seq (.reg [oP 6 (.ld (.some 32) (.t 1)), oP 7 (.call 93 [.t 6]), oP 8 (.call 92 [.t 7]), oP 4 (.alloc 113 [.i .u64 (.c (.ofNat 0)), .i .u64 (.c (.ofNat 0)), .i .u64 (.c (.ofNat 0)), .i .u64 (.c (.ofNat 0))]), ⟨.none, .st 4 (.t 4) (.t 8), .none, [], false⟩]) (.seq (.reg [oP 9 (.ld (.some 4) (.t 4)), oP 10 (.bld [.i .u64 (.c (.ofNat 0)), .i .u64 (.c (.ofNat 0)), .i .u64 (.c (.ofNat 0)), .i .u64 (.c (.ofNat 0))] [(0, (1, (.k (.i .u64 (.c (.ofNat 18446744073709551614)))))), (1, (1, (.k (.i .u64 (.c (.ofNat 18446744073709551615)))))), (2, (1, (.k (.i .u64 (.c (.ofNat 18446744073709551615)))))), (3, (1, (.k (.i .u64 (.c (.ofNat 1152921504606846975))))))]), oP 11 (.call 97 [.t 9, .t 10]), oP 5 (.alloc 113 [.i .u64 (.c (.ofNat 0)), .i .u64 (.c (.ofNat 0)), .i .u64 (.c (.ofNat 0)), .i .u64 (.c (.ofNat 0))]), ⟨.none, .st 4 (.t 5) (.t 11), .none, [], false⟩]) (.seq (.seq (.draw [oP 12 (.ld (.some 4) (.t 5)), oP 13 (.ld (.some 4) (.t 5)), ⟨.some 14, .call 94 [.t 12, .t 13], .none, [1, 0], false⟩, oP 15 (.ld (.some 4) (.t 4)), ⟨.some 16, .eqa true [0, 1, 2, 3] (.t 14) (.t 15), .none, [3, 0, 1, 2], false⟩]) (.cond (.t 16) (.draw [oP 17 (.ld (.some 4) (.t 5)), oP 18 (.call 98 []), ⟨.some 19, .call 94 [.t 17, .t 18], .none, [1, 0], true⟩, ⟨.none, .st 4 (.t 5) (.t 19), .none, [0, 1, 2], true⟩]) .skip)) (.seq (.seq (.draw [oP 20 (.ld (.some 4) (.t 5)), oP 21 (.ld (.some 4) (.t 5)), ⟨.some 22, .call 94 [.t 20, .t 21], .none, [1, 0], false⟩, oP 23 (.ld (.some 4) (.t 4)), ⟨.some 24, .eqa true [0, 1, 2, 3] (.t 22) (.t 23), .none, [3, 0, 1, 2], false⟩]) (.cond (.t 24) (.seq (.reg [oP 25 (.bld (.replicate 32 (.i .u8 (.c (.ofNat 0)))) []), ⟨.none, .st 32 (.t 2) (.t 25), .none, [], false⟩, oP 3 (.mv (.k (.b false)))]) .ret) .skip)) (.seq (.seq (.reg [oP 26 (.fa 0 (.t 5)), oP 27 (.ld .none (.t 26)), oP 28 (.bin .and (.t 27) (.k (.i .u64 (.c (.ofNat 1))))), oP 29 (.bin .eql (.t 28) (.k (.i .u64 (.c (.ofNat 1)))))]) (.cond (.t 29) (.reg [oP 30 (.ld (.some 4) (.t 5)), oP 31 (.call 96 [.t 30]), ⟨.none, .st 4 (.t 5) (.t 31), .none, [], false⟩]) .skip)) (.seq (.reg [oP 32 (.ld (.some 4) (.t 5)), oP 33 (.call 91 [.t 32]), ⟨.none, .st 32 (.t 2) (.t 33), .none, [], false⟩, oP 3 (.mv (.k (.b true)))]) .ret)))))), [.c 2 (.some 32), .t 3], 34⟩, by kernel_rfl⟩
def cT77 : CF Tryd.f77 := ⟨_, by conv => lhs; reduce⟩
def cT78 : CF Tryd.f78 := ⟨_, by conv => lhs; reduce⟩
def cT80 : CF Tryd.f80 := ⟨_, by conv => lhs; reduce⟩
def cT81 : CF Tryd.f81 := ⟨_, by conv => lhs; reduce⟩
def cT82 : CF Tryd.f82 := ⟨_, by conv => lhs; reduce⟩
def cT83 : CF Tryd.f83 := ⟨_, by conv => lhs; reduce⟩
def cT84 : CF Tryd.f84 := ⟨_, by conv => lhs; reduce⟩
def cT85 : CF Tryd.f85 := ⟨_, by conv => lhs; reduce⟩
def cT86 : CF Tryd.f86 := ⟨_, by conv => lhs; reduce⟩
def cT87 : CF Tryd.f87 := ⟨_, by conv => lhs; reduce⟩
def cT88 : CF Tryd.f88 := ⟨_, by conv => lhs; reduce⟩
def cT89 : CF Tryd.f89 := ⟨_, by conv => lhs; reduce⟩
def cT90 : CF Tryd.f90 := ⟨_, by conv => lhs; reduce⟩
def cT91 : CF Tryd.f91 := ⟨_, by conv => lhs; reduce⟩
def cT92 : CF Tryd.f92 := ⟨_, by conv => lhs; reduce⟩
def cT93 : CF Tryd.f93 := ⟨_, by conv => lhs; reduce⟩
def cT94 : CF Tryd.f94 := ⟨_, by conv => lhs; reduce⟩
def cT95 : CF Tryd.f95 := ⟨_, by conv => lhs; reduce⟩
def cT96 : CF Tryd.f96 := ⟨_, by conv => lhs; reduce⟩
def cT97 : CF Tryd.f97 := ⟨_, by conv => lhs; reduce⟩
def cT98 : CF Tryd.f98 := ⟨_, by conv => lhs; reduce⟩
def cT99 : CF Tryd.f99 := ⟨_, by conv => lhs; reduce⟩
def cT100 : CF Tryd.f100 := ⟨_, by conv => lhs; reduce⟩
def cT101 : CF Tryd.f101 := ⟨_, by conv => lhs; reduce⟩
def cT102 : CF Tryd.f102 := ⟨_, by conv => lhs; reduce⟩
def cT103 : CF Tryd.f103 := ⟨_, by conv => lhs; reduce⟩
def cT104 : CF Tryd.f104 := ⟨_, by conv => lhs; reduce⟩
def t3 : IFn := cT3.1
def t4 : IFn := cT4.1
def t5 : IFn := cT5.1
def t6 : IFn := cT6.1
def t7 : IFn := cT7.1
def t8 : IFn := cT8.1
def t9 : IFn := cT9.1
def t10 : IFn := cT10.1
def t11 : IFn := cT11.1
def t12 : IFn := cT12.1
def t13 : IFn := cT13.1
def t14 : IFn := cT14.1
def t15 : IFn := cT15.1
def t16 : IFn := cT16.1
def t17 : IFn := cT17.1
def t18 : IFn := cT18.1
def t19 : IFn := cT19.1
def t20 : IFn := cT20.1
def t21 : IFn := cT21.1
def t22 : IFn := cT22.1
def t23 : IFn := cT23.1
def t24 : IFn := cT24.1
def t25 : IFn := cT25.1
def t26 : IFn := cT26.1
def t27 : IFn := cT27.1
def t28 : IFn := cT28.1
def t29 : IFn := cT29.1
def t30 : IFn := cT30.1
def t31 : IFn := cT31.1
def t32 : IFn := cT32.1
def t33 : IFn := cT33.1
def t34 : IFn := cT34.1
def t35 : IFn := cT35.1
def t36 : IFn := cT36.1
def t37 : IFn := cT37.1
def t38 : IFn := cT38.1
def t39 : IFn := cT39.1
def t40 : IFn := cT40.1
def t41 : IFn := cT41.1
def t42 : IFn := cT42.1
def t43 : IFn := cT43.1
def t44 : IFn := cT44.1
def t45 : IFn := cT45.1
def t46 : IFn := cT46.1
def t47 : IFn := cT47.1
def t48 : IFn := cT48.1
def t49 : IFn := cT49.1
def t50 : IFn := cT50.1
def t51 : IFn := cT51.1
def t52 : IFn := cT52.1
def t53 : IFn := cT53.1
def t54 : IFn := cT54.1
def t55 : IFn := cT55.1
def t56 : IFn := cT56.1
def t57 : IFn := cT57.1
def t58 : IFn := cT58.1
def t59 : IFn := cT59.1
def t61 : IFn := cT61.1
def t62 : IFn := cT62.1
def t63 : IFn := cT63.1
def t64 : IFn := cT64.1
def t65 : IFn := cT65.1
def t66 : IFn := cT66.1
def t67 : IFn := cT67.1
def t68 : IFn := cT68.1
def t69 : IFn := cT69.1
def t70 : IFn := cT70.1
def t71 : IFn := cT71.1
def t72 : IFn := cT72.1
def t73 : IFn := cT73.1
def t74 : IFn := cT74.1
def t75 : IFn := cT75.1
def t76 : IFn := cT76.1
def t77 : IFn := cT77.1
def t78 : IFn := cT78.1
def t80 : IFn := cT80.1
def t81 : IFn := cT81.1
def t82 : IFn := cT82.1
def t83 : IFn := cT83.1
def t84 : IFn := cT84.1
def t85 : IFn := cT85.1
def t86 : IFn := cT86.1
def t87 : IFn := cT87.1
def t88 : IFn := cT88.1
def t89 : IFn := cT89.1
def t90 : IFn := cT90.1
def t91 : IFn := cT91.1
def t92 : IFn := cT92.1
def t93 : IFn := cT93.1
def t94 : IFn := cT94.1
def t95 : IFn := cT95.1
def t96 : IFn := cT96.1
def t97 : IFn := cT97.1
def t98 : IFn := cT98.1
def t99 : IFn := cT99.1
def t100 : IFn := cT100.1
def t101 : IFn := cT101.1
def t102 : IFn := cT102.1
def t103 : IFn := cT103.1
def t104 : IFn := cT104.1
def tree : Tr IFn := (.n (.n (.n (.n (.n (.n (.n .l (.some t63) .l) (.some t31) (.n .l (.some t95) .l)) (.some t15) (.n .l (.some t47) .l)) (.some t7) (.n (.n (.n .l (.some t71) .l) (.some t39) (.n .l (.some t103) .l)) (.some t23) (.n (.n .l (.some t87) .l) (.some t55) .l))) (.some t3) (.n (.n (.n (.n .l (.some t67) .l) (.some t35) (.n .l (.some t99) .l)) (.some t19) (.n (.n .l (.some t83) .l) (.some t51) .l)) (.some t11) (.n (.n (.n .l (.some t75) .l) (.some t43) .l) (.some t27) (.n (.n .l (.some t91) .l) (.some t59) .l)))) .none (.n (.n (.n (.n (.n .l (.some t65) .l) (.some t33) (.n .l (.some t97) .l)) (.some t17) (.n (.n .l (.some t81) .l) (.some t49) .l)) (.some t9) (.n (.n (.n .l (.some t73) .l) (.some t41) .l) (.some t25) (.n (.n .l (.some t89) .l) (.some t57) .l))) (.some t5) (.n (.n (.n (.n .l (.some t69) .l) (.some t37) (.n .l (.some t101) .l)) (.some t21) (.n (.n .l (.some t85) .l) (.some t53) .l)) (.some t13) (.n (.n (.n .l (.some t77) .l) (.some t45) .l) (.some t29) (.n (.n .l (.some t93) .l) (.some t61) .l))))) .none (.n (.n (.n (.n (.n (.n .l (.some t64) .l) (.some t32) (.n .l (.some t96) .l)) (.some t16) (.n (.n .l (.some t80) .l) (.some t48) .l)) (.some t8) (.n (.n (.n .l (.some t72) .l) (.some t40) (.n .l (.some t104) .l)) (.some t24) (.n (.n .l (.some t88) .l) (.some t56) .l))) (.some t4) (.n (.n (.n (.n .l (.some t68) .l) (.some t36) (.n .l (.some t100) .l)) (.some t20) (.n (.n .l (.some t84) .l) (.some t52) .l)) (.some t12) (.n (.n (.n .l (.some t76) .l) (.some t44) .l) (.some t28) (.n (.n .l (.some t92) .l) .none .l)))) .none (.n (.n (.n (.n (.n .l (.some t66) .l) (.some t34) (.n .l (.some t98) .l)) (.some t18) (.n (.n .l (.some t82) .l) (.some t50) .l)) (.some t10) (.n (.n (.n .l (.some t74) .l) (.some t42) .l) (.some t26) (.n (.n .l (.some t90) .l) (.some t58) .l))) (.some t6) (.n (.n (.n (.n .l (.some t70) .l) (.some t38) (.n .l (.some t102) .l)) (.some t22) (.n (.n .l (.some t86) .l) (.some t54) .l)) (.some t14) (.n (.n (.n .l (.some t78) .l) (.some t46) .l) (.some t30) (.n (.n .l (.some t94) .l) (.some t62) .l))))))
def rows : List (Nat × IFn) := [(3, t3), (4, t4), (5, t5), (6, t6), (7, t7), (8, t8), (9, t9), (10, t10), (11, t11), (12, t12), (13, t13), (14, t14), (15, t15), (16, t16), (17, t17), (18, t18), (19, t19), (20, t20), (21, t21), (22, t22), (23, t23), (24, t24), (25, t25), (26, t26), (27, t27), (28, t28), (29, t29), (30, t30), (31, t31), (32, t32), (33, t33), (34, t34), (35, t35), (36, t36), (37, t37), (38, t38), (39, t39), (40, t40), (41, t41), (42, t42), (43, t43), (44, t44), (45, t45), (46, t46), (47, t47), (48, t48), (49, t49), (50, t50), (51, t51), (52, t52), (53, t53), (54, t54), (55, t55), (56, t56), (57, t57), (58, t58), (59, t59), (61, t61), (62, t62), (63, t63), (64, t64), (65, t65), (66, t66), (67, t67), (68, t68), (69, t69), (70, t70), (71, t71), (72, t72), (73, t73), (74, t74), (75, t75), (76, t76), (77, t77), (78, t78), (80, t80), (81, t81), (82, t82), (83, t83), (84, t84), (85, t85), (86, t86), (87, t87), (88, t88), (89, t89), (90, t90), (91, t91), (92, t92), (93, t93), (94, t94), (95, t95), (96, t96), (97, t97), (98, t98), (99, t99), (100, t100), (101, t101), (102, t102), (103, t103), (104, t104)]
theorem tree_eq : tree = treeOf rows := by kernel_rfl
theorem qaf : TabOk Tryd.prog (fun f => tree.get f) := rows_tab tree_eq ((qad Tryd.func3 cT3.2 (qad Tryd.func4 cT4.2 (qad Tryd.func5 cT5.2 (qad Tryd.func6 cT6.2 (qad Tryd.func7 cT7.2 (qad Tryd.func8 cT8.2 (qad Tryd.func9 cT9.2 (qad Tryd.func10 cT10.2 (qad Tryd.func11 cT11.2 (qad Tryd.func12 cT12.2 (qad Tryd.func13 cT13.2 (qad Tryd.func14 cT14.2 (qad Tryd.func15 cT15.2 (qad Tryd.func16 cT16.2 (qad Tryd.func17 cT17.2 (qad Tryd.func18 cT18.2 (qad Tryd.func19 cT19.2 (qad Tryd.func20 cT20.2 (qad Tryd.func21 cT21.2 (qad Tryd.func22 cT22.2 (qad Tryd.func23 cT23.2 (qad Tryd.func24 cT24.2 (qad Tryd.func25 cT25.2 (qad Tryd.func26 cT26.2 (qad Tryd.func27 cT27.2 (qad Tryd.func28 cT28.2 (qad Tryd.func29 cT29.2 (qad Tryd.func30 cT30.2 (qad Tryd.func31 cT31.2 (qad Tryd.func32 cT32.2 (qad Tryd.func33 cT33.2 (qad Tryd.func34 cT34.2 (qad Tryd.func35 cT35.2 (qad Tryd.func36 cT36.2 (qad Tryd.func37 cT37.2 (qad Tryd.func38 cT38.2 (qad Tryd.func39 cT39.2 (qad Tryd.func40 cT40.2 (qad Tryd.func41 cT41.2 (qad Tryd.func42 cT42.2 (qad Tryd.func43 cT43.2 (qad Tryd.func44 cT44.2 (qad Tryd.func45 cT45.2 (qad Tryd.func46 cT46.2 (qad Tryd.func47 cT47.2 (qad Tryd.func48 cT48.2 (qad Tryd.func49 cT49.2 (qad Tryd.func50 cT50.2 (qad Tryd.func51 cT51.2 (qad Tryd.func52 cT52.2 (qad Tryd.func53 cT53.2 (qad Tryd.func54 cT54.2 (qad Tryd.func55 cT55.2 (qad Tryd.func56 cT56.2 (qad Tryd.func57 cT57.2 (qad Tryd.func58 cT58.2 (qad Tryd.func59 cT59.2 (qad Tryd.func61 cT61.2 (qad Tryd.func62 cT62.2 (qad Tryd.func63 cT63.2 (qad Tryd.func64 cT64.2 (qad Tryd.func65 cT65.2 (qad Tryd.func66 cT66.2 (qad Tryd.func67 cT67.2 (qad Tryd.func68 cT68.2 (qad Tryd.func69 cT69.2 (qad Tryd.func70 cT70.2 (qad Tryd.func71 cT71.2 (qad Tryd.func72 cT72.2 (qad Tryd.func73 cT73.2 (qad Tryd.func74 cT74.2 (qad Tryd.func75 cT75.2 (qad Tryd.func76 cT76.2 (qad Tryd.func77 cT77.2 (qad Tryd.func78 cT78.2 (qad Tryd.func80 cT80.2 (qad Tryd.func81 cT81.2 (qad Tryd.func82 cT82.2 (qad Tryd.func83 cT83.2 (qad Tryd.func84 cT84.2 (qad Tryd.func85 cT85.2 (qad Tryd.func86 cT86.2 (qad Tryd.func87 cT87.2 (qad Tryd.func88 cT88.2 (qad Tryd.func89 cT89.2 (qad Tryd.func90 cT90.2 (qad Tryd.func91 cT91.2 (qad Tryd.func92 cT92.2 (qad Tryd.func93 cT93.2 (qad Tryd.func94 cT94.2 (qad Tryd.func95 cT95.2 (qad Tryd.func96 cT96.2 (qad Tryd.func97 cT97.2 (qad Tryd.func98 cT98.2 (qad Tryd.func99 cT99.2 (qad Tryd.func100 cT100.2 (qad Tryd.func101 cT101.2 (qad Tryd.func102 cT102.2 (qad Tryd.func103 cT103.2 (qad Tryd.func104 cT104.2 rows_nil)))))))))))))))))))))))))))))))))))))))))))))))))))))))))))))))))))))))))))))))))))))))))))))))))))))
theorem qak : Tryd.prog.follows .mixedOrders = true := by kernel_rfl
end Go.Proofs.YtheidgcgdkmmiaaDoor
