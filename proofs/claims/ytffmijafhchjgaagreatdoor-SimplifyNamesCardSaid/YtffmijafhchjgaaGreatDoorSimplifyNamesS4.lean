/- The run of SimplifyNames: state 4. -/
import Derived.Test.YtffmijafhchjgaaGreatDoorPlayCut
import Derived.Test.YtffmijafhchjgaaGreatDoorRows
namespace Go.Proofs.YtffmijafhchjgaaGreatDoor.simplifyNames
open Go Go.Play
set_option linter.unusedVariables false
set_option maxRecDepth 1000000
namespace s4
def q0 : Pa := .e
def q4 : Pa := (.r (.l .e))
def q5 : Pa := (.l (.r .e))
def q6 : Pa := (.r (.r .e))
def q72 : Pa := (.r (.l (.l (.r (.l (.l .e))))))
def q73 : Pa := (.l (.r (.l (.r (.l (.l .e))))))
def q74 : Pa := (.r (.r (.l (.r (.l (.l .e))))))
def q75 : Pa := (.l (.l (.r (.r (.l (.l .e))))))
def q76 : Pa := (.r (.l (.r (.r (.l (.l .e))))))
def q77 : Pa := (.l (.r (.r (.r (.l (.l .e))))))
def q78 : Pa := (.r (.r (.r (.r (.l (.l .e))))))
def q79 : Pa := (.l (.l (.l (.l (.r (.l .e))))))
def q80 : Pa := (.r (.l (.l (.l (.r (.l .e))))))
def q81 : Pa := (.l (.r (.l (.l (.r (.l .e))))))
def q82 : Pa := (.r (.r (.l (.l (.r (.l .e))))))
def q83 : Pa := (.l (.l (.r (.l (.r (.l .e))))))
def q84 : Pa := (.r (.l (.r (.l (.r (.l .e))))))
def q85 : Pa := (.l (.r (.r (.l (.r (.l .e))))))
def q86 : Pa := (.r (.r (.r (.l (.r (.l .e))))))
def q87 : Pa := (.l (.l (.l (.r (.r (.l .e))))))
def q88 : Pa := (.r (.l (.l (.r (.r (.l .e))))))
def q17306 : Pa := (.r (.r (.l (.r (.r (.l (.l (.r (.r (.r (.l (.l (.l (.l .e))))))))))))))
def q17307 : Pa := (.l (.l (.r (.r (.r (.l (.l (.r (.r (.r (.l (.l (.l (.l .e))))))))))))))
def q17308 : Pa := (.r (.l (.r (.r (.r (.l (.l (.r (.r (.r (.l (.l (.l (.l .e))))))))))))))
def w1 : SV := (.lit (.int .i64 (.ofNat 8)))
def w2 : SV := (.lit (.int .u64 (.ofNat 0)))
def w3 : SV := (.lit (.int .i64 (.ofNat 0)))
def w4 : SV := (.lit (.int .u8 (.ofNat 2)))
def w5 : SV := (.lit (.string ⟨#[97]⟩))
def w6 : SV := (.lit (.slice none 0 0))
def w7 : SV := (.lit (.bool .false))
def w8 : SV := (.lit (.tuple #[]))
def w9 : SV := (.agg [.any, .any, .any, .any, .any, .any])
def w10 : SV := (.agg [.any, .any])
noncomputable def f (u3 : TypeId) (y3 : Value) (u4 : TypeId) (y4 : Value) : SF := (.mk (.mk 7 .normal none) (ovrT (.node .any (.node .any (.node w8 (.node .any .nil .nil) .nil) (.node w8 (.node .any .nil .nil) .nil)) (.node .any (.node w8 (.node .any .nil .nil) .nil) (.node .any (.node w9 .nil .nil) .nil))) [(q6, (.ptr q17307 0))]) [(.code (codeAt (bodyCode Go.Proofs.Tryz.f7) [1, 1]))] [] .run)
noncomputable def cs (u3 : TypeId) (y3 : Value) (u4 : TypeId) (y4 : Value) : List SF := [(.mk (.mk 3 .normal none) (ovrT (.node w7 (.node .any (.node .any (.node w10 (.node w10 (.node w10 (.node .any .nil .nil) .nil) (.node w10 (.node w8 .nil .nil) .nil)) (.node w10 (.node w10 (.node .any .nil .nil) .nil) (.node .any (.node w8 .nil .nil) .nil))) (.node w10 (.node w10 (.node w10 (.node (.tup [w9, .any]) .nil .nil) .nil) (.node .any (.node w8 .nil .nil) .nil)) (.node w10 (.node w10 (.node .any .nil .nil) .nil) (.node .any .nil .nil)))) (.node w8 (.node w10 (.node w10 (.node w10 (.node (.lit (.bool .true)) .nil .nil) .nil) (.node .any (.node w8 .nil .nil) .nil)) (.node w10 (.node w10 (.node w9 .nil .nil) .nil) (.node .any .nil .nil))) (.node w10 (.node w10 (.node w10 (.node (.tup [w9, .any]) .nil .nil) .nil) (.node .any (.node w8 .nil .nil) .nil)) (.node w10 (.node w10 (.node w8 .nil .nil) .nil) (.node .any .nil .nil))))) (.node .any (.node .any (.node w10 (.node w10 (.node w10 (.node .any .nil .nil) .nil) (.node .any (.node w8 .nil .nil) .nil)) (.node w10 (.node w10 (.node w8 .nil .nil) .nil) (.node .any (.node w8 .nil .nil) .nil))) (.node w10 (.node w10 (.node w10 (.node w9 .nil .nil) .nil) (.node w7 (.node w8 .nil .nil) .nil)) (.node w10 (.node w10 (.node w8 .nil .nil) .nil) (.node .any .nil .nil)))) (.node w8 (.node w10 (.node w10 (.node w10 (.node w7 .nil .nil) .nil) (.node .any (.node w8 .nil .nil) .nil)) (.node w10 (.node w10 (.node w9 .nil .nil) .nil) (.node .any .nil .nil))) (.node w10 (.node w10 (.node w10 (.node w9 .nil .nil) .nil) (.node .any (.node w8 .nil .nil) .nil)) (.node w10 (.node w10 (.node w8 .nil .nil) .nil) (.node .any .nil .nil)))))) [(q0, w7), (q4, w1), (q5, w8), (q6, w8), (q72, w8), (q73, (.agg [w4, w1, w2, w5, w3, w6])), (q74, (.agg [w4, (.lit (.int .i64 (.ofNat 1))), w2, w5, w3, w6])), (q75, (.slc q17306 0 2 2 .true)), (q76, w8), (q77, w8), (q78, w8), (q79, w8), (q80, w8), (q81, w8), (q82, w8), (q83, w8), (q84, w8), (q85, w8), (q86, w8), (q87, w8), (q88, w8)]) [(.inReg (opsAt (codeAt (bodyCode Go.Proofs.Tryz.f3) [1, 1, 1, 1, 0])) (((opsAt (codeAt (bodyCode Go.Proofs.Tryz.f3) [1, 1, 1, 1, 0]))).toList.drop 3)), (.code (codeAt (bodyCode Go.Proofs.Tryz.f3) [1, 1, 1, 1, 1]))] [] .run)]
noncomputable def h (u3 : TypeId) (y3 : Value) (u4 : TypeId) (y4 : Value) : H := (mkHeap q17308 [(q17307, (.cells [(.lit (.int .u8 (.ofNat 20))), (.lit (.int .i64 (.ofNat 9))), w2, (.lit (.string ⟨#[]⟩)), w3, (.slc q17306 0 2 2 .true)] 28 .true)),
  (q17306, (.cells [w4, w1, w2, w5, w3, w6, w4, (.lit (.int .i64 (.ofNat 1))), w2, w5, w3, w6] 28 .true))])
def keep : List Pa := [q6]
def keeps : List (List Pa) := [[q0, q4, q5, q6, q72, q73, q74, q75, q76, q77, q78, q79, q80, q81, q82, q83, q84, q85, q86, q87, q88]]
def objs : List Pa := [q17307, q17306]
end s4

end Go.Proofs.YtffmijafhchjgaaGreatDoor.simplifyNames
