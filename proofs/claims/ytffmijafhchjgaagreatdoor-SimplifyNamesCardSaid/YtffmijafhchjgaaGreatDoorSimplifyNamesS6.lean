/- The run of SimplifyNames: state 6. -/
import Derived.Test.YtffmijafhchjgaaGreatDoorPlayCut
import Derived.Test.YtffmijafhchjgaaGreatDoorRows
namespace Go.Proofs.YtffmijafhchjgaaGreatDoor.simplifyNames
open Go Go.Play
set_option linter.unusedVariables false
set_option maxRecDepth 1000000
namespace s6
def q0 : Pa := .e
def q1 : Pa := (.l .e)
def q2 : Pa := (.r .e)
def q3 : Pa := (.l (.l .e))
def q4 : Pa := (.r (.l .e))
def q5 : Pa := (.l (.r .e))
def q6 : Pa := (.r (.r .e))
def q7 : Pa := (.l (.l (.l .e)))
def q8 : Pa := (.r (.l (.l .e)))
def q9 : Pa := (.l (.r (.l .e)))
def q10 : Pa := (.r (.r (.l .e)))
def q11 : Pa := (.l (.l (.r .e)))
def q12 : Pa := (.r (.l (.r .e)))
def q13 : Pa := (.l (.r (.r .e)))
def q14 : Pa := (.r (.r (.r .e)))
def q15 : Pa := (.l (.l (.l (.l .e))))
def q16 : Pa := (.r (.l (.l (.l .e))))
def q17 : Pa := (.l (.r (.l (.l .e))))
def q18 : Pa := (.r (.r (.l (.l .e))))
def q19 : Pa := (.l (.l (.r (.l .e))))
def q20 : Pa := (.r (.l (.r (.l .e))))
def q21 : Pa := (.l (.r (.r (.l .e))))
def q22 : Pa := (.r (.r (.r (.l .e))))
def q23 : Pa := (.l (.l (.l (.r .e))))
def q24 : Pa := (.r (.l (.l (.r .e))))
def q25 : Pa := (.l (.r (.l (.r .e))))
def q26 : Pa := (.r (.r (.l (.r .e))))
def q27 : Pa := (.l (.l (.r (.r .e))))
def q28 : Pa := (.r (.l (.r (.r .e))))
def q29 : Pa := (.l (.r (.r (.r .e))))
def q30 : Pa := (.r (.r (.r (.r .e))))
def q31 : Pa := (.l (.l (.l (.l (.l .e)))))
def q32 : Pa := (.r (.l (.l (.l (.l .e)))))
def q33 : Pa := (.l (.r (.l (.l (.l .e)))))
def q34 : Pa := (.r (.r (.l (.l (.l .e)))))
def q35 : Pa := (.l (.l (.r (.l (.l .e)))))
def q36 : Pa := (.r (.l (.r (.l (.l .e)))))
def q37 : Pa := (.l (.r (.r (.l (.l .e)))))
def q38 : Pa := (.r (.r (.r (.l (.l .e)))))
def q39 : Pa := (.l (.l (.l (.r (.l .e)))))
def q40 : Pa := (.r (.l (.l (.r (.l .e)))))
def q80 : Pa := (.r (.l (.l (.l (.r (.l .e))))))
def q81 : Pa := (.l (.r (.l (.l (.r (.l .e))))))
def q82 : Pa := (.r (.r (.l (.l (.r (.l .e))))))
def q83 : Pa := (.l (.l (.r (.l (.r (.l .e))))))
def q84 : Pa := (.r (.l (.r (.l (.r (.l .e))))))
def q85 : Pa := (.l (.r (.r (.l (.r (.l .e))))))
def q86 : Pa := (.r (.r (.r (.l (.r (.l .e))))))
def q87 : Pa := (.l (.l (.l (.r (.r (.l .e))))))
def q88 : Pa := (.r (.l (.l (.r (.r (.l .e))))))
def q17943 : Pa := (.l (.l (.l (.r (.r (.l (.l (.l (.l (.r (.r (.l (.l (.l .e))))))))))))))
def w1 : SV := (.lit (.bool .false))
def w2 : SV := (.lit (.bool .true))
def w3 : SV := (.lit (.tuple #[]))
def w4 : SV := (.agg [.any, .any, .any, .any, .any, .any])
def w5 : SV := (.agg [.any, .any])
noncomputable def f (u3 : TypeId) (y3 : Value) (u4 : TypeId) (y4 : Value) : SF := (.mk (.mk 5 .normal none) (ovrT (.node .any (.node .any .nil .nil) (.node w3 (.node w1 .nil .nil) .nil)) [(q0, (.lit (.string ⟨#[40, 99, 111, 110, 99, 97, 116, 32, 56, 58, 48, 48, 32, 40, 122, 101, 120, 116, 32, 56, 32, 99, 58, 52, 41, 41]⟩))), (q1, (.lit (.string ⟨#[40, 122, 101, 120, 116, 32, 49, 54, 32, 99, 58, 52, 41]⟩))), (q4, w1), (q5, w3), (q6, w3), (q7, w3), (q8, w3), (q9, w3), (q10, w3), (q11, w3), (q12, w3), (q13, w3), (q14, w3), (q15, w3), (q16, w3), (q17, w3), (q18, w3), (q19, w3), (q20, w3), (q21, w3), (q22, w3), (q23, w3), (q24, w3), (q25, w3), (q26, w3), (q27, w3), (q28, w3), (q29, w3), (q30, w3), (q31, w3), (q32, w3), (q33, w3), (q34, w3), (q35, w3), (q36, w3), (q37, w3), (q38, w3), (q39, w3), (q40, w3)]) [(.code (codeAt (bodyCode Go.Proofs.Tryz.f5) [1]))] [] .run)
noncomputable def cs (u3 : TypeId) (y3 : Value) (u4 : TypeId) (y4 : Value) : List SF := [(.mk (.mk 8 .normal none) (ovrT (.node w1 (.node w2 (.node w3 .nil .nil) .nil) (.node w2 (.node w3 .nil .nil) .nil)) [(q0, w1), (q1, w2), (q2, w2), (q3, w3), (q4, w3)]) [(.inReg (opsAt (codeAt (bodyCode Go.Proofs.Tryz.f8) [1, 0])) (((opsAt (codeAt (bodyCode Go.Proofs.Tryz.f8) [1, 0]))).toList.drop 2)), (.code (codeAt (bodyCode Go.Proofs.Tryz.f8) [1, 1]))] [] .run), (.mk (.mk 3 .normal none) (ovrT (.node w1 (.node .any (.node .any (.node w5 (.node w5 (.node w5 (.node .any .nil .nil) .nil) (.node w5 (.node .any .nil .nil) .nil)) (.node w5 (.node w5 (.node .any .nil .nil) .nil) (.node .any (.node w3 .nil .nil) .nil))) (.node w5 (.node w5 (.node w5 (.node (.tup [w4, .any]) .nil .nil) .nil) (.node .any (.node w3 .nil .nil) .nil)) (.node w5 (.node w5 (.node .any .nil .nil) .nil) (.node .any .nil .nil)))) (.node .any (.node w5 (.node w5 (.node w5 (.node w2 .nil .nil) .nil) (.node .any (.node w3 .nil .nil) .nil)) (.node w5 (.node w5 (.node w4 .nil .nil) .nil) (.node .any .nil .nil))) (.node w5 (.node w5 (.node w5 (.node (.tup [w4, .any]) .nil .nil) .nil) (.node .any (.node w3 .nil .nil) .nil)) (.node w5 (.node w5 (.node (.tup [w4, .any]) .nil .nil) .nil) (.node .any .nil .nil))))) (.node .any (.node .any (.node w5 (.node w5 (.node w5 (.node .any .nil .nil) .nil) (.node .any (.node w3 .nil .nil) .nil)) (.node w5 (.node w5 (.node (.tup [w4, .any]) .nil .nil) .nil) (.node .any (.node w3 .nil .nil) .nil))) (.node w5 (.node w5 (.node w5 (.node w4 .nil .nil) .nil) (.node w1 (.node w3 .nil .nil) .nil)) (.node w5 (.node w5 (.node w4 .nil .nil) .nil) (.node .any .nil .nil)))) (.node .any (.node w5 (.node w5 (.node w5 (.node w1 .nil .nil) .nil) (.node .any (.node w3 .nil .nil) .nil)) (.node w5 (.node w5 (.node w4 .nil .nil) .nil) (.node .any .nil .nil))) (.node w5 (.node w5 (.node w5 (.node w4 .nil .nil) .nil) (.node .any (.node w3 .nil .nil) .nil)) (.node w5 (.node w5 (.node w4 .nil .nil) .nil) (.node .any .nil .nil)))))) [(q0, w1), (q4, (.lit (.int .i64 (.ofNat 8)))), (q6, (.lit (.int .i64 (.ofNat 14)))), (q80, w3), (q81, w3), (q82, w3), (q83, w3), (q84, w3), (q85, w3), (q86, w3), (q87, w3), (q88, w3)]) [(.inReg (opsAt (codeAt (bodyCode Go.Proofs.Tryz.f3) [1, 1, 1, 1, 1, 0])) (((opsAt (codeAt (bodyCode Go.Proofs.Tryz.f3) [1, 1, 1, 1, 1, 0]))).toList.drop 0)), (.code (codeAt (bodyCode Go.Proofs.Tryz.f3) [1, 1, 0, 1, 0, 0, 1, 0, 0, 1, 0, 1]))] [] .run)]
noncomputable def h (u3 : TypeId) (y3 : Value) (u4 : TypeId) (y4 : Value) : H := (mkHeap q17943 [])
def keep : List Pa := [q0, q1, q4, q5, q6, q7, q8, q9, q10, q11, q12, q13, q14, q15, q16, q17, q18, q19, q20, q21, q22, q23, q24, q25, q26, q27, q28, q29, q30, q31, q32, q33, q34, q35, q36, q37, q38, q39, q40]
def keeps : List (List Pa) := [[q0, q1, q2, q3, q4], [q0, q4, q6, q80, q81, q82, q83, q84, q85, q86, q87, q88]]
def objs : List Pa := []
end s6

end Go.Proofs.YtffmijafhchjgaaGreatDoor.simplifyNames
