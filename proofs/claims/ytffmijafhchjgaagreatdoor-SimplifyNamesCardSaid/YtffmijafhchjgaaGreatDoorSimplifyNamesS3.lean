/- The run of SimplifyNames: state 3. -/
import Derived.Test.YtffmijafhchjgaaGreatDoorPlayCut
import Derived.Test.YtffmijafhchjgaaGreatDoorRows
namespace Go.Proofs.YtffmijafhchjgaaGreatDoor.simplifyNames
open Go Go.Play
set_option linter.unusedVariables false
set_option maxRecDepth 1000000
namespace s3
def q0 : Pa := .e
def q1 : Pa := (.l .e)
def q2 : Pa := (.r .e)
def q3 : Pa := (.l (.l .e))
def q4 : Pa := (.r (.l .e))
def q5 : Pa := (.l (.r .e))
def q6 : Pa := (.r (.r .e))
def q49 : Pa := (.l (.r (.l (.l (.r .e)))))
def q50 : Pa := (.r (.r (.l (.l (.r .e)))))
def q51 : Pa := (.l (.l (.r (.l (.r .e)))))
def q52 : Pa := (.r (.l (.r (.l (.r .e)))))
def q53 : Pa := (.l (.r (.r (.l (.r .e)))))
def q54 : Pa := (.r (.r (.r (.l (.r .e)))))
def q55 : Pa := (.l (.l (.l (.r (.r .e)))))
def q56 : Pa := (.r (.l (.l (.r (.r .e)))))
def q57 : Pa := (.l (.r (.l (.r (.r .e)))))
def q58 : Pa := (.r (.r (.l (.r (.r .e)))))
def q59 : Pa := (.l (.l (.r (.r (.r .e)))))
def q60 : Pa := (.r (.l (.r (.r (.r .e)))))
def q61 : Pa := (.l (.r (.r (.r (.r .e)))))
def q62 : Pa := (.r (.r (.r (.r (.r .e)))))
def q63 : Pa := (.l (.l (.l (.l (.l (.l .e))))))
def q64 : Pa := (.r (.l (.l (.l (.l (.l .e))))))
def q65 : Pa := (.l (.r (.l (.l (.l (.l .e))))))
def q66 : Pa := (.r (.r (.l (.l (.l (.l .e))))))
def q67 : Pa := (.l (.l (.r (.l (.l (.l .e))))))
def q68 : Pa := (.r (.l (.r (.l (.l (.l .e))))))
def q69 : Pa := (.l (.r (.r (.l (.l (.l .e))))))
def q70 : Pa := (.r (.r (.r (.l (.l (.l .e))))))
def q71 : Pa := (.l (.l (.l (.r (.l (.l .e))))))
def q72 : Pa := (.r (.l (.l (.r (.l (.l .e))))))
def q73 : Pa := (.l (.r (.l (.r (.l (.l .e))))))
def q74 : Pa := (.r (.r (.l (.r (.l (.l .e))))))
def q75 : Pa := (.l (.l (.r (.r (.l (.l .e))))))
def q76 : Pa := (.r (.l (.r (.r (.l (.l .e))))))
def q77 : Pa := (.l (.r (.r (.r (.l (.l .e))))))
def q78 : Pa := (.r (.r (.r (.r (.l (.l .e))))))
def q79 : Pa := (.l (.l (.l (.l (.r (.l .e))))))
def q80 : Pa := (.r (.l (.l (.l (.r (.l .e))))))
def q81 : Pa := (.l (.r (.l (.l (.r (.l .e))))))
def q82 : Pa := (.r (.r (.l (.l (.r (.l .e))))))
def q83 : Pa := (.l (.l (.r (.l (.r (.l .e))))))
def q84 : Pa := (.r (.l (.r (.l (.r (.l .e))))))
def q85 : Pa := (.l (.r (.r (.l (.r (.l .e))))))
def q86 : Pa := (.r (.r (.r (.l (.r (.l .e))))))
def q87 : Pa := (.l (.l (.l (.r (.r (.l .e))))))
def q88 : Pa := (.r (.l (.l (.r (.r (.l .e))))))
def q17286 : Pa := (.r (.r (.r (.l (.l (.l (.l (.r (.r (.r (.l (.l (.l (.l .e))))))))))))))
def w1 : SV := (.lit (.string ⟨#[56, 58, 48, 48]⟩))
def w2 : SV := (.lit (.string ⟨#[49, 58, 48]⟩))
def w3 : SV := (.lit (.string ⟨#[97, 58, 56]⟩))
def w4 : SV := (.lit (.int .i64 (.ofNat 40)))
def w5 : SV := (.lit (.bool .false))
def w6 : SV := (.lit (.bool .true))
def w7 : SV := (.lit (.tuple #[]))
def w8 : SV := (.slc q0 0 41 41 .true)
def w9 : SV := (.agg [.any, .any])
noncomputable def f (u3 : TypeId) (y3 : Value) (u4 : TypeId) (y4 : Value) : SF := (.mk (.mk 3 .normal none) (ovrT (.node w5 (.node .any (.node w7 (.node w9 (.node w9 (.node w9 (.node .any .nil .nil) .nil) (.node w9 (.node w7 .nil .nil) .nil)) (.node w9 (.node w9 (.node w7 .nil .nil) .nil) (.node .any (.node w7 .nil .nil) .nil))) (.node w9 (.node w9 (.node w9 (.node w7 .nil .nil) .nil) (.node .any (.node w7 .nil .nil) .nil)) (.node w9 (.node w9 (.node w7 .nil .nil) .nil) (.node .any .nil .nil)))) (.node w7 (.node w9 (.node w9 (.node w9 (.node w6 .nil .nil) .nil) (.node .any (.node w7 .nil .nil) .nil)) (.node w9 (.node w9 (.node w7 .nil .nil) .nil) (.node .any .nil .nil))) (.node w9 (.node w9 (.node w9 (.node w7 .nil .nil) .nil) (.node .any (.node w7 .nil .nil) .nil)) (.node w9 (.node w9 (.node w7 .nil .nil) .nil) (.node .any .nil .nil))))) (.node .any (.node w7 (.node w9 (.node w9 (.node w9 (.node .any .nil .nil) .nil) (.node .any (.node w7 .nil .nil) .nil)) (.node w9 (.node w9 (.node w7 .nil .nil) .nil) (.node .any (.node w7 .nil .nil) .nil))) (.node w9 (.node w9 (.node w9 (.node w7 .nil .nil) .nil) (.node w6 (.node w7 .nil .nil) .nil)) (.node w9 (.node w9 (.node w7 .nil .nil) .nil) (.node .any .nil .nil)))) (.node w7 (.node w9 (.node w9 (.node w9 (.node w5 .nil .nil) .nil) (.node .any (.node w7 .nil .nil) .nil)) (.node w9 (.node w9 (.node w7 .nil .nil) .nil) (.node .any .nil .nil))) (.node w9 (.node w9 (.node w9 (.node w7 .nil .nil) .nil) (.node .any (.node w7 .nil .nil) .nil)) (.node w9 (.node w9 (.node w7 .nil .nil) .nil) (.node .any .nil .nil)))))) [(q0, w5), (q1, w8), (q2, w4), (q3, w7), (q4, w7), (q5, w7), (q6, w7), (q49, w4), (q50, w8), (q51, (.lit (.int .i64 (.ofNat 41)))), (q52, w6), (q53, (.lit (.int .i64 (.ofNat 39)))), (q54, w4), (q55, w8), (q56, w4), (q57, (.ptr q0 80)), (q58, (.ptr q0 80)), (q59, (.lit (.string ⟨#[40, 117, 114, 101, 109, 32, 97, 58, 49, 32, 49, 58, 49, 41]⟩))), (q60, w8), (q61, w4), (q62, (.ptr q0 80)), (q63, (.ptr q0 81)), (q64, w2), (q65, w6), (q66, w5), (q67, w7), (q68, w7), (q69, w7), (q70, w7), (q71, w7), (q72, w7), (q73, w7), (q74, w7), (q75, w7), (q76, w7), (q77, w7), (q78, w7), (q79, w7), (q80, w7), (q81, w7), (q82, w7), (q83, w7), (q84, w7), (q85, w7), (q86, w7), (q87, w7), (q88, w7)]) [(.code (codeAt (bodyCode Go.Proofs.Tryz.f3) [1, 1, 0, 1, 0, 0, 1, 1])), (.inLoop (codeAt (bodyCode Go.Proofs.Tryz.f3) [1, 1, 0, 1, 0, 0])), (.inBlock 0), (.code (codeAt (bodyCode Go.Proofs.Tryz.f3) [1, 1, 1]))] [] .run)
noncomputable def cs (u3 : TypeId) (y3 : Value) (u4 : TypeId) (y4 : Value) : List SF := []
noncomputable def h (u3 : TypeId) (y3 : Value) (u4 : TypeId) (y4 : Value) : H := (mkHeap q17286 [(q0, (.cells [(.lit (.string ⟨#[40, 110, 111, 116, 32, 40, 110, 111, 116, 32, 97, 58, 56, 41, 41]⟩)), w3, (.lit (.string ⟨#[40, 110, 101, 103, 32, 40, 110, 101, 103, 32, 97, 58, 56, 41, 41]⟩)), w3, (.lit (.string ⟨#[40, 110, 111, 116, 32, 40, 110, 101, 103, 32, 97, 58, 56, 41, 41]⟩)), (.lit (.string ⟨#[40, 110, 111, 116, 32, 40, 110, 101, 103, 32, 97, 58, 56, 41, 41]⟩)), (.lit (.string ⟨#[40, 97, 100, 100, 32, 56, 58, 48, 48, 32, 97, 58, 56, 41]⟩)), w3, (.lit (.string ⟨#[40, 115, 117, 98, 32, 97, 58, 56, 32, 56, 58, 48, 48, 41]⟩)), w3, (.lit (.string ⟨#[40, 115, 117, 98, 32, 56, 58, 48, 48, 32, 97, 58, 56, 41]⟩)), (.lit (.string ⟨#[40, 115, 117, 98, 32, 56, 58, 48, 48, 32, 97, 58, 56, 41]⟩)), (.lit (.string ⟨#[40, 109, 117, 108, 32, 97, 58, 56, 32, 56, 58, 48, 48, 41]⟩)), w1, (.lit (.string ⟨#[40, 109, 117, 108, 32, 56, 58, 48, 49, 32, 97, 58, 56, 41]⟩)), w3, (.lit (.string ⟨#[40, 97, 110, 100, 32, 97, 58, 56, 32, 56, 58, 102, 102, 41]⟩)), w3, (.lit (.string ⟨#[40, 97, 110, 100, 32, 56, 58, 48, 48, 32, 97, 58, 56, 41]⟩)), w1, (.lit (.string ⟨#[40, 97, 110, 100, 32, 97, 58, 56, 32, 97, 58, 56, 41]⟩)), w3, (.lit (.string ⟨#[40, 111, 114, 32, 97, 58, 56, 32, 56, 58, 102, 102, 41]⟩)), (.lit (.string ⟨#[56, 58, 102, 102]⟩)), (.lit (.string ⟨#[40, 111, 114, 32, 56, 58, 48, 48, 32, 97, 58, 56, 41]⟩)), w3, (.lit (.string ⟨#[40, 120, 111, 114, 32, 97, 58, 56, 32, 97, 58, 56, 41]⟩)), w1, (.lit (.string ⟨#[40, 120, 111, 114, 32, 97, 58, 56, 32, 56, 58, 102, 102, 41]⟩)), (.lit (.string ⟨#[40, 120, 111, 114, 32, 97, 58, 56, 32, 56, 58, 102, 102, 41]⟩)), (.lit (.string ⟨#[40, 115, 104, 108, 32, 97, 58, 56, 32, 56, 58, 48, 56, 41]⟩)), w1, (.lit (.string ⟨#[40, 115, 104, 108, 32, 97, 58, 56, 32, 56, 58, 48, 55, 41]⟩)), (.lit (.string ⟨#[40, 115, 104, 108, 32, 97, 58, 56, 32, 56, 58, 48, 55, 41]⟩)), (.lit (.string ⟨#[40, 115, 104, 114, 32, 56, 58, 48, 48, 32, 97, 58, 56, 41]⟩)), w1, (.lit (.string ⟨#[40, 115, 97, 114, 32, 97, 58, 56, 32, 56, 58, 48, 48, 41]⟩)), w3, (.lit (.string ⟨#[40, 115, 97, 114, 32, 97, 58, 56, 32, 56, 58, 102, 102, 41]⟩)), (.lit (.string ⟨#[40, 115, 97, 114, 32, 97, 58, 56, 32, 56, 58, 102, 102, 41]⟩)), (.lit (.string ⟨#[40, 117, 100, 105, 118, 32, 97, 58, 56, 32, 56, 58, 48, 49, 41]⟩)), w3, (.lit (.string ⟨#[40, 117, 114, 101, 109, 32, 97, 58, 56, 32, 56, 58, 48, 49, 41]⟩)), w1, (.lit (.string ⟨#[40, 117, 100, 105, 118, 32, 56, 58, 48, 48, 32, 97, 58, 56, 41]⟩)), (.lit (.string ⟨#[40, 117, 100, 105, 118, 32, 56, 58, 48, 48, 32, 97, 58, 56, 41]⟩)), (.lit (.string ⟨#[40, 101, 113, 32, 97, 58, 56, 32, 97, 58, 56, 41]⟩)), (.lit (.string ⟨#[49, 58, 49]⟩)), (.lit (.string ⟨#[40, 117, 108, 116, 32, 97, 58, 56, 32, 56, 58, 48, 48, 41]⟩)), w2, (.lit (.string ⟨#[40, 115, 108, 116, 32, 97, 58, 56, 32, 97, 58, 56, 41]⟩)), w2, (.lit (.string ⟨#[40, 115, 108, 116, 32, 97, 58, 56, 32, 56, 58, 48, 48, 41]⟩)), (.lit (.string ⟨#[40, 115, 108, 116, 32, 97, 58, 56, 32, 56, 58, 48, 48, 41]⟩)), (.lit (.string ⟨#[40, 105, 116, 101, 32, 49, 58, 49, 32, 97, 58, 56, 32, 98, 58, 56, 41]⟩)), w3, (.lit (.string ⟨#[40, 105, 116, 101, 32, 49, 58, 48, 32, 97, 58, 56, 32, 98, 58, 56, 41]⟩)), (.lit (.string ⟨#[98, 58, 56]⟩)), (.lit (.string ⟨#[40, 105, 116, 101, 32, 99, 58, 49, 32, 97, 58, 56, 32, 97, 58, 56, 41]⟩)), w3, (.lit (.string ⟨#[40, 99, 111, 110, 99, 97, 116, 32, 51, 58, 48, 32, 97, 58, 56, 41]⟩)), (.lit (.string ⟨#[40, 122, 101, 120, 116, 32, 49, 49, 32, 97, 58, 56, 41]⟩)), (.lit (.string ⟨#[40, 99, 111, 110, 99, 97, 116, 32, 97, 58, 56, 32, 51, 58, 48, 41]⟩)), (.lit (.string ⟨#[40, 99, 111, 110, 99, 97, 116, 32, 97, 58, 56, 32, 51, 58, 48, 41]⟩)), (.lit (.string ⟨#[40, 101, 120, 116, 114, 97, 99, 116, 32, 48, 32, 56, 32, 97, 58, 56, 41]⟩)), w3, (.lit (.string ⟨#[40, 101, 120, 116, 114, 97, 99, 116, 32, 50, 32, 51, 32, 40, 101, 120, 116, 114, 97, 99, 116, 32, 49, 32, 54, 32, 97, 58, 56, 41, 41]⟩)), (.lit (.string ⟨#[40, 101, 120, 116, 114, 97, 99, 116, 32, 51, 32, 51, 32, 97, 58, 56, 41]⟩)), (.lit (.string ⟨#[40, 122, 101, 120, 116, 32, 56, 32, 97, 58, 56, 41]⟩)), w3, (.lit (.string ⟨#[40, 115, 101, 120, 116, 32, 51, 50, 32, 40, 115, 101, 120, 116, 32, 49, 54, 32, 97, 58, 56, 41, 41]⟩)), (.lit (.string ⟨#[40, 115, 101, 120, 116, 32, 51, 50, 32, 97, 58, 56, 41]⟩)), (.lit (.string ⟨#[40, 122, 101, 120, 116, 32, 51, 50, 32, 40, 115, 101, 120, 116, 32, 49, 54, 32, 97, 58, 56, 41, 41]⟩)), (.lit (.string ⟨#[40, 122, 101, 120, 116, 32, 51, 50, 32, 40, 115, 101, 120, 116, 32, 49, 54, 32, 97, 58, 56, 41, 41]⟩)), (.lit (.string ⟨#[40, 117, 100, 105, 118, 32, 56, 58, 48, 55, 32, 56, 58, 48, 48, 41]⟩)), (.lit (.string ⟨#[56, 58, 102, 102]⟩)), (.lit (.string ⟨#[40, 108, 111, 97, 100, 32, 56, 32, 40, 97, 100, 100, 32, 56, 58, 48, 49, 32, 56, 58, 48, 50, 41, 41]⟩)), (.lit (.string ⟨#[40, 108, 111, 97, 100, 32, 56, 32, 56, 58, 48, 51, 41]⟩)), (.lit (.string ⟨#[40, 109, 117, 108, 32, 97, 58, 49, 32, 49, 58, 49, 41]⟩)), (.lit (.string ⟨#[97, 58, 49]⟩)), (.lit (.string ⟨#[40, 117, 114, 101, 109, 32, 97, 58, 49, 32, 49, 58, 49, 41]⟩)), w2] 22 .true))])
def keep : List Pa := [q0, q1, q2, q3, q4, q5, q6, q49, q50, q51, q52, q53, q54, q55, q56, q57, q58, q59, q60, q61, q62, q63, q64, q65, q66, q67, q68, q69, q70, q71, q72, q73, q74, q75, q76, q77, q78, q79, q80, q81, q82, q83, q84, q85, q86, q87, q88]
def keeps : List (List Pa) := []
def objs : List Pa := [q0]
end s3

end Go.Proofs.YtffmijafhchjgaaGreatDoor.simplifyNames
