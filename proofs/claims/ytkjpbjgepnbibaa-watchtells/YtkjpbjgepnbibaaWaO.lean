/- The law WatchTells, of what came in. -/
import Derived.Test.YtkjpbjgepnbibaaWaM
import Derived.Test.YtkjpbjgepnbibaaWaN
namespace Go.Proofs.Ytkjpbjgepnbibaa
open Go.RowKit
open Ev (SV vi Bx Sg Kg)
set_option maxRecDepth 100000

theorem law_any (s : Srv) (id : Int) (l : Ls T3) (w : World) (lh : (mfH s).L w) (lq : (mfQ s).L w) (lm : (mfM s).L w) (lf : (mfF s).L w) (hfit : Fit s) (hwf : WfL s.q.l) (ll : (mfL T3.l 3 l).L w) (hll : l.l.length ≤ 5864062014634) :
    Calls Try.prog 3 #[.agg (srL s).toArray, .int .i64 id, l.v] w fun e w' => e = .returned (.bool true) ∧ Below w.heap.size w w' := by
  have hlv : ∀ k X, Ev.live [] ([] : List Bx) k = some X → False := fun k X h => by have := Ev.live_lt h; simp at this
  have h := kLaw_ok.o (s, id, l) ⟨hfit, hwf, hll⟩ [] w ⟨rfl, fun k x h => by simp [kLaw, Kg.sg] at h, (fun x h => by cases h), fun i j X _ h _ => hlv i X h⟩ (by simp [kLaw, Kg.sg, Ev.okL, Ev.okB]) (fun m hm => ⟨?_, fun k X h => (hlv k X h).elim⟩)
  · have e : Ev.denL [] (kLaw.sg.args (s, id, l)) = kLaw.args (s, id, l) := Ev.denL_v [] _
    rw [e] at h
    refine h.mono ?_
    rintro e w' ⟨y, bs', D⟩
    refine ⟨by rw [D.e]; simp only [kLaw, Kg.sg, SV.den], D.t.bl.os, D.t.bl.tape, D.t.bl.output, D.t.bl.size, fun k hk => D.t.k k hk fun hm => ?_⟩
    obtain ⟨j, hj⟩ := Ev.mem_lvs.1 hm
    exact hlv j k hj
  · have hm : m ∈ LwM (s, id, l) := hm
    unfold LwM at hm
    rcases List.mem_cons.1 hm with rfl | hm
    · exact lh
    rcases List.mem_cons.1 hm with rfl | hm
    · exact lq
    rcases List.mem_cons.1 hm with rfl | hm
    · exact lm
    rcases List.mem_cons.1 hm with rfl | hm
    · exact lf
    rw [List.mem_singleton.1 hm]
    exact ll
end Go.Proofs.Ytkjpbjgepnbibaa
