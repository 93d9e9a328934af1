/- Mathematics of scans: a text behind a text; where tokens stand. -/
import Derived.Test.YtdkfamlnmjhcfaaA2
namespace Go.Proofs.Ytdkfamlnmjhcfaa
open Go.RowKit Go.Sort

/-- A step without a fault looks no further than the byte 10. -/
theorem stp_app {r : List UInt8} {f f' : Nat} {n : Nat} {t : Option (Nat × List UInt8)} (hr : r ≠ []) (h : stp r f = .go n f' t) (q : List UInt8) : stp (r ++ 10 :: q) f = .go n f' t := by
  cases r with
  | nil => exact absurd rfl hr
  | cons c r =>
    rw [List.cons_append]
    simp only [stp, bgn] at h ⊢
    split at h
    · rename_i h1
      rw [if_pos h1, h]
    · rename_i h1
      rw [if_neg h1]
      split at h
      · rename_i h2
        rw [if_pos h2, ← h, ← List.cons_append, takeWhile_stop (by decide)]
      · rename_i h2
        rw [if_neg h2]
        split at h
        · rename_i h3
          rw [if_pos h3, h]
        · rename_i h3
          rw [if_neg h3]
          split at h
          · rename_i h4
            rw [if_pos h4, ← h]
            have hle := takeWhile_le inq r
            unfold quo
            rw [takeWhile_stop (by decide), List.drop_append_of_le_length hle]
            cases hd : r.drop (r.takeWhile inq).length with
            | nil =>
              unfold quo at h
              rw [hd] at h
              cases h
            | cons d tl => rfl
          · rename_i h4
            rw [if_neg h4]
            split at h
            · rename_i h5
              rw [if_pos h5, ← h]
              unfold wrd
              rw [← List.cons_append, takeWhile_stop (by decide)]
            · cases h
/-- A text behind one without a fault, that begins with the byte 10. -/
theorem Sc.app {b : Nat} {r : List UInt8} {f : Nat} {ts : List Tok} {o : Option (Nat × Int)} (h : Sc b r f ts o) (ho : o = none) {q : List UInt8} {ts2 : List Tok} {o2 : Option (Nat × Int)} (h2 : Sc (b + r.length + 1) q 2 ts2 o2) : Sc b (r ++ 10 :: q) f (ts ++ ts2) o2 := by
  induction h with
  | nil b f =>
    rw [List.nil_append, List.nil_append]
    have hs : stp (10 :: q) f = .go 1 2 none := by simp only [stp]; rw [if_pos (by decide)]
    exact Sc.more (t := none) (by simp) hs h2
  | bad => cases ho
  | @more b r f f' n t ts o hr hs _ ih =>
    have hp := stp_pos hr hs
    rw [List.append_assoc]
    refine Sc.more (by simp) (stp_app hr hs q) ?_
    rw [List.drop_append_of_le_length hp.2]
    refine ih ho ?_
    rw [List.length_drop, show b + n + (r.length - n) + 1 = b + r.length + 1 by omega]
    exact h2
/-- A blank ahead. -/
theorem Sc.blank {b : Nat} {c : UInt8} {q : List UInt8} {f : Nat} {ts : List Tok} {o : Option (Nat × Int)} (hc : blk c = true) (h : Sc (b + 1) q 2 ts o) : Sc b (c :: q) f ts o := by
  have hs : stp (c :: q) f = .go 1 2 none := by simp only [stp]; rw [if_pos hc]
  exact Sc.more (t := none) (by simp) hs h
/-- A remark ahead. -/
theorem Sc.remark {b : Nat} {m q : List UInt8} {f : Nat} {ts : List Tok} {o : Option (Nat × Int)} (hm : ∀ c ∈ m, rmk c = true) (h : Sc (b + (m.length + 1)) (10 :: q) 2 ts o) : Sc b (35 :: (m ++ 10 :: q)) f ts o := by
  have ht : (35 :: (m ++ 10 :: q)).takeWhile rmk = 35 :: m := by
    rw [← List.cons_append, takeWhile_stop (by decide)]
    refine takeWhile_all fun c hc => ?_
    rcases List.mem_cons.1 hc with rfl | hc
    · decide
    · exact hm c hc
  have hs : stp (35 :: (m ++ 10 :: q)) f = .go (m.length + 1) 2 none := by
    simp only [stp]
    rw [if_neg (by decide), if_pos (by decide), ht]
    rfl
  refine Sc.more (t := none) (by simp) hs ?_
  rw [List.drop_succ_cons, List.drop_left]
  exact h
/-- Places that are moved. -/
def Tok.by_ (n : Nat) (t : Tok) : Tok := ⟨t.kind, t.s, t.at_ + n⟩
theorem Sc.moved {b : Nat} {r : List UInt8} {f : Nat} {ts : List Tok} {o : Option (Nat × Int)} (h : Sc b r f ts o) (n : Nat) (ho : o = none) : Sc (b + n) r f (ts.map (Tok.by_ n)) none := by
  induction h with
  | nil => exact .nil _ _
  | bad => cases ho
  | @more b r f f' k t ts o hr hs _ ih =>
    have := ih ho
    rw [List.map_append, show (tokOf b t).map (Tok.by_ n) = tokOf (b + n) t by cases t <;> rfl]
    refine Sc.more hr hs ?_
    rw [show b + n + k = b + k + n by omega]
    exact this
theorem by_bare (n : Nat) (ts : List Tok) : (ts.map (Tok.by_ n)).map Tok.bare = ts.map Tok.bare := by
  rw [List.map_map]
  rfl
/-- Where tokens stand: each behind the last. -/
inductive Stand (l : List UInt8) : Nat → List Tok → Prop
  | nil (k : Nat) : Stand l k []
  | cons {k : Nat} {t : Tok} {ts : List Tok} : k ≤ t.at_ → t.at_ + (wr t.kind t.s).length ≤ l.length → (l.drop t.at_).take (wr t.kind t.s).length = wr t.kind t.s → Stand l (t.at_ + (wr t.kind t.s).length) ts → Stand l k (t :: ts)
theorem Stand.mono {l : List UInt8} {j k : Nat} {ts : List Tok} (h : Stand l k ts) (hj : j ≤ k) : Stand l j ts := by
  cases h with
  | nil => exact .nil _
  | cons h1 h2 h3 h4 => exact .cons (by omega) h2 h3 h4
theorem Sc.stand {b : Nat} {r : List UInt8} {f : Nat} {ts : List Tok} {o : Option (Nat × Int)} (h : Sc b r f ts o) {l : List UInt8} (hl : l.drop b = r) (hb : b ≤ l.length) : Stand l b ts := by
  induction h with
  | nil => exact .nil _
  | bad => exact .nil _
  | @more b r f f' n t ts o hr hs _ ih =>
    have hp := stp_pos hr hs
    have hlen : r.length = l.length - b := by rw [← hl, List.length_drop]
    have hrest := ih (by rw [← List.drop_drop, hl]) (by omega)
    cases t with
    | none => exact hrest.mono (by omega)
    | some x =>
      obtain ⟨k, s⟩ := x
      obtain ⟨_, h2, h3⟩ := stp_good hs
      refine .cons (Nat.le_refl _) ?_ ?_ ?_
      · show b + (wr k s).length ≤ _; omega
      · show (l.drop b).take (wr k s).length = _; rw [hl, ← h3]; exact h2
      · show Stand l (b + (wr k s).length) ts; rw [← h3]; exact hrest
end Go.Proofs.Ytdkfamlnmjhcfaa
