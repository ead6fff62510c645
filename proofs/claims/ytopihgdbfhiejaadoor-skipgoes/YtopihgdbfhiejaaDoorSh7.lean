/-
  An operation alone, whether its tower has room or not.
-/
import Derived.Test.YtopihgdbfhiejaaDoorSd4
import Derived.Test.YtopihgdbfhiejaaDoorSi1
set_option linter.unusedVariables false
set_option linter.unusedSimpArgs false
namespace Go.Proofs.YtopihgdbfhiejaaDoor
open Go.RowKit Go.Maps

/-- An Insert that has found too few cells. -/
structure Ful (s : Sl) (k : ByteArray) (h z p : Nat) (s' : Sl) (o : Opm) : Prop where
  ks : ks s' = ks s
  sp : s'.sp = o.cs
  nd : o.cs.Nodup
  no : ∀ x, 1 ≤ x → x < s.tw.length → (s.at x).k ≠ k
  lk : z < s.cells.length + h
  cl : o.cs.length ≤ 8
  ph : (o.st = 1 ∧ o.full = true ∧ OI s' o ∧ o.lv = 0 ∧ o.tw = 0 ∧ o.kind = 2 ∧ o.k = k ∧ (too s' o = 0 ∨ Blw o.k (s'.at (too s' o)).k) ∧ o.cs.length + 1 ≤ p) ∨
    (o.st = 4 ∧ o.cs ≠ [] ∧ o.fk = .empty ∧ o.nm = 0 ∧ o.had = false ∧ o.code = 31 ∧ o.cs.length ≤ p)
/-- What it comes to. -/
def FFin (s : Sl) (k : ByteArray) (kind h z : Nat) (s' : Sl) (o : Opm) : Prop :=
  kind = 2 ∧ o.st = 5 ∧ o.fk = .empty ∧ o.nm = 0 ∧ o.had = false ∧ o.code = 31 ∧ ks s' = ks s ∧ s'.sp = [] ∧ z < s.cells.length + h ∧ ∀ x, 1 ≤ x → x < s.tw.length → (s.at x).k ≠ k

section
variable {s s' s'' : Sl} {k : ByteArray} {kind : Nat} {r : Int} {h p z : Nat} {o o' : Opm}
theorem Ful.pos (a : Ful s k h z p s' o) : 1 ≤ p := by
  rcases a.ph with q | q
  · omega
  · have := List.length_pos_iff.2 q.2.1; omega
theorem Alo.full1 (a : Alo s k kind r h p s' o) (hok' : s'.ok) (hsp : s.sp = []) (h0 : o.st = 2) (hl : o.cs.length < o.h) (hz : s'.cells.length = z) : Ful s k h z (p - 1) s' { o with st := 1, full := true } := by
  obtain ⟨b1, b2, b3, b4, b5⟩ : o.st = 2 ∧ ks s' = ks s ∧ s'.sp = o.cs ∧ (h - o.cs.length) + h ≤ p ∧ ∀ x, 1 ≤ x → x < s.tw.length → (s.at x).k ≠ k := by
    rcases a.ph with q | q | q
    · omega
    · exact q
    · omega
  obtain ⟨t1, t2, t3, t4, t5⟩ := a.oi.two h0
  have hk : kind = 2 := by rw [← a.ekind]; exact t3
  obtain ⟨e1, e2, e3⟩ := a.eh hk
  obtain ⟨cs1, cs2⟩ := a.oi.cs t2
  have hlk : z < s.cells.length + h := by
    rw [cells_len, b2, b3] at hz
    rw [cells_len, hsp]
    simp only [List.length_nil]
    omega
  obtain ⟨p1, p2, p3⟩ := a.oi.pt 0 (by omega) (by decide)
  obtain ⟨n1, n2⟩ := a.oi.pn 0 (.inr (by omega)) (by omega) (by decide)
  have hex := a.ex 0 (.inr (by omega)) (by omega) (by decide)
  rw [hex, bh_nx hok' p1] at n2
  refine ⟨b2, b3, cs2, b5, hlk, a.oi.cl, .inl ⟨rfl, rfl, ⟨a.oi.lv, a.oi.pt, fun l q h1 h8 => a.oi.pn l (.inl ?_) h1 h8, fun q => absurd q (show ¬ (1 : Nat) = 2 by decide), fun q => absurd q (show ¬ (1 : Nat) = 3 by decide), a.oi.tw, a.oi.cs, a.oi.h8, a.oi.cl⟩, t1, t2, t3, a.ek, ?_, ?_⟩⟩
  · rcases q with q | q
    · exact q
    · exact absurd rfl q
  · show s'.nx (o.pt o.lv) o.lv = 0 ∨ Blw o.k (s'.at (s'.nx (o.pt o.lv) o.lv)).k
    rw [t1]
    exact n2.imp id (fun q => q.2)
  · show o.cs.length + 1 ≤ p - 1
    omega
theorem Ful.look (a : Ful s k h z p s' o) (hok' : s'.ok) (h0 : o.st = 1) (hs : Stp z s' o s'' o') : FFin s k 2 h z s'' o' ∨ (o'.st ≠ 5 ∧ Ful s k h z (p - 1) s'' o') := by
  obtain ⟨b1, b2, b3, b4, b5, b6, b7, b8, b9⟩ : o.st = 1 ∧ o.full = true ∧ OI s' o ∧ o.lv = 0 ∧ o.tw = 0 ∧ o.kind = 2 ∧ o.k = k ∧ (too s' o = 0 ∨ Blw o.k (s'.at (too s' o)).k) ∧ o.cs.length + 1 ≤ p := by
    rcases a.ph with q | q
    · exact q
    · omega
  cases hs with
  | found _ ht hk =>
    rcases b8 with q | q
    · exact absurd q ht
    · rw [hk] at q; exact absurd q Blw.irrefl
  | pass _ ht hk =>
    rcases b8 with q | q
    · exact absurd q ht
    · exact absurd (Blw.trans q hk) Blw.irrefl
  | take c q => omega
  | link q => omega
  | late q => omega
  | raise q => omega
  | slip q => omega
  | leave _ ht =>
    have e0 : (o.seen (nmo s' o)).left s' (too s' o) = ({ o.seen (nmo s' o) with code := 31 } : Opm).ans s' 0 false := by
      unfold Opm.left
      rw [if_neg (show ¬ (o.seen (nmo s' o)).tw ≠ 0 from fun q => q b5), if_neg (show ¬ (o.seen (nmo s' o)).lv ≠ 0 from fun q => q b4)]
      show (if o.kind = 0 then _ else if o.kind = 1 then _ else if o.full = true then _ else _) = _
      rw [if_neg (by omega), if_neg (by omega), if_pos b2]
    rw [e0]
    have hcs : o.cs.filter (fun c => s'.sp.contains c) = o.cs := List.filter_eq_self.2 (fun c hc => by rw [a.sp]; simpa using hc)
    have est : (({ o.seen (nmo s' o) with code := 31 } : Opm).ans s' 0 false).st = if o.cs.length = 0 then 5 else 4 := by
      show (if (o.cs.filter (fun c => s'.sp.contains c)).length = 0 then 5 else 4) = _
      rw [hcs]
    have ecs : (({ o.seen (nmo s' o) with code := 31 } : Opm).ans s' 0 false).cs = o.cs := hcs
    have ek : (({ o.seen (nmo s' o) with code := 31 } : Opm).ans s' 0 false).fk = .empty := hok'.hd.1
    have en : (({ o.seen (nmo s' o) with code := 31 } : Opm).ans s' 0 false).nm = 0 := hok'.hd.2.2.2
    by_cases hz : o.cs.length = 0
    · refine .inl ⟨rfl, by rw [est, if_pos hz], ek, en, rfl, rfl, a.ks, ?_, a.lk, a.no⟩
      rw [a.sp]; exact List.eq_nil_of_length_eq_zero hz
    · rw [if_neg hz] at est
      refine .inr ⟨by rw [est]; decide, ⟨a.ks, by rw [ecs]; exact a.sp, by rw [ecs]; exact a.nd, a.no, a.lk, by rw [ecs]; exact a.cl, .inr ⟨est, ?_, ek, en, rfl, rfl, ?_⟩⟩⟩
      · rw [ecs]; exact fun e => hz (by rw [e]; rfl)
      · rw [ecs]; omega
theorem Ful.give (a : Ful s k h z p s' o) {c : Nat} {rest : List Nat} (h0 : o.st = 4) (ec : o.cs = c :: rest) : (rest.length = 0 → FFin s k 2 h z (s'.given c) { o with cs := rest, st := if rest.length = 0 then 5 else 4 }) ∧ (rest.length ≠ 0 → Ful s k h z (p - 1) (s'.given c) { o with cs := rest, st := if rest.length = 0 then 5 else 4 }) := by
  obtain ⟨b1, b2, b3, b4, b5, b6, b7⟩ : o.st = 4 ∧ o.cs ≠ [] ∧ o.fk = .empty ∧ o.nm = 0 ∧ o.had = false ∧ o.code = 31 ∧ o.cs.length ≤ p := by
    rcases a.ph with q | q
    · omega
    · exact q
  have hnd := a.nd
  rw [ec] at hnd
  obtain ⟨n1, n2⟩ := List.nodup_cons.1 hnd
  have hsp : (s'.given c).sp = rest := by
    show s'.sp.filter (fun x => !(x == c)) = rest
    rw [a.sp, ec, List.filter_cons, if_neg (by simp)]
    refine List.filter_eq_self.2 (fun x hx => ?_)
    have : x ≠ c := fun e => n1 (e ▸ hx)
    simp [this]
  have hcl := a.cl
  rw [ec, List.length_cons] at hcl b7
  refine ⟨fun hr => ⟨rfl, if_pos hr, b3, b4, b5, b6, a.ks, ?_, a.lk, a.no⟩, fun hr => ⟨a.ks, hsp, n2, a.no, a.lk, by show rest.length ≤ 8; omega, .inr ⟨if_neg hr, ?_, b3, b4, b5, b6, ?_⟩⟩⟩
  · rw [hsp]; exact List.eq_nil_of_length_eq_zero hr
  · exact fun e => hr (by have : rest = [] := e; rw [this]; rfl)
  · show rest.length ≤ p - 1
    omega
end

section
variable {w : World} {K B : Nat → Prop} {lb d z M : Nat} {s : Sl} {ob : Nat} {cv : Value} {o : Opm} {k : ByteArray} {kind : Nat} {r : Int} {h : Nat}
theorem LT.le (hl : LT w K lb d z M s) : s.cells.length ≤ z := by
  obtain ⟨g, gt, tc, sv, T, N, m, F, hL, hok, hcw, hz, _⟩ := hl
  have := hcw.le
  have := hcw.tl
  omega

/-- done, of an operation that was just begun, whether there is room or not. -/
theorem done_full {most : Nat} (hl : LT w K lb d z M s) (hsp : s.sp = []) (ho : Om w ob (lpp lb) nilv { opS kind k with r := r, h := h }) (hob : ¬ K ob) (h0 : ob ≠ 0) (hk2 : kind ≠ 0 → kind ≠ 1 → kind = 2) (hh : kind = 2 → good k = true ∧ 1 ≤ h ∧ h ≤ 8) (hp : s.tw.length - 1 + 8 + (if kind = 2 then 2 * h else 0) ≤ most) (hmo : most ≤ 1000000) (hM : M < 1000000000000) :
    Calls Tryd.prog 15 #[.pointer (some ⟨ob, 0, none⟩), .int .i64 (most : Int)] w fun e w' => ∃ (n : Nat) (s' : Sl) (o' : Opm) (K' : Nat → Prop) (cv' : Value), e = .returned (.int .i64 (n : Int)) ∧ 1 ≤ n ∧ (Fin s k kind r h s' o' ∨ FFin s k kind h z s' o') ∧ LT w' K' lb d z (M + most) s' ∧ Om w' ob (lpp lb) cv' o' ∧ ¬ K' ob ∧ (∀ j, j < w.heap.size → (K' j ↔ K j)) ∧ Fr (fun j => K j ∨ j = ob) w w' := by
  obtain ⟨p, hpe⟩ : ∃ p, p = s.tw.length - 1 + 8 + (if kind = 2 then 2 * h else 0) := ⟨_, rfl⟩
  have hA : Alo s k kind r h p s { opS kind k with r := r, h := h } := by rw [hpe]; exact Alo.start hl.ok hk2 hh
  rw [← hpe] at hp
  have hok := hl.ok
  refine (done_gen (P := fun q u => ∃ s' o' K' B' cv' M', M' + q ≤ M + p ∧ ((o'.st ≠ 5 ∧ Alo s k kind r h q s' o') ∨ (kind = 2 ∧ Ful s k h z q s' o')) ∧ LT u K' lb d z M' s' ∧ Ob u B' ob lb cv' o' ∧ Nx w u K (fun j => j = ob) K' B') (R := fun u => ∃ s' o' K' B' cv', (Fin s k kind r h s' o' ∨ FFin s k kind h z s' o') ∧ LT u K' lb d z (M + p) s' ∧ Ob u B' ob lb cv' o' ∧ Nx w u K (fun j => j = ob) K' B') (p := p) ?_ ?_ ?_ hp hmo).mono ?_
  · exact ⟨s, _, K, fun j => j = ob, nilv, M, by omega, .inl ⟨show (1 : Nat) ≠ 5 by decide, hA⟩, hl, Om.begun (lp := nilv) ho rfl h0, Nx.same (fun j e q => hob (q ▸ e)) (Fr.refl _ w)⟩
  · rintro q u ⟨s', o', K', B', cv', M', hM', hx, _⟩
    rcases hx with ⟨h5, a⟩ | ⟨_, a⟩
    · exact a.pos h5
    · exact a.pos
  · rintro q u ⟨s', o', K', B', cv', M', hM', hx, hl', ho', hN⟩
    have hKB := hN.ap
    rcases hx with ⟨h5, a⟩ | ⟨hk, a⟩
    · have hq := a.pos h5
      by_cases hroom : o'.st = 2 → o'.cs.length < o'.h → s'.cells.length < z
      · refine (hl'.step ho' hKB a.oi a.st3 hroom (by omega)).mono ?_
        rintro e w1 ⟨s2, o2, K2, B2, cv2, rfl, hS, h2, ho2, hN2⟩
        refine ⟨_, rfl, fun hb => ?_, fun hb => ?_⟩
        · have hb := of_decide_eq_true hb
          rcases a.step hok hl'.ok hsp hS with hf | ⟨h3, _⟩
          · exact ⟨s2, o2, K2, B2, cv2, .inl hf, h2.up (by omega), ho2, hN.trans hN2⟩
          · exact absurd hb h3
        · have hb := of_decide_eq_false hb
          rcases a.step hok hl'.ok hsp hS with hf | ⟨h3, a2⟩
          · exact absurd hf.1 hb
          · exact ⟨s2, o2, K2, B2, cv2, M' + 1, by omega, .inl ⟨h3, a2⟩, h2, ho2, hN.trans hN2⟩
      · have h2 : o'.st = 2 := Decidable.byContradiction fun q => hroom (fun e => absurd e q)
        have hlt : o'.cs.length < o'.h := Decidable.byContradiction fun q => hroom (fun _ e => absurd e q)
        have hcz : s'.cells.length = z := by
          have := hl'.le
          have : ¬ s'.cells.length < z := fun q => hroom (fun _ _ => q)
          omega
        have hk : kind = 2 := by rw [← a.ekind]; exact (a.oi.two h2).2.2.1
        have hspe : s'.sp = o'.cs := by
          rcases a.ph with q | q | q
          · omega
          · exact q.2.2.1
          · omega
        refine (hl'.full ho' hKB a.oi h2 hlt (fun c hc => by rw [← hspe]; exact hc) hcz).mono ?_
        rintro e w1 ⟨cv2, rfl, q1, q2, q3⟩
        exact ⟨_, rfl, fun hb => (nomatch hb), fun _ => ⟨s', _, K', B', cv2, M', by omega, .inr ⟨hk, a.full1 hl'.ok hsp h2 hlt hcz⟩, q1, q2, hN.trans q3⟩⟩
    · have hq := a.pos
      subst hk
      rcases a.ph with b | b
      · refine (hl'.step ho' hKB b.2.2.1 (.inl b.1) (fun e => absurd e (by omega)) (by omega)).mono ?_
        rintro e w1 ⟨s2, o2, K2, B2, cv2, rfl, hS, h2, ho2, hN2⟩
        refine ⟨_, rfl, fun hb => ?_, fun hb => ?_⟩
        · have hb := of_decide_eq_true hb
          rcases a.look hl'.ok b.1 hS with hf | ⟨h3, _⟩
          · exact ⟨s2, o2, K2, B2, cv2, .inr hf, h2.up (by omega), ho2, hN.trans hN2⟩
          · exact absurd hb h3
        · have hb := of_decide_eq_false hb
          rcases a.look hl'.ok b.1 hS with hf | ⟨h3, a2⟩
          · exact absurd hf.2.1 hb
          · exact ⟨s2, o2, K2, B2, cv2, M' + 1, by omega, .inr ⟨rfl, a2⟩, h2, ho2, hN.trans hN2⟩
      · obtain ⟨c, rest, ec⟩ : ∃ c rest, o'.cs = c :: rest := by
          cases e : o'.cs with
          | nil => exact absurd e b.2.1
          | cons c rest => exact ⟨c, rest, rfl⟩
        have hg := a.give b.1 ec
        refine (hl'.give ho' hKB b.1 ec (fun c hc => by rw [a.sp]; exact hc) a.nd (by have := a.cl; omega)).mono ?_
        rintro e w1 ⟨cv2, rfl, q1, q2, q3⟩
        refine ⟨_, rfl, fun hb => ?_, fun hb => ?_⟩
        · exact ⟨_, _, K', B', cv2, .inr (hg.1 (of_decide_eq_true hb)), q1.up (by omega), q2, hN.trans q3⟩
        · exact ⟨_, _, K', B', cv2, M', by omega, .inr ⟨rfl, hg.2 (of_decide_eq_false hb)⟩, q1, q2, hN.trans q3⟩
  · rintro e w' ⟨n, rfl, n1, n2, s', o', K', B', cv', hf, hl', ho', hN⟩
    exact ⟨n, s', o', K', cv', rfl, n1, hf, hl'.up (by omega), ho'.om, fun e => hN.ap ob e (ho'.kk ob (.inl rfl)), hN.k, hN.fr⟩
end
end Go.Proofs.YtopihgdbfhiejaaDoor
