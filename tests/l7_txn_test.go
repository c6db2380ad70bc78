package tests

import (
	"maps"
	"math"
	"slices"
	"testing"

	"loop.example/springhead/impl"
)

const lastTime = 100000

// past is a base, and what was given at each time that is known, the first first.
type past struct {
	base  impl.Base
	given []map[string]bool
}

func (p past) first() int {
	return p.base.Time - len(p.base.Hist)
}

func (p past) now() map[string]bool {
	return p.given[len(p.given)-1]
}

// turnedFacts is a set, but what of a list was in it is not, and what was not is.
func turnedFacts(set map[string]bool, list []impl.Atom) map[string]bool {
	out := maps.Clone(set)
	for s := range setOf(list) {
		if out[s] {
			delete(out, s)
		} else {
			out[s] = true
		}
	}
	return out
}

// changeBetween is the change from a set to another one.
func changeBetween(a, b map[string]bool) impl.Change {
	comes, goes := maps.Clone(b), maps.Clone(a)
	for s := range a {
		delete(comes, s)
	}
	for s := range b {
		delete(goes, s)
	}
	return impl.Change{Comes: listOf(comes), Goes: listOf(goes)}
}

// allowed says whether facts may be given to rules, and not too much follows.
func allowed(list []impl.Rule, set map[string]bool) bool {
	_, ok := impl.Eval(list, listOf(set))
	return ok
}

// with is the past one commit later.
func (p past) with(c impl.Change) past {
	b := p.base
	b.Time++
	b.Given = listOf(done(p.now(), c))
	b.Hist = append(slices.Clone(b.Hist), c)
	given := append(slices.Clone(p.given), setOf(b.Given))
	if len(b.Hist) > impl.HistMax {
		b.Hist, given = b.Hist[1:], given[1:]
	}
	return past{base: b, given: given}
}

// pastOf is a base to which facts were given one by one, from a time on.
func pastOf(list []impl.Rule, time int, changes ...impl.Change) past {
	p := past{base: impl.Base{Rules: list, Time: time}, given: []map[string]bool{{}}}
	for _, c := range changes {
		p = p.with(c)
	}
	return p
}

// past is a base that was made up, with some commits.
func (d *dice) past(commits int) past {
	list := d.evalRules(5, 2)
	for !allowed(list, nil) {
		list = d.evalRules(5, 2)
	}
	p := pastOf(list, []int{0, 0, 3, lastTime - commits}[d.roll(4)])
	for range commits {
		then := turnedFacts(p.now(), d.evalFacts(4))
		if allowed(list, then) {
			p = p.with(changeBetween(p.now(), then))
		}
	}
	return p
}

// txn is a transaction of a time that is known, mostly one that is ok.
func (d *dice) txn(p past) impl.Txn {
	from := d.roll(len(p.given))
	then := turnedFacts(p.given[from], d.evalFacts(3))
	return impl.Txn{From: p.first() + from, Change: changeBetween(p.given[from], then)}
}

// spoiledTxn is a transaction in which something was turned, so that it seldom is ok.
func (d *dice) spoiledTxn(p past) impl.Txn {
	x := d.txn(p)
	switch d.roll(6) {
	case 0:
		x.From += d.roll(7) - 3
	case 1:
		x.From = []int{-1, math.MinInt, math.MaxInt, lastTime + 1}[d.roll(4)]
	case 2:
		x.Change.Comes, x.Change.Goes = x.Change.Goes, x.Change.Comes
	case 3:
		x.Change = d.evalChange(4)
	case 4:
		x.Change.Comes = append(x.Change.Comes, d.fact())
	default:
		bad := badChanges()
		x.Change = bad[d.roll(len(bad))]
	}
	return x
}

// sees is what a transaction sees, as the document says it; false if it is not ok.
func (p past) sees(x impl.Txn) (map[string]bool, bool) {
	if x.From < p.first() || x.From > p.base.Time || !impl.ChangeOk(x.Change) {
		return nil, false
	}
	was := p.given[x.From-p.first()]
	for s := range setOf(x.Change.Comes) {
		if was[s] {
			return nil, false
		}
	}
	for s := range setOf(x.Change.Goes) {
		if !was[s] {
			return nil, false
		}
	}
	then := done(was, x.Change)
	return then, allowed(p.base.Rules, then)
}

// saidIn is all facts that a change changes.
func saidIn(c impl.Change) map[string]bool {
	return setOf(slices.Concat(c.Comes, c.Goes))
}

// end is what TxnEnd tells, as the document says it.
func (p past) end(x impl.Txn) (past, int) {
	if x.From < p.first() {
		return p, impl.TxnOld
	}
	if _, ok := p.sees(x); !ok {
		return p, impl.TxnBad
	}
	said := saidIn(x.Change)
	if len(said) == 0 {
		return p, impl.TxnFine
	}
	for _, c := range p.base.Hist[x.From-p.first():] {
		for s := range saidIn(c) {
			if said[s] {
				return p, impl.TxnClash
			}
		}
	}
	if p.base.Time == lastTime || !allowed(p.base.Rules, done(p.now(), x.Change)) {
		return p, impl.TxnMany
	}
	return p.with(x.Change), impl.TxnFine
}

// mustEnd is TxnEnd where it has to be fine.
func mustEnd(t *testing.T, b impl.Base, x impl.Txn) impl.Base {
	t.Helper()
	then, code := impl.TxnEnd(b, x)
	expect(t, []any{b, x}, code, impl.TxnFine)
	return then
}

// mustSee is TxnSees where it has to be true.
func mustSee(t *testing.T, b impl.Base, x impl.Txn) []impl.Atom {
	t.Helper()
	seen, ok := impl.TxnSees(b, x)
	expect(t, []any{b, x}, ok, true)
	return seen
}

func comes(texts ...string) impl.Change {
	return impl.Change{Comes: atoms(texts...)}
}

func goes(texts ...string) impl.Change {
	return impl.Change{Goes: atoms(texts...)}
}

// cube is rules by which too much follows of seven facts d(X), unless s() is given.
func cube() []impl.Rule {
	return rules("h(X,Y,Z) if d(X) and d(Y) and d(Z) and not s()")
}

// toggles is changes by which a fact comes and goes, in turn.
func toggles(fact string, count int) []impl.Change {
	var out []impl.Change
	for i := range count {
		out = append(out, []impl.Change{comes(fact), goes(fact)}[i%2])
	}
	return out
}

// goodBases is bases that are ok, each at a limit.
func goodBases() map[string]impl.Base {
	full := pastOf(nil, 0, toggles("p()", impl.HistMax)...).base
	last := pastOf(nil, lastTime-3, toggles("p()", 3)...).base
	unknown := impl.Base{Time: 7, Given: atoms("p()")}
	return map[string]impl.Base{
		"nothing": {}, "HistMax": full, "time 100000": last, "nothing is known of earlier": unknown,
		"time 100000, nothing is known":  {Time: lastTime},
		"a change of nothing":            {Time: 2, Given: atoms("p()"), Hist: []impl.Change{comes("p()"), {}}},
		"GivenMax":                       {Given: numbered("p", 0, impl.GivenMax)},
		"GivenMax earlier":               {Time: 1, Hist: []impl.Change{{Goes: numbered("p", 0, impl.GivenMax)}}},
		"all that may follow":            {Rules: cube(), Given: numbered("d", 0, 6)},
		"it was another number of terms": {Time: 1, Given: atoms("p()", "p(a)"), Hist: []impl.Change{comes("p(a)")}},
	}
}

// badBases is bases that are not ok, each by one thing.
func badBases() map[string]impl.Base {
	p, some := atoms("p()"), atoms("p()", "q()")
	seven := numbered("d", 0, 7)
	out := map[string]impl.Base{
		"time -1":                {Time: -1, Given: p},
		"time 100001":            {Time: lastTime + 1, Given: p},
		"the least time":         {Time: math.MinInt},
		"the greatest time":      {Time: math.MaxInt, Given: p, Hist: []impl.Change{comes("p()")}},
		"more than HistMax":      {Time: impl.HistMax + 1, Given: p, Hist: toggles("p()", impl.HistMax+1)},
		"more than there was":    {Time: 1, Hist: toggles("p()", 2)},
		"at time 0":              {Given: p, Hist: toggles("p()", 1)},
		"comes, and is not":      {Time: 1, Given: atoms("q()"), Hist: []impl.Change{comes("p()")}},
		"one of two is not":      {Time: 1, Given: p, Hist: []impl.Change{comes("p()", "q()")}},
		"goes, and is":           {Time: 1, Given: p, Hist: []impl.Change{goes("p()")}},
		"comes twice":            {Time: 2, Given: p, Hist: []impl.Change{comes("p()"), comes("p()")}},
		"goes twice":             {Time: 2, Hist: []impl.Change{goes("p()"), goes("p()")}},
		"comes and goes":         {Time: 1, Given: p, Hist: []impl.Change{{Comes: p, Goes: p}}},
		"comes twice in one":     {Time: 1, Given: p, Hist: []impl.Change{comes("p()", "p()")}},
		"changes in no order":    {Time: 1, Given: some, Hist: []impl.Change{comes("q()", "p()")}},
		"facts in no order":      {Given: atoms("q()", "p()")},
		"a fact twice":           {Given: atoms("p()", "p()")},
		"a variable":             {Given: atoms("p(X)")},
		"a variable that is a":   {Time: 1, Given: atoms("p(a)"), Hist: []impl.Change{{Comes: []impl.Atom{{Name: "p", Args: []impl.Term{{Var: true, Name: "a"}}}}}}},
		"other numbers of terms": {Rules: rules("p(X) if q(X)"), Given: p},
		"other numbers earlier":  {Rules: rules("p(X) if q(X)"), Time: 1, Hist: []impl.Change{goes("p()")}},
		"more than GivenMax":     {Given: numbered("p", 0, impl.GivenMax+1)},
		"more earlier":           {Time: 1, Hist: []impl.Change{{Goes: numbered("p", 0, impl.GivenMax+1)}}},
		"more than AllMax":       {Time: 1, Given: p, Hist: []impl.Change{{Goes: numbered("q", 0, impl.AllMax)}}},
		"too much follows":       {Rules: cube(), Given: seven},
		"too much followed":      {Rules: cube(), Time: 1, Given: seven[:6], Hist: []impl.Change{{Goes: seven[6:]}}},
		"too much at first":      {Rules: cube(), Time: 2, Given: seven[:6], Hist: []impl.Change{{Comes: atoms("s()"), Goes: seven[6:]}, goes("s()")}},
		"rules of which too much": {Rules: append(rules("d(0)", "d(1)", "d(2)", "d(3)", "d(4)", "d(5)", "d(6)"),
			readRule("h(X,Y,Z) if d(X) and d(Y) and d(Z)"))},
	}
	for _, list := range badRules() {
		out["rules "+short(list)] = impl.Base{Rules: list, Time: 1}
	}
	return out
}

func TestLimitsAndCodes(t *testing.T) {
	limits := []int{impl.NameMax, impl.ArgMax, impl.BodyMax, impl.RuleMax, impl.TextMax, impl.GivenMax, impl.AllMax, impl.ProofMax, impl.HistMax, impl.LogMax}
	expect(t, "limits", limits, []int{8, 3, 4, 8, 1500, 40, 300, 60, 30, 400000})
	codes := []int{impl.TxnFine, impl.TxnBad, impl.TxnThere, impl.TxnNone, impl.TxnClash, impl.TxnMany, impl.TxnOld}
	expect(t, "codes", codes, []int{0, 1, 2, 3, 4, 5, 6})
}

func TestP28BasesThatAreOk(t *testing.T) {
	for name, b := range goodBases() {
		expect(t, name, impl.BaseOk(b), true)
	}
	for name, b := range badBases() {
		expect(t, name, impl.BaseOk(b), false)
	}
	d := newDice(80)
	for range 300 {
		p := d.past(d.roll(8))
		expect(t, p.base, impl.BaseOk(p.base), true)
		// Of a change that never was the opposite was not so either, unless it is nothing.
		if len(p.base.Hist) > 0 {
			b := p.base
			b.Hist = slices.Clone(b.Hist)
			i := d.roll(len(b.Hist))
			c := b.Hist[i]
			b.Hist[i] = impl.Change{Comes: c.Goes, Goes: c.Comes}
			expect(t, b, impl.BaseOk(b), len(saidIn(c)) == 0)
		}
	}
}

// TestP28BasesThatAreNot is of what each function answers of them.
func TestP28BasesThatAreNot(t *testing.T) {
	p := readAtom("p()")
	for name, b := range badBases() {
		for _, time := range []int{b.Time, b.Time - len(b.Hist), 0, -1, 1} {
			was, ok := impl.BaseAt(b, time)
			expect(t, name, ok, false)
			expect(t, name, was, []impl.Atom(nil))
		}
		expect(t, name, impl.TxnBegin(b), impl.Txn{})
		for _, x := range []impl.Txn{{From: b.Time}, {From: b.Time - 1}, {From: -1}, {From: b.Time, Change: comes("x()")}} {
			expect(t, name, impl.TxnOk(b, x), false)
			seen, ok := impl.TxnSees(b, x)
			expect(t, name, ok, false)
			expect(t, name, seen, []impl.Atom(nil))
			rows, ok := impl.TxnAsk(b, x, []impl.Part{{Atom: p}})
			expect(t, name, ok, false)
			expect(t, name, rows, [][]string(nil))
			for _, f := range []func(impl.Base, impl.Txn, impl.Atom) (impl.Txn, int){impl.TxnAdd, impl.TxnGone} {
				then, code := f(b, x, p)
				expect(t, name, code, impl.TxnBad)
				expect(t, name, then, impl.Txn{})
			}
			then, code := impl.TxnEnd(b, x)
			expect(t, name, code, impl.TxnBad)
			expect(t, name, then, impl.Base{})
		}
	}
}

func TestP28GivenAtATime(t *testing.T) {
	d := newDice(81)
	for range 300 {
		p := d.past(d.roll(8))
		for i, set := range p.given {
			was, ok := impl.BaseAt(p.base, p.first()+i)
			expect(t, p.base, ok, true)
			expect(t, p.base, was, listOf(set))
			if i > 0 {
				ahead, _ := impl.BaseAt(p.base, p.first()+i-1)
				expect(t, p.base, impl.ChangeDo(ahead, p.base.Hist[i-1]), was)
			}
		}
		now, _ := impl.BaseAt(p.base, p.base.Time)
		expect(t, p.base, now, p.base.Given)
		for _, time := range []int{p.first() - 1, p.base.Time + 1, -1, lastTime + 1, math.MinInt, math.MaxInt} {
			was, ok := impl.BaseAt(p.base, time)
			expect(t, []any{p.base, time}, ok, false)
			expect(t, p.base, was, []impl.Atom(nil))
		}
	}
}

func TestP28Examples(t *testing.T) {
	b := impl.Base{Time: 5, Given: atoms("b()", "c()"), Hist: []impl.Change{goes("a()"), {Comes: atoms("a()", "c()"), Goes: atoms("x()")}, {}, {Comes: atoms("b()"), Goes: atoms("a()")}}}
	expect(t, "ok", impl.BaseOk(b), true)
	for time, want := range map[int][]impl.Atom{1: atoms("a()", "x()"), 2: atoms("x()"), 3: atoms("a()", "c()"), 4: atoms("a()", "c()"), 5: atoms("b()", "c()")} {
		was, ok := impl.BaseAt(b, time)
		expect(t, time, ok, true)
		expect(t, time, was, want)
	}
	for _, time := range []int{0, 6} {
		_, ok := impl.BaseAt(b, time)
		expect(t, time, ok, false)
	}
}

// TestP28HistMax is of as many commits as are known, and one more.
func TestP28HistMax(t *testing.T) {
	b := impl.BaseNew(nil)
	facts := numbered("p", 0, impl.HistMax+1)
	for i, a := range facts {
		b = mustEnd(t, b, impl.Txn{From: i, Change: impl.Change{Comes: []impl.Atom{a}}})
		expect(t, i, impl.BaseOk(b), true)
		expect(t, i, b.Time, i+1)
		expect(t, i, len(b.Hist), min(i+1, impl.HistMax))
		was, ok := impl.BaseAt(b, 0)
		expect(t, i, ok, i < impl.HistMax)
		expect(t, i, was, []impl.Atom(nil))
		was, ok = impl.BaseAt(b, 1)
		expect(t, i, ok, true)
		expect(t, i, was, facts[:1])
	}
	expect(t, "the first is forgotten", b.Hist[0], impl.Change{Comes: facts[1:2]})
}

func TestP29Begins(t *testing.T) {
	d := newDice(82)
	for range 300 {
		p := d.past(d.roll(8))
		x := impl.TxnBegin(p.base)
		expect(t, p.base, x, impl.Txn{From: p.base.Time})
		expect(t, p.base, impl.TxnOk(p.base, x), true)
		expect(t, p.base, mustSee(t, p.base, x), p.base.Given)
		expect(t, p.base, mustEnd(t, p.base, x), p.base)
	}
	for name, b := range goodBases() {
		expect(t, name, impl.TxnBegin(b), impl.Txn{From: b.Time})
		expect(t, name, mustEnd(t, b, impl.TxnBegin(b)), b)
	}
}

func TestP29NewBases(t *testing.T) {
	d := newDice(83)
	for range 300 {
		list := d.evalRules(impl.RuleMax, 2)
		b := impl.BaseNew(list)
		expect(t, list, b, impl.Base{Rules: list})
		expect(t, list, impl.BaseOk(b), allowed(list, nil))
	}
	for _, bad := range badRules() {
		expect(t, bad, impl.BaseNew(bad), impl.Base{})
	}
	expect(t, "no rules", impl.BaseNew(nil), impl.Base{})
	// Too much follows of these, but they are fine.
	much := badBases()["rules of which too much"]
	expect(t, "too much", impl.BaseNew(much.Rules), much)
}

// TestTxnsThatAreOk holds TxnOk and TxnSees against what the document says, step by step.
func TestTxnsThatAreOk(t *testing.T) {
	d := newDice(84)
	good, bad := 0, 0
	for range 1500 {
		p := d.past(d.roll(6))
		for _, x := range []impl.Txn{d.txn(p), d.spoiledTxn(p)} {
			want, ok := p.sees(x)
			expect(t, []any{p.base, x}, impl.TxnOk(p.base, x), ok)
			seen, told := impl.TxnSees(p.base, x)
			expect(t, []any{p.base, x}, told, ok)
			if ok {
				good++
				expect(t, []any{p.base, x}, seen, listOf(want))
				continue
			}
			bad++
			expect(t, []any{p.base, x}, seen, []impl.Atom(nil))
			for _, f := range []func(impl.Base, impl.Txn, impl.Atom) (impl.Txn, int){impl.TxnAdd, impl.TxnGone} {
				then, code := f(p.base, x, d.fact())
				expect(t, []any{p.base, x}, code, impl.TxnBad)
				expect(t, []any{p.base, x}, then, impl.Txn{})
			}
			rows, told := impl.TxnAsk(p.base, x, readBody("e(X,Y)"))
			expect(t, []any{p.base, x}, told, false)
			expect(t, []any{p.base, x}, rows, [][]string(nil))
		}
	}
	if good < 500 || bad < 500 {
		t.Fatal("too few of a kind:", good, bad)
	}
}

func TestTxnsThatAreOkExamples(t *testing.T) {
	b := impl.Base{Rules: rules("t(X) if e(X,Y)"), Time: 9, Given: atoms("e(a,b)", "p()"), Hist: []impl.Change{comes("e(a,b)"), comes("p()"), goes("q()")}}
	expect(t, "base", impl.BaseOk(b), true)
	for _, c := range []struct {
		x    impl.Txn
		want bool
	}{
		{impl.Txn{From: 6}, true}, {impl.Txn{From: 9}, true},
		{impl.Txn{From: 5}, false}, {impl.Txn{From: 10}, false}, {impl.Txn{}, false}, {impl.Txn{From: -1}, false}, {impl.Txn{From: math.MinInt}, false}, {impl.Txn{From: math.MaxInt}, false},
		{impl.Txn{From: 9, Change: comes("q()")}, true}, {impl.Txn{From: 8, Change: comes("q()")}, false}, {impl.Txn{From: 8, Change: goes("q()")}, true}, {impl.Txn{From: 9, Change: goes("q()")}, false},
		{impl.Txn{From: 7, Change: comes("p()")}, true}, {impl.Txn{From: 8, Change: comes("p()")}, false}, {impl.Txn{From: 7, Change: goes("p()")}, false}, {impl.Txn{From: 8, Change: goes("p()")}, true},
		{impl.Txn{From: 9, Change: comes("a()", "p()")}, false}, {impl.Txn{From: 9, Change: goes("p()", "q()")}, false},
		{impl.Txn{From: 9, Change: comes("b()", "a()")}, false}, {impl.Txn{From: 9, Change: impl.Change{Comes: atoms("a()"), Goes: atoms("a()")}}, false},
		{impl.Txn{From: 9, Change: comes("e(a)")}, false}, {impl.Txn{From: 9, Change: comes("t(a,b)")}, false}, {impl.Txn{From: 9, Change: comes("t(a)")}, true}, {impl.Txn{From: 9, Change: comes("p(a)")}, true},
		{impl.Txn{From: 9, Change: comes("a(X)")}, false}, {impl.Txn{From: 9, Change: goes("p(X)")}, false},
		{impl.Txn{From: 9, Change: impl.Change{Comes: numbered("z", 0, impl.GivenMax-2)}}, true}, {impl.Txn{From: 9, Change: impl.Change{Comes: numbered("z", 0, impl.GivenMax-1)}}, false},
		{impl.Txn{From: 9, Change: impl.Change{Comes: numbered("z", 0, impl.GivenMax-1), Goes: atoms("p()")}}, true},
		// With so many ChangeDo has nothing, of which Eval would be true.
		{impl.Txn{From: 9, Change: impl.Change{Comes: numbered("z", 0, impl.AllMax)}}, false},
	} {
		expect(t, c, impl.TxnOk(b, c.x), c.want)
		_, ok := impl.TxnSees(b, c.x)
		expect(t, c, ok, c.want)
	}
	seven := numbered("d", 0, 7)
	much := impl.Base{Rules: cube(), Given: seven[:3]}
	expect(t, "all that may follow", impl.TxnOk(much, impl.Txn{Change: impl.Change{Comes: seven[3:6]}}), true)
	expect(t, "too much follows", impl.TxnOk(much, impl.Txn{Change: impl.Change{Comes: seven[3:]}}), false)
}

// addCode is the code of TxnAdd of a transaction that is ok, and what it sees then.
func (p past) addCode(seen map[string]bool, a impl.Atom) (map[string]bool, int) {
	then := done(seen, impl.Change{Comes: []impl.Atom{a}})
	switch {
	case !impl.FactsFit(p.base.Rules, []impl.Atom{a}):
		return seen, impl.TxnBad
	case seen[impl.AtomPut(a)]:
		return seen, impl.TxnThere
	case !allowed(p.base.Rules, then):
		return seen, impl.TxnMany
	}
	return then, impl.TxnFine
}

func (p past) goneCode(seen map[string]bool, a impl.Atom) (map[string]bool, int) {
	then := done(seen, impl.Change{Goes: []impl.Atom{a}})
	switch {
	case !seen[impl.AtomPut(a)]:
		return seen, impl.TxnNone
	case !allowed(p.base.Rules, then):
		return seen, impl.TxnMany
	}
	return then, impl.TxnFine
}

// anyFact is a fact that is seen, or one that may be given, or any atom.
func (d *dice) anyFact(seen []impl.Atom) impl.Atom {
	switch d.roll(4) {
	case 0:
		return d.fact()
	case 1:
		return d.atom()
	case 2:
		return d.evalAtom([]string{"e", "p", "q", "t", "r", "s", "h"}, []string{"a", "b", "c"})
	}
	if len(seen) == 0 {
		return readAtom("s()")
	}
	return seen[d.roll(len(seen))]
}

// forTxns rolls bases, transactions that are ok, what they see, and facts.
func forTxns(d *dice, rounds int, do func(p past, x impl.Txn, seen map[string]bool, a impl.Atom)) {
	for range rounds {
		p := d.past(d.roll(6))
		for range 4 {
			x := d.txn(p)
			if seen, ok := p.sees(x); ok {
				do(p, x, seen, d.anyFact(listOf(seen)))
			}
		}
	}
}

func TestP30GivesAFact(t *testing.T) {
	codes := map[int]int{}
	forTxns(newDice(85), 800, func(p past, x impl.Txn, seen map[string]bool, a impl.Atom) {
		what := []any{p.base, x, a}
		want, wantCode := p.addCode(seen, a)
		then, code := impl.TxnAdd(p.base, x, a)
		codes[code]++
		expect(t, what, code, wantCode)
		if code != impl.TxnFine {
			expect(t, what, then, x)
			return
		}
		expect(t, what, then.From, x.From)
		expect(t, what, then.Change, changeBetween(p.given[x.From-p.first()], want))
		more, _ := impl.FactsAdd(listOf(seen), a)
		expect(t, what, mustSee(t, p.base, then), more)
		again, code := impl.TxnAdd(p.base, then, a)
		expect(t, what, code, impl.TxnThere)
		expect(t, what, again, then)
		back, code := impl.TxnGone(p.base, then, a)
		expect(t, what, code, impl.TxnFine)
		expect(t, what, mustSee(t, p.base, back), listOf(seen))
	})
	if codes[impl.TxnFine] < 100 || codes[impl.TxnThere] < 100 || codes[impl.TxnBad] < 100 {
		t.Fatal("too few of a code:", codes)
	}
}

// expectCode fails unless a transaction has a code, and is as it was.
func expectCode(t *testing.T, f func(impl.Base, impl.Txn, impl.Atom) (impl.Txn, int), b impl.Base, x impl.Txn, a impl.Atom, want int) {
	t.Helper()
	then, code := f(b, x, a)
	expect(t, []any{b, x, a}, code, want)
	expect(t, []any{b, x, a}, then, x)
}

// noFacts is atoms that nobody sees.
func noFacts() []impl.Atom {
	return []impl.Atom{{}, readAtom("p(X)"), readAtom("not()"), readAtom("p(a,b,c,d)"), readAtom("P()"), readAtom("abcdefghi()"), {Name: "p", Args: []impl.Term{{Var: true, Name: "a"}}}}
}

func TestP30CodesOfAdding(t *testing.T) {
	b := impl.Base{Rules: rules("t(X) if e(X,Y)"), Given: atoms("e(a,b)", "p(a)")}
	x := impl.TxnBegin(b)
	for _, a := range slices.Concat(noFacts(), atoms("e()", "e(a)", "e(a,b,c)", "t()", "t(a,b)")) {
		expectCode(t, impl.TxnAdd, b, x, a, impl.TxnBad)
	}
	expectCode(t, impl.TxnAdd, b, x, readAtom("e(a,b)"), impl.TxnThere)
	for _, s := range []string{"e(b,a)", "t(a)", "t(z)", "p()", "p(a,b)", "x(a,b,c)"} {
		then, code := impl.TxnAdd(b, x, readAtom(s))
		expect(t, s, code, impl.TxnFine)
		expect(t, s, then, impl.Txn{Change: comes(s)})
	}
	// As many as may be given, and of two codes that are both so the first.
	full := impl.Base{Rules: b.Rules, Time: 4, Given: append(atoms("e(a,b)"), numbered("p", 0, impl.GivenMax-2)...)}
	x, code := impl.TxnAdd(full, impl.TxnBegin(full), readAtom("q()"))
	expect(t, "GivenMax", code, impl.TxnFine)
	expectCode(t, impl.TxnAdd, full, x, readAtom("r()"), impl.TxnMany)
	expectCode(t, impl.TxnAdd, full, x, readAtom("q()"), impl.TxnThere)
	expectCode(t, impl.TxnAdd, full, x, readAtom("e(a)"), impl.TxnBad)
	expectCode(t, impl.TxnAdd, full, x, readAtom("r(X)"), impl.TxnBad)
	expectCode(t, impl.TxnAdd, impl.Base{}, impl.TxnBegin(impl.Base{}), readAtom("p(X)"), impl.TxnBad)
	// As many as may follow.
	much := impl.Base{Rules: cube(), Given: numbered("d", 0, 5)}
	x, code = impl.TxnAdd(much, impl.TxnBegin(much), readAtom("d(x)"))
	expect(t, "AllMax", code, impl.TxnFine)
	expectCode(t, impl.TxnAdd, much, x, readAtom("d(y)"), impl.TxnMany)
}

func TestP31TakesAFactAway(t *testing.T) {
	codes := map[int]int{}
	forTxns(newDice(86), 800, func(p past, x impl.Txn, seen map[string]bool, a impl.Atom) {
		what := []any{p.base, x, a}
		want, wantCode := p.goneCode(seen, a)
		then, code := impl.TxnGone(p.base, x, a)
		codes[code]++
		expect(t, what, code, wantCode)
		if code != impl.TxnFine {
			expect(t, what, then, x)
			return
		}
		expect(t, what, then.From, x.From)
		expect(t, what, then.Change, changeBetween(p.given[x.From-p.first()], want))
		less, _ := impl.FactsGone(listOf(seen), a)
		expect(t, what, mustSee(t, p.base, then), less)
		again, code := impl.TxnGone(p.base, then, a)
		expect(t, what, code, impl.TxnNone)
		expect(t, what, again, then)
		back, code := impl.TxnAdd(p.base, then, a)
		expect(t, what, code, impl.TxnFine)
		expect(t, what, back, x)
	})
	if codes[impl.TxnFine] < 100 || codes[impl.TxnNone] < 100 {
		t.Fatal("too few of a code:", codes)
	}
}

func TestP31CodesOfTakingAway(t *testing.T) {
	b := impl.Base{Rules: rules("t(X) if e(X,Y)"), Given: atoms("e(a,b)", "p(a)")}
	for _, a := range slices.Concat(noFacts(), atoms("e(a)", "t()", "e(b,a)", "p()", "t(a)")) {
		expectCode(t, impl.TxnGone, b, impl.TxnBegin(b), a, impl.TxnNone)
	}
	// What keeps too much from following.
	much := impl.Base{Rules: cube(), Given: append(numbered("d", 0, 7), readAtom("s()"))}
	expectCode(t, impl.TxnGone, much, impl.TxnBegin(much), readAtom("s()"), impl.TxnMany)
	x, code := impl.TxnGone(much, impl.TxnBegin(much), readAtom("d(003)"))
	expect(t, "one less", code, impl.TxnFine)
	x, code = impl.TxnGone(much, x, readAtom("s()"))
	expect(t, "one less", code, impl.TxnFine)
	expect(t, "one less", x, impl.Txn{Change: goes("d(003)", "s()")})
}

func TestP32AsksWhatFollows(t *testing.T) {
	d := newDice(87)
	some := 0
	forTxns(newDice(88), 500, func(p past, x impl.Txn, seen map[string]bool, a impl.Atom) {
		body := []impl.Part{{Atom: d.evalAtom([]string{"e", "t", "q", "r", "p"}, []string{"X", "Y", "a"})}, {Not: true, Atom: a}}[:1+d.roll(2)]
		rows, ok := impl.TxnAsk(p.base, x, body)
		expect(t, body, ok, impl.AskOk(body))
		if ok {
			all := mustEval(t, p.base.Rules, listOf(seen))
			expect(t, []any{p.base, x, body}, rows, rowsOf(all, body))
			some += len(rows)
		} else {
			expect(t, body, rows, [][]string(nil))
		}
	})
	if some < 500 {
		t.Fatal("too few rows:", some)
	}
	b := impl.Base{Rules: rules("t(X,Y) if e(X,Y)", "t(X,Z) if t(X,Y) and e(Y,Z)"), Time: 1, Given: atoms("e(a,b)", "e(b,c)"), Hist: []impl.Change{comes("e(b,c)")}}
	for _, c := range []struct {
		x    impl.Txn
		want [][]string
	}{
		{impl.Txn{From: 1}, [][]string{{"b"}, {"c"}}},
		{impl.Txn{From: 0}, [][]string{{"b"}}},
		{impl.Txn{From: 0, Change: comes("e(b,d)")}, [][]string{{"b"}, {"d"}}},
		{impl.Txn{From: 1, Change: goes("e(a,b)")}, nil},
	} {
		rows, ok := impl.TxnAsk(b, c.x, readBody("t(a,X)"))
		expect(t, c.x, ok, true)
		expect(t, c.x, rows, c.want)
	}
	for _, bad := range badBodies() {
		rows, ok := impl.TxnAsk(b, impl.Txn{From: 1}, bad)
		expect(t, bad, ok, false)
		expect(t, bad, rows, [][]string(nil))
	}
}

func TestP33SeesOneTime(t *testing.T) {
	d := newDice(89)
	for range 40 {
		p := d.past(d.roll(10))
		x := d.txn(p)
		seen, ok := p.sees(x)
		if !ok || p.base.Time > lastTime-100 {
			continue
		}
		b := p.base
		for i := range impl.HistMax + 2 {
			other := []impl.Change{comes("z()"), goes("z()")}[i%2]
			b = mustEnd(t, b, impl.Txn{From: b.Time, Change: other})
			known := x.From >= b.Time-impl.HistMax
			got, ok := impl.TxnSees(b, x)
			expect(t, []any{b, x}, ok, known)
			expect(t, []any{b, x}, impl.TxnOk(b, x), known)
			if !known {
				expect(t, []any{b, x}, got, []impl.Atom(nil))
				same, code := impl.TxnEnd(b, x)
				expect(t, []any{b, x}, code, impl.TxnOld)
				expect(t, []any{b, x}, same, b)
				continue
			}
			expect(t, []any{b, x}, got, listOf(seen))
		}
	}
}

// TestP34Commits holds TxnEnd against what the document says, step by step.
func TestP34Commits(t *testing.T) {
	d := newDice(90)
	codes := map[int]int{}
	for range 1500 {
		p := d.past(d.roll(8))
		for _, x := range []impl.Txn{d.txn(p), d.spoiledTxn(p)} {
			want, wantCode := p.end(x)
			then, code := impl.TxnEnd(p.base, x)
			codes[code]++
			expect(t, []any{p.base, x}, code, wantCode)
			expect(t, []any{p.base, x}, then, want.base)
			if code != impl.TxnFine {
				expect(t, []any{p.base, x}, then, p.base)
				continue
			}
			expect(t, []any{p.base, x}, impl.BaseOk(then), true)
			expect(t, []any{p.base, x}, then.Given, impl.ChangeDo(p.base.Given, x.Change))
			if len(saidIn(x.Change)) == 0 {
				expect(t, []any{p.base, x}, then, p.base)
				continue
			}
			expect(t, []any{p.base, x}, then.Time, p.base.Time+1)
			was, ok := impl.BaseAt(then, p.base.Time)
			expect(t, []any{p.base, x}, ok, true)
			expect(t, []any{p.base, x}, was, p.base.Given)
		}
	}
	for _, code := range []int{impl.TxnFine, impl.TxnBad, impl.TxnClash, impl.TxnMany, impl.TxnOld} {
		if codes[code] < 50 {
			t.Fatal("too few of a code:", codes)
		}
	}
}

func TestP34CodesOfEnding(t *testing.T) {
	list := rules("t(X) if e(X,Y)")
	known := impl.Base{Rules: list, Time: 9, Given: atoms("a()", "e(a,b)"), Hist: []impl.Change{comes("a()"), goes("b()"), comes("e(a,b)")}}
	last := impl.Base{Time: lastTime, Given: atoms("a()"), Hist: []impl.Change{comes("a()")}}
	full := impl.Base{Time: 1, Given: numbered("p", 0, impl.GivenMax), Hist: []impl.Change{{Comes: numbered("p", impl.GivenMax-1, 1)}}}
	seven := numbered("d", 0, 8)
	much := impl.Base{Rules: cube(), Time: 1, Given: seven[:6], Hist: []impl.Change{{Comes: seven[5:6]}}}
	bad := impl.Change{Comes: atoms("b()", "a()")}
	for _, c := range []struct {
		b    impl.Base
		x    impl.Txn
		want int
	}{
		{known, impl.Txn{From: 5}, impl.TxnOld}, {known, impl.Txn{From: 0}, impl.TxnOld}, {known, impl.Txn{From: -1}, impl.TxnOld}, {known, impl.Txn{From: math.MinInt}, impl.TxnOld},
		{known, impl.Txn{From: 5, Change: bad}, impl.TxnOld}, {known, impl.Txn{From: 5, Change: comes("a()")}, impl.TxnOld}, {last, impl.Txn{From: lastTime - 2, Change: comes("z()")}, impl.TxnOld},
		{known, impl.Txn{From: 10}, impl.TxnBad}, {known, impl.Txn{From: math.MaxInt}, impl.TxnBad}, {known, impl.Txn{From: 10, Change: comes("z()")}, impl.TxnBad},
		{known, impl.Txn{From: 9, Change: bad}, impl.TxnBad}, {known, impl.Txn{From: 9, Change: comes("a()")}, impl.TxnBad}, {known, impl.Txn{From: 9, Change: goes("b()")}, impl.TxnBad}, {known, impl.Txn{From: 9, Change: comes("e(a)")}, impl.TxnBad},
		{known, impl.Txn{From: 6, Change: goes("a()")}, impl.TxnBad}, {known, impl.Txn{From: 7, Change: comes("b()")}, impl.TxnBad}, {last, impl.Txn{From: lastTime + 1, Change: comes("z()")}, impl.TxnBad},
		{full, impl.Txn{From: 0, Change: impl.Change{Comes: numbered("p", impl.GivenMax-1, 2)}}, impl.TxnBad}, {much, impl.Txn{From: 1, Change: impl.Change{Comes: seven[6:]}}, impl.TxnBad},
		{known, impl.Txn{From: 6}, impl.TxnFine}, {known, impl.Txn{From: 9}, impl.TxnFine}, {last, impl.Txn{From: lastTime}, impl.TxnFine}, {last, impl.Txn{From: lastTime - 1}, impl.TxnFine}, {full, impl.Txn{From: 0}, impl.TxnFine},
		{known, impl.Txn{From: 6, Change: comes("a()")}, impl.TxnClash}, {known, impl.Txn{From: 7, Change: goes("a()")}, impl.TxnFine}, {known, impl.Txn{From: 6, Change: goes("b()")}, impl.TxnClash}, {known, impl.Txn{From: 7, Change: goes("b()")}, impl.TxnClash},
		{known, impl.Txn{From: 8, Change: comes("b()")}, impl.TxnFine}, {known, impl.Txn{From: 8, Change: comes("e(a,b)")}, impl.TxnClash}, {known, impl.Txn{From: 9, Change: goes("e(a,b)")}, impl.TxnFine},
		{known, impl.Txn{From: 6, Change: comes("c()", "e(a,b)", "z()")}, impl.TxnClash}, {known, impl.Txn{From: 6, Change: comes("c()", "z()")}, impl.TxnFine}, {known, impl.Txn{From: 6, Change: impl.Change{Comes: atoms("c()"), Goes: atoms("b()")}}, impl.TxnClash},
		{last, impl.Txn{From: lastTime - 1, Change: comes("a()")}, impl.TxnClash}, {last, impl.Txn{From: lastTime, Change: comes("z()")}, impl.TxnMany}, {last, impl.Txn{From: lastTime - 1, Change: comes("z()")}, impl.TxnMany},
		{full, impl.Txn{From: 0, Change: impl.Change{Comes: numbered("p", impl.GivenMax-1, 1)}}, impl.TxnClash}, {full, impl.Txn{From: 0, Change: comes("z()")}, impl.TxnMany}, {full, impl.Txn{From: 1, Change: goes("p(000)")}, impl.TxnFine},
		{much, impl.Txn{From: 0, Change: impl.Change{Comes: seven[6:7]}}, impl.TxnMany}, {much, impl.Txn{From: 0, Change: comes("z()")}, impl.TxnFine}, {much, impl.Txn{From: 0, Change: impl.Change{Comes: seven[6:7], Goes: seven[:1]}}, impl.TxnFine},
	} {
		expect(t, "base", impl.BaseOk(c.b), true)
		then, code := impl.TxnEnd(c.b, c.x)
		expect(t, []any{c.b, c.x}, code, c.want)
		if code != impl.TxnFine || len(saidIn(c.x.Change)) == 0 {
			expect(t, []any{c.b, c.x}, then, c.b)
			continue
		}
		expect(t, []any{c.b, c.x}, then, impl.Base{Rules: c.b.Rules, Time: c.b.Time + 1, Given: impl.ChangeDo(c.b.Given, c.x.Change), Hist: append(slices.Clone(c.b.Hist), c.x.Change)})
	}
}

// TestP34LastTime is of the last commit that there can be.
func TestP34LastTime(t *testing.T) {
	b := impl.Base{Time: lastTime - 1, Given: atoms("a()")}
	b = mustEnd(t, b, impl.Txn{From: b.Time, Change: comes("b()")})
	expect(t, "last", b, impl.Base{Time: lastTime, Given: atoms("a()", "b()"), Hist: []impl.Change{comes("b()")}})
	x, code := impl.TxnAdd(b, impl.TxnBegin(b), readAtom("c()"))
	expect(t, "last", code, impl.TxnFine)
	same, code := impl.TxnEnd(b, x)
	expect(t, "last", code, impl.TxnMany)
	expect(t, "last", same, b)
}

func TestP35FirstWins(t *testing.T) {
	d := newDice(91)
	won := 0
	for range 800 {
		p := d.past(d.roll(8))
		x := d.txn(p)
		b, code := impl.TxnEnd(p.base, x)
		if code != impl.TxnFine || len(saidIn(x.Change)) == 0 {
			continue
		}
		won++
		again, code := impl.TxnEnd(b, x)
		expect(t, []any{b, x}, code == impl.TxnClash || code == impl.TxnOld && x.From < b.Time-len(b.Hist), true)
		expect(t, []any{b, x}, again, b)
		anew := impl.Txn{From: b.Time, Change: x.Change}
		expect(t, []any{b, x}, impl.TxnOk(b, anew), false)
		_, code = impl.TxnEnd(b, anew)
		expect(t, []any{b, x}, code, impl.TxnBad)
	}
	if won < 200 {
		t.Fatal("too few commits:", won)
	}
	old := impl.Txn{Change: comes("a()")}
	b := mustEnd(t, impl.BaseNew(nil), old)
	for i := range impl.HistMax {
		_, code := impl.TxnEnd(b, old)
		expect(t, i, code, impl.TxnClash)
		b = mustEnd(t, b, impl.Txn{From: b.Time, Change: []impl.Change{comes("z()"), goes("z()")}[i%2]})
	}
	_, code := impl.TxnEnd(b, old)
	expect(t, "old", code, impl.TxnOld)
}

func TestP36UnlikeFacts(t *testing.T) {
	d := newDice(92)
	both := 0
	for range 1500 {
		p := d.past(d.roll(8))
		one, other := d.txn(p), d.txn(p)
		unlike := true
		for s := range saidIn(one.Change) {
			unlike = unlike && !saidIn(other.Change)[s]
		}
		first, codeFirst := impl.TxnEnd(p.base, one)
		second, codeSecond := impl.TxnEnd(p.base, other)
		if !unlike || codeFirst != impl.TxnFine || codeSecond != impl.TxnFine {
			continue
		}
		// One behind the other may be too much, or too old, and each then has a code of its own.
		there, codeThere := impl.TxnEnd(first, other)
		here, codeHere := impl.TxnEnd(second, one)
		for _, code := range []int{codeThere, codeHere} {
			expect(t, []any{p.base, one, other}, code == impl.TxnFine || code == impl.TxnMany || code == impl.TxnOld, true)
		}
		if codeThere == impl.TxnFine && codeHere == impl.TxnFine {
			both++
			expect(t, []any{p.base, one, other}, there.Given, here.Given)
			expect(t, []any{p.base, one, other}, there.Time, here.Time)
		}
	}
	if both < 200 {
		t.Fatal("too few of both:", both)
	}
}

func TestP57GivenAndTakenAwayAgain(t *testing.T) {
	again := 0
	forTxns(newDice(93), 800, func(p past, x impl.Txn, seen map[string]bool, a impl.Atom) {
		then, code := impl.TxnAdd(p.base, x, a)
		if code == impl.TxnFine {
			again++
			back, code := impl.TxnGone(p.base, then, a)
			expect(t, []any{p.base, x, a}, code, impl.TxnFine)
			expect(t, []any{p.base, x, a}, back, x)
		}
	})
	if again < 200 {
		t.Fatal("too few:", again)
	}
	// What was given, goes, and comes again is no change; and so it does not clash.
	b := impl.Base{Given: atoms("a()", "b()")}
	x, code := impl.TxnGone(b, impl.TxnBegin(b), readAtom("a()"))
	expect(t, "goes", code, impl.TxnFine)
	expect(t, "goes", x, impl.Txn{Change: goes("a()")})
	other := mustEnd(t, b, x)
	x, code = impl.TxnAdd(b, x, readAtom("a()"))
	expect(t, "comes again", code, impl.TxnFine)
	expect(t, "comes again", x, impl.Txn{})
	expect(t, "comes again", mustEnd(t, b, x), b)
	expect(t, "behind another one", mustEnd(t, other, x), other)
}
