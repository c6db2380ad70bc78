package tests

import (
	"regexp"
	"slices"
	"strings"
	"testing"

	"loop.example/springhead/impl"
)

// askKinds is names, also with other numbers of terms than rules would let them have.
var askKinds = []string{"e(1,2)", "e(1,2)", "e(1,2)", "p(1)", "p(1)", "p(1)", "q(1)", "q(1)", "s()", "h(1,2,3)", "e(1)", "p()", "p(1,2)"}

// askAtom is an atom of one of those names, its terms being some of those that are told.
func (d *dice) askAtom(terms []string) impl.Atom {
	a := readAtom(d.one(askKinds...))
	for i := range a.Args {
		x := d.one(terms...)
		a.Args[i] = impl.Term{Var: x[0] <= 'Z' && x[0] >= 'A', Name: x}
	}
	return a
}

// askFacts is facts of those names.
func (d *dice) askFacts(most int) []impl.Atom {
	set := map[string]bool{}
	for range d.roll(most + 1) {
		set[impl.AtomPut(d.askAtom([]string{"a", "b", "c", "ab"}))] = true
	}
	return listOf(set)
}

// askBody is parts that may be asked; variables are those that it may have.
func (d *dice) askBody(most int, variables ...string) []impl.Part {
	for {
		var body []impl.Part
		terms := append([]string{"a", "b"}, append(variables, variables...)...)
		for range 1 + d.roll(most) {
			body = append(body, impl.Part{Not: d.roll(3) == 0, Atom: d.askAtom(terms)})
		}
		if len(looseIn(body)) == 0 {
			return body
		}
	}
}

// variablesIn is the variables of a body, ascending, each once.
func variablesIn(body []impl.Part) []string {
	var out []string
	for _, p := range body {
		for _, x := range p.Atom.Args {
			if x.Var {
				out = append(out, x.Name)
			}
		}
	}
	slices.Sort(out)
	return slices.Compact(out)
}

// looseIn is the variables that are in no part without Not.
func looseIn(body []impl.Part) []string {
	var must []impl.Part
	for _, p := range body {
		if !p.Not {
			must = append(must, p)
		}
	}
	bound := variablesIn(must)
	return slices.DeleteFunc(variablesIn(body), func(v string) bool { return slices.Contains(bound, v) })
}

// rowsOf tries all words for all variables.
func rowsOf(facts []impl.Atom, body []impl.Part) [][]string {
	set, variables := setOf(facts), variablesIn(body)
	words := allWords([]impl.Rule{{Body: body}}, facts)
	var out [][]string
	for chosen := range choices(variables, words) {
		fails := func(p impl.Part) bool { return set[replaced(p.Atom, chosen)] == p.Not }
		if slices.ContainsFunc(body, fails) {
			continue
		}
		row := []string{}
		for _, v := range variables {
			row = append(row, chosen[v])
		}
		out = append(out, row)
	}
	slices.SortFunc(out, slices.Compare)
	return out
}

func readBody(text string) []impl.Part {
	return readRule("p() if " + text).Body
}

// badBodies is parts that may not be asked.
func badBodies() [][]impl.Part {
	out := [][]impl.Part{
		nil, {}, make([]impl.Part, 1), make([]impl.Part, impl.BodyMax+1),
		{{Atom: impl.Atom{Name: "p", Args: []impl.Term{{Name: "X"}}}}},
		{{Atom: impl.Atom{Name: "p", Args: []impl.Term{{Var: true, Name: "x"}}}}},
		{{Atom: impl.Atom{Name: "p", Args: []impl.Term{{Var: true}}}}},
	}
	for _, s := range []string{
		"not p(X)", "p(X) and not q(Y)", "not q(Y) and p(X)", "p(X,Y) and not q(X,Y,Z)", "not p(X) and not p(X)", "not p(a,X)", "p(a) and not p(X)",
		"p(a) and p(a) and p(a) and p(a) and p(a)", "not()", "p(not)", "p(X) and not()", "p(a,b,c,d)", "P()", "p(XY)", "p(a) and q(b) and r(abcdefghi)", "p(X) and not q(not)",
	} {
		out = append(out, readBody(s))
	}
	return out
}

func TestP19BodyText(t *testing.T) {
	for _, s := range []string{
		"p()", "not p()", "p(a)", "p(X)", "not p(a) and not q(b)", "p(X) and not q(X)", "not q(X) and p(X)", "and() and not and()", "if() and not if()",
		"p(X) and p(X) and p(X) and p(X)", "p(X,Y,Z) and p(Xa,Ya,Za) and p(Xb,Yb,Zb) and abcdefgh(Abcdefgh,abcdefgh,12345678)", "not a() and not b() and not c() and not d()",
	} {
		body := readBody(s)
		expect(t, s, impl.AskOk(body), true)
		expect(t, s, impl.AskPut(body), s)
		got, ok := impl.AskGet(s)
		expect(t, s, ok, true)
		expect(t, s, got, body)
	}
	d := newDice(60)
	for range 2000 {
		body := d.askBody(impl.BodyMax, "X", "Y", "Abcdefg1")
		text := impl.AskPut(body)
		got, ok := impl.AskGet(text)
		expect(t, text, ok, true)
		expect(t, text, got, body)
	}
}

func TestP19BodiesThatAreNone(t *testing.T) {
	for _, body := range badBodies() {
		expect(t, body, impl.AskOk(body), false)
		expect(t, body, impl.AskPut(body), "")
	}
	for _, s := range []string{
		"", " ", "p", "not", "not ", "p(X) and", "p(X) and ", " and p(X)", "p(X) p(Y)", "p(X)and p(Y)", "p(X) and  p(Y)", "p(X) and and p(Y)", "not not p(a)", " p(a)", "p(a) ", "p(a)\n",
		"p() if q()", " if p()", "if p()", "p(X) or p(Y)", "p(X), p(Y)", "not p(X)", "p(X) and not q(Y)", "not()", "p(not)", "p(a,b,c,d)", "P(a)", "p(X) AND p(Y)", "notp (a)",
		"p(a) and p(b) and p(c) and p(d) and p(e)", strings.Repeat("p() and ", 50000) + "p()", strings.Repeat("p", 300000), "p(a) and \xff()",
	} {
		body, ok := impl.AskGet(s)
		expect(t, s, ok, false)
		expect(t, s, body, []impl.Part(nil))
	}
}

func TestP19TurnedBodies(t *testing.T) {
	d := newDice(61)
	shape := regexp.MustCompile(`^` + partShape + `(?: and ` + partShape + `){0,3}$`)
	read, loose := 0, 0
	for range 20000 {
		text := d.turned(impl.AskPut(d.askBody(impl.BodyMax, "X", "Y", "Xa")))
		body, ok := impl.AskGet(text)
		want := fitsShape(shape, text)
		if want && len(looseIn(readBody(text))) > 0 {
			want = false
			loose++
		}
		expect(t, text, ok, want)
		if ok && (impl.AskPut(body) != text || !impl.AskOk(body)) || !ok && len(body) > 0 {
			t.Fatalf("%q: %v", text, body)
		}
		if ok {
			read++
		}
	}
	if read < 500 || loose < 100 {
		t.Fatal("too few of interest:", read, loose)
	}
}

func TestP20Rows(t *testing.T) {
	d := newDice(62)
	some, many, none := 0, 0, 0
	for range 3000 {
		facts, body := d.askFacts(20), d.askBody(impl.BodyMax, "X", "Y", "Z")
		rows := impl.Ask(facts, body)
		expect(t, []any{facts, body}, rows, rowsOf(facts, body))
		variables := impl.AskVars(body)
		expect(t, body, variables, variablesIn(body))
		expect(t, body, impl.AskOk(body), true)
		for i, row := range rows {
			expect(t, body, len(row), len(variables))
			if i > 0 && slices.Compare(rows[i-1], row) >= 0 {
				t.Fatal(body, rows[i-1], row)
			}
		}
		switch {
		case len(rows) == 0:
			none++
		case len(variables) == 0:
			some++
		case len(rows) > 3:
			many++
		}
	}
	if some < 100 || many < 100 || none < 100 {
		t.Fatal("too few of interest:", some, many, none)
	}
}

func TestP20Examples(t *testing.T) {
	facts := atoms("a()", "e(a)", "e(a,b)", "e(b,c)", "e(c,b)", "e(d,d)", "p(ab)", "p(b)", "z()")
	for _, c := range []struct{ body, want string }{
		{"e(X,Y)", "a,b b,c c,b d,d"},
		{"e(Y,X)", "b,a b,c c,b d,d"},
		{"e(X)", "a"},
		{"e(X,Y,Z)", ""},
		{"x(X)", ""},
		{"e(X,X)", "d"},
		{"e(X,Y) and e(Y,X)", "b,c c,b d,d"},
		{"e(X,Y) and not e(Y,X)", "a,b"},
		{"e(a,X)", "b"},
		{"e(X,b)", "a c"},
		{"e(X,b) and not e(X,b)", ""},
		{"e(X,b) and not e(a,b)", ""},
		{"e(X,b) and not e(b,a)", "a c"},
		{"not p(Y) and e(X,Y)", "b,c d,d"},
		{"p(X) and p(Y)", "ab,ab ab,b b,ab b,b"},
		{"p(B) and e(A)", "a,ab a,b"},
		{"p(X1) and e(Xa) and e(X,d)", "d,ab,a d,b,a"},
		{"e(A,B) and e(B,C) and e(C,D) and not e(D,A)", "a,b,c,b"},
		{"e(A,B) and e(B,C) and e(C,A)", "d,d,d"},
		{"p(X) and e(Y,Z) and z() and not z(a)", "ab,a,b ab,b,c ab,c,b ab,d,d b,a,b b,b,c b,c,b b,d,d"},
		{"p(X) and not p(b)", ""},
		{"p(X) and z() and x()", ""},
		{"p(X) and e(Y,Y) and x(Z)", ""},
	} {
		var want [][]string
		for _, row := range strings.Fields(c.want) {
			want = append(want, strings.Split(row, ","))
		}
		expect(t, c, impl.Ask(facts, readBody(c.body)), want)
	}
}

func TestP20WithoutVariables(t *testing.T) {
	facts := atoms("e(a,b)", "p(b)", "z()")
	for _, c := range []struct {
		body        string
		facts, none bool // whether it holds of these facts, and of no facts
	}{
		{"z()", true, false}, {"not z()", false, true}, {"z(a)", false, false}, {"not z(a)", true, true},
		{"e(a,b)", true, false}, {"not e(a,b)", false, true}, {"e(b,a)", false, false}, {"not e(b,a)", true, true},
		{"z() and p(b)", true, false}, {"z() and p(a)", false, false}, {"p(a) and z()", false, false},
		{"z() and not p(a)", true, false}, {"z() and not p(b)", false, false}, {"not p(a) and z()", true, false},
		{"not x() and not y()", true, true}, {"not x() and not z()", false, true}, {"not z() and not x()", false, true},
		{"z() and not z()", false, false}, {"not a() and not b() and not c() and not d()", true, true},
		{"not a() and not b() and not c() and not z()", false, true},
	} {
		for _, run := range []struct {
			list  []impl.Atom
			holds bool
		}{{facts, c.facts}, {nil, c.none}, {[]impl.Atom{}, c.none}} {
			var want [][]string
			if run.holds {
				want = [][]string{{}}
			}
			expect(t, c, impl.Ask(run.list, readBody(c.body)), want)
		}
	}
	expect(t, "no variables", impl.AskVars(readBody("not z() and p(a)")), []string(nil))
}

func TestP20WhatMayNotBeAsked(t *testing.T) {
	facts := atoms("p(a)", "q(b)")
	for _, body := range badBodies() {
		expect(t, body, impl.AskVars(body), []string(nil))
		expect(t, body, impl.Ask(facts, body), [][]string(nil))
	}
	for _, list := range badFacts() {
		expect(t, list, impl.Ask(list, readBody("p(X)")), [][]string(nil))
		expect(t, list, impl.Ask(list, readBody("not zz()")), [][]string(nil))
	}
}

func TestP20ManyRows(t *testing.T) {
	p := numbered("p", 0, impl.AllMax)
	rows := impl.Ask(p, readBody("p(Y) and p(X)"))
	expect(t, "pairs", len(rows), 90000)
	for i, row := range rows {
		expect(t, i, row, []string{p[i/300].Args[0].Name, p[i%300].Args[0].Name})
	}
	mixed := append(slices.Clone(p[:200]), numbered("q", 100, 100)...)
	for text, want := range map[string]int{
		"p(X)": 200, "p(X) and q(X)": 100, "p(X) and not q(X)": 100, "q(X) and not p(X)": 0, "p(X) and q(Y) and not q(X)": 10000,
		// There are very many words for the other parts.
		"p(A) and p(B) and p(C) and not p(D)":     0,
		"p(A) and p(B) and p(C) and r(D)":         0,
		"p(A) and p(B) and p(C) and not p(C)":     0,
		"p(A) and p(B) and p(C) and not p(000)":   0,
		"p(000) and p(A) and q(100) and not p(a)": 200,
		"p(A) and p(A) and q(A) and q(A)":         100,
	} {
		expect(t, text, len(impl.Ask(mixed, readBody(text))), want)
	}
	set := map[string]bool{}
	for _, a := range numbered("x", 0, 150) {
		w := a.Args[0].Name
		set["e("+w+",hub)"], set["e(hub,"+w+"a)"] = true, true
	}
	for text, want := range map[string]int{
		"e(A,B) and e(C,D) and e(E,F) and e(F,E)":  0,
		"e(X,A) and e(X,B) and e(C,D) and e(D,D)":  0,
		"e(A,X) and e(X,B) and not e(A,B)":         22500,
		"e(A,X) and e(X,B) and e(B,C)":             0,
		"e(X,A) and e(X,B) and e(X,C) and e(X,X)":  0,
		"e(A,X) and e(X,B) and e(C,X) and e(X,A)":  0,
		"e(A,B) and e(B,C) and e(C,A) and e(A,D)":  0,
		"e(A,hub) and e(hub,B) and e(A,B)":         0,
		"e(000,hub) and e(A,hub) and not e(A,001)": 150,
	} {
		expect(t, text, len(impl.Ask(listOf(set), readBody(text))), want)
	}
}

func TestP21OrderOfParts(t *testing.T) {
	d := newDice(63)
	for range 1500 {
		facts, body := d.askFacts(20), d.askBody(impl.BodyMax, "X", "Y", "Z")
		turned := slices.Clone(body)
		slices.Reverse(turned)
		rows := impl.Ask(facts, body)
		expect(t, []any{facts, body}, impl.Ask(facts, turned), rows)
		expect(t, body, impl.AskVars(turned), impl.AskVars(body))
	}
}

func TestP22FirstPartAgain(t *testing.T) {
	d := newDice(64)
	full := 0
	for range 1500 {
		facts, body := d.askFacts(20), d.askBody(impl.BodyMax-1, "X", "Y", "Z")
		rows := impl.Ask(facts, body)
		more := append(slices.Clone(body), body[0])
		expect(t, []any{facts, body}, impl.Ask(facts, more), rows)
		more[len(body)].Not = !body[0].Not
		expect(t, more, impl.AskOk(more), true)
		expect(t, []any{facts, more}, impl.Ask(facts, more), [][]string(nil))
		if len(rows) > 0 {
			full++
		}
	}
	if full < 300 {
		t.Fatal("too few have rows:", full)
	}
}

func TestP23RuleThatAsks(t *testing.T) {
	d := newDice(65)
	full := 0
	for range 1500 {
		list, given := d.evalRules(impl.RuleMax-1, 2), d.evalFacts(8)
		body := d.evalRule([]string{"e", "p", "t", "q", "r", "s", "h"}, []string{"s"}, 2).Body
		if len(body) == 0 {
			continue
		}
		rule, ok := impl.AskRule("ans", body)
		expect(t, body, ok, true)
		expect(t, body, impl.ProgCheck([]impl.Rule{rule}), impl.ProgFine)
		rows := impl.Ask(mustEval(t, list, given), body)
		var told [][]string
		for _, a := range ofName(mustEval(t, append(slices.Clone(list), rule), given), "ans") {
			row := []string{}
			for _, x := range a.Args {
				row = append(row, x.Name)
			}
			told = append(told, row)
		}
		expect(t, []any{list, given, body}, rows, told)
		if len(rows) > 0 {
			full++
		}
	}
	if full < 300 {
		t.Fatal("too few have rows:", full)
	}
}

func TestP23RuleExamples(t *testing.T) {
	for _, c := range []struct{ name, body, want string }{
		{"ans", "e(X,Y) and p(Z)", "ans(X,Y,Z) if e(X,Y) and p(Z)"},
		{"ans", "p(Z) and not e(Y,X) and q(Y,X)", "ans(X,Y,Z) if p(Z) and not e(Y,X) and q(Y,X)"},
		{"a", "p(a)", "a() if p(a)"},
		{"a", "not a()", "a() if not a()"},
		{"p", "p(X,Y)", "p(X,Y) if p(X,Y)"},
		{"p", "p(X,X)", "p(X) if p(X,X)"},
		{"12345678", "p(B,A,B)", "12345678(A,B) if p(B,A,B)"},
		{"x", "p(A) and p(B) and p(C) and p(C)", "x(A,B,C) if p(A) and p(B) and p(C) and p(C)"},
		{"x", "p(A,B) and p(C,D)", ""},
		{"x", "p(A) and p(B) and p(C) and p(D)", ""},
		{"x", "p(A,B,C) and p(D,E,F)", ""},
		{"", "p(X)", ""},
		{"not", "p(X)", ""},
		{"X", "p(X)", ""},
		{"abcdefghi", "p(X)", ""},
		{"a b", "p(X)", ""},
	} {
		rule, ok := impl.AskRule(c.name, readBody(c.body))
		expect(t, c, ok, c.want != "")
		expect(t, c, impl.RulePut(rule), c.want)
		if ok {
			expect(t, c, rule, readRule(c.want))
		} else {
			expect(t, c, rule, impl.Rule{})
		}
	}
	for _, body := range badBodies() {
		rule, ok := impl.AskRule("ans", body)
		expect(t, body, ok, false)
		expect(t, body, rule, impl.Rule{})
	}
}

func TestP53AskForFacts(t *testing.T) {
	d := newDice(66)
	there := 0
	for range 1500 {
		facts, a := d.askFacts(25), d.askAtom([]string{"a", "b", "c"})
		if len(facts) > 0 && d.roll(2) == 0 {
			a = facts[d.roll(len(facts))]
		}
		has := impl.FactsHas(facts, a)
		for _, not := range []bool{false, true} {
			rows := impl.Ask(facts, []impl.Part{{Not: not, Atom: a}})
			if has != not {
				expect(t, []any{facts, a, not}, rows, [][]string{{}})
			} else {
				expect(t, []any{facts, a, not}, rows, [][]string(nil))
			}
		}
		if has {
			there++
		}
	}
	if there < 300 {
		t.Fatal("too few of interest:", there)
	}
}

func TestP54BodiesThatShareNothing(t *testing.T) {
	d := newDice(67)
	full := 0
	for range 1500 {
		facts := d.askFacts(50)
		one, other := d.askBody(2, "X", "Y", "Z"), d.askBody(2, "U", "V", "Xa")
		both := append(slices.Clone(one), other...)
		rows := impl.Ask(facts, both)
		expect(t, []any{facts, both}, len(rows), len(impl.Ask(facts, one))*len(impl.Ask(facts, other)))
		if len(rows) > 1 {
			full++
		}
	}
	if full < 300 {
		t.Fatal("too few have rows:", full)
	}
}
