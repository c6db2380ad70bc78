package tests

import (
	"regexp"
	"strings"
	"testing"

	"loop.example/springhead/impl"
)

const (
	nameShape = `[a-z0-9]{1,8}`
	termShape = `(?:` + nameShape + `|[A-Z][a-z0-9]{0,7})`
	atomShape = nameShape + `\((?:` + termShape + `(?:,` + termShape + `){0,2})?\)`
	partShape = `(?:not )?` + atomShape
	ruleShape = atomShape + `(?: if ` + partShape + `(?: and ` + partShape + `){0,3})?`
)

// notAsName finds `not` where a name or a word should be.
var notAsName = regexp.MustCompile(`(?:^|[ (,])not[(,)]`)

func fitsShape(shape *regexp.Regexp, text string) bool {
	return shape.MatchString(text) && !notAsName.MatchString(text)
}

func TestP1Names(t *testing.T) {
	for b := range 256 {
		want := b >= 'a' && b <= 'z' || b >= '0' && b <= '9'
		expect(t, b, impl.NameOk(string([]byte{byte(b)})), want)
		expect(t, b, impl.NameOk(string([]byte{'a', byte(b)})), want)
		expect(t, b, impl.NameOk(string([]byte{'a', byte(b), 'z'})), want)
	}
	for _, s := range []string{"a", "0", "z9", "abcdefgh", "12345678", "no", "nott", "nnot", "no1", "if", "and"} {
		expect(t, s, impl.NameOk(s), true)
	}
	for _, s := range []string{"", "not", "abcdefghi", strings.Repeat("a", 10000), "Not", "aB", "a b", " a", "a\n", "a_b", "ä", "a\x00", "\xff"} {
		expect(t, s, impl.NameOk(s), false)
	}
}

func TestP1BytesOfNames(t *testing.T) {
	d := newDice(1)
	for range 300 {
		name := d.name()
		expect(t, name, impl.NameOk(name), true)
		for i := range len(name) {
			expect(t, name, impl.NameOk(name[i:i+1]), true)
		}
	}
}

func TestAtomOk(t *testing.T) {
	for _, s := range []string{"p()", "p(a)", "p(X)", "p(a,X,b)", "p(Abcdefgh)", "p(abcdefgh)", "p(X0)", "p(0)", "p(X,X,X)", "if(if)", "and(nota)"} {
		expect(t, s, impl.AtomOk(readAtom(s)), true)
	}
	for _, s := range []string{"(a)", "P(a)", "not(a)", "p(not)", "p(a,not)", "p(a,b,c,d)", "p(Abcdefghi)", "p(abcdefghi)", "p(XY)", "p(aX)", "p(a,)", "p(,)", "p(X_)", "abcdefghi()"} {
		expect(t, s, impl.AtomOk(readAtom(s)), false)
	}
	one := func(x impl.Term) impl.Atom { return impl.Atom{Name: "p", Args: []impl.Term{x}} }
	for _, x := range []impl.Term{{}, {Var: true}, {Var: true, Name: "x"}, {Name: "X"}, {Var: true, Name: "0"}, {Var: true, Name: "not"}, {Var: true, Name: "XnoT"}} {
		expect(t, x, impl.AtomOk(one(x)), false)
		expect(t, x, impl.AtomPut(one(x)), "")
	}
	expect(t, "nothing", impl.AtomOk(impl.Atom{}), false)
	expect(t, "variable not", impl.AtomOk(one(impl.Term{Var: true, Name: "Not"})), true)
}

func TestP2AtomText(t *testing.T) {
	x := impl.Term{Var: true, Name: "X1"}
	a := impl.Atom{Name: "p", Args: []impl.Term{x, {Name: "a"}, x}}
	expect(t, "put", impl.AtomPut(a), "p(X1,a,X1)")
	expect(t, "put without terms", impl.AtomPut(impl.Atom{Name: "p"}), "p()")
	expect(t, "put empty list", impl.AtomPut(impl.Atom{Name: "p", Args: []impl.Term{}}), "p()")
	expect(t, "put nothing", impl.AtomPut(impl.Atom{}), "")
	got, ok := impl.AtomGet("p(X1,a,X1)")
	expect(t, "get", ok, true)
	expect(t, "get", got, a)
	d := newDice(2)
	for range 2000 {
		a := d.atom()
		text := impl.AtomPut(a)
		got, ok := impl.AtomGet(text)
		if !ok || !same(got, a) {
			t.Fatalf("%v: %q is read as %v, %v", a, text, got, ok)
		}
	}
}

func TestP2AtomsThatAreNone(t *testing.T) {
	long := strings.Repeat("a", impl.TextMax-3)
	for _, s := range []string{
		"", "p", "p(", "p)", "()", "(a)", "p(a", "p(a,)", "p(,a)", "p(,)", "p(a))", "p((a)", "p(a)(b)", " p(a)", "p(a) ", "p( a)", "p(a, b)", "p (a)",
		"p(a,b,c,d)", "not()", "p(not)", "p(not,a)", "not p(a)", "P()", "p(aB)", "p(AB)", "p(a;b)", "p(a)\n", "p(\xff)", "p[a]", "abcdefghi()", "p(abcdefghi)", "p(Abcdefghi)",
		long + "(a)", long + "a(a)", "p(" + strings.Repeat(",", 100000) + ")",
	} {
		a, ok := impl.AtomGet(s)
		expect(t, s, ok, false)
		expect(t, s, a, impl.Atom{})
	}
	for _, s := range []string{"p()", "abcdefgh(abcdefgh,Abcdefgh,12345678)", "0(0)"} {
		a, ok := impl.AtomGet(s)
		expect(t, s, ok, true)
		expect(t, s, a, readAtom(s))
	}
}

// turned is a text with a byte put in, left out or turned.
func (d *dice) turned(text string) string {
	bytes := []byte(text)
	i := d.roll(len(bytes))
	b := []byte("aZ0,() nota\xff")[d.roll(12)]
	switch d.roll(4) {
	case 0:
		bytes[i] = b
	case 1:
		bytes = append(bytes[:i], bytes[i+1:]...)
	case 2:
		return text[:i] + string([]byte{b}) + text[i:]
	case 3:
		j := i + d.roll(len(bytes)-i)
		return text[:j] + text[i:]
	}
	return string(bytes)
}

func TestP2TurnedAtoms(t *testing.T) {
	d := newDice(3)
	shape := regexp.MustCompile(`^` + atomShape + `$`)
	for range 20000 {
		text := d.turned(impl.AtomPut(d.atom()))
		a, ok := impl.AtomGet(text)
		expect(t, text, ok, fitsShape(shape, text))
		if ok && (impl.AtomPut(a) != text || !impl.AtomOk(a)) || !ok && !same(a, impl.Atom{}) {
			t.Fatalf("%q: %v", text, a)
		}
	}
}

func TestP3RuleText(t *testing.T) {
	for _, s := range []string{"p()", "p(a)", "p(X)", "p(X) if q(X)", "p() if not q()", "if() if if() and and() and not and()", "p(X,Y) if a(X) and not b() and c(Y) and not d(a)"} {
		r := readRule(s)
		expect(t, s, impl.RulePut(r), s)
		got, ok := impl.RuleGet(s)
		expect(t, s, ok, true)
		expect(t, s, got, r)
	}
	d := newDice(4)
	for range 2000 {
		r := d.rule()
		text := impl.RulePut(r)
		got, ok := impl.RuleGet(text)
		if !ok || !same(got, r) {
			t.Fatalf("%v: %q is read as %v, %v", r, text, got, ok)
		}
	}
}

func TestP3RulesThatAreNone(t *testing.T) {
	five := readRule("p() if a() and a() and a() and a() and a()")
	expect(t, "five parts", impl.RulePut(five), "")
	expect(t, "nothing", impl.RulePut(impl.Rule{}), "")
	expect(t, "part of nothing", impl.RulePut(impl.Rule{Head: readAtom("p()"), Body: make([]impl.Part, 1)}), "")
	expect(t, "head not ok", impl.RulePut(readRule("not() if a()")), "")
	expect(t, "last part not ok", impl.RulePut(readRule("p() if a() and b() and c(not)")), "")
	for _, s := range []string{
		"", " if ", "p() if ", "p() if", " if p()", "p() and q()", "p() if q() and ", "p() if and q()", "p() if q() and and r()", "p() if q() if r()", "p() if  q()", "p()  if q()",
		"p() if q()and r()", "p() if q() and not", "p() if not", "p() if not ", "p() if not not q()", "p() if notq ()", "not p()", "p() if q() ", " p()", "p() if q() and not not r()",
		"p() if a() and a() and a() and a() and a()", "p() if " + strings.Repeat("a() and ", 50000) + "a()", "p() IF q()", "p() if q() or r()", "p()\nif q()", "not() if a()", "p() if q(not)",
	} {
		r, ok := impl.RuleGet(s)
		expect(t, s, ok, false)
		expect(t, s, r, impl.Rule{})
	}
}

func TestP3TurnedRules(t *testing.T) {
	d := newDice(5)
	shape := regexp.MustCompile(`^` + ruleShape + `$`)
	for range 20000 {
		text := d.turned(impl.RulePut(d.rule()))
		r, ok := impl.RuleGet(text)
		expect(t, text, ok, fitsShape(shape, text))
		if ok && impl.RulePut(r) != text || !ok && !same(r, impl.Rule{}) {
			t.Fatalf("%q: %v", text, r)
		}
	}
}

func TestP4Order(t *testing.T) {
	list := atoms("0()", "a()", "a(0)", "a(A)", "a(A1)", "a(B)", "a(a)", "a(a,a)", "a(a,a,a)", "a(a,b)", "a(aa)", "a(ab,a)", "a(b)", "aa()", "ab(X)", "b()", "b(a)")
	for i, a := range list {
		for j, b := range list {
			want := 0
			if i < j {
				want = -1
			} else if i > j {
				want = 1
			}
			expect(t, []impl.Atom{a, b}, impl.AtomCmp(a, b), want)
		}
	}
}

func TestP4OrderGoesOn(t *testing.T) {
	d := newDice(6)
	for range 5000 {
		a, b, c := d.atom(), d.atom(), d.atom()
		ab, bc, ac := impl.AtomCmp(a, b), impl.AtomCmp(b, c), impl.AtomCmp(a, c)
		expect(t, []impl.Atom{a, b}, ab, orderOfAtoms(a, b))
		expect(t, []impl.Atom{a, b}, impl.AtomCmp(b, a), -ab)
		expect(t, []impl.Atom{a, b}, ab == 0, same(a, b))
		expect(t, a, impl.AtomCmp(a, a), 0)
		if ab <= 0 && bc <= 0 && ac > min(ab, bc) {
			t.Fatal(a, b, c)
		}
	}
}

func TestP4OrderOfWhatIsNoAtom(t *testing.T) {
	for _, s := range []string{"", "not(a)", "p(not)", "p(a,b,c,d)", "P()", "p(XY)"} {
		bad := readAtom(s)
		expect(t, s, impl.AtomCmp(bad, readAtom("a()")), 0)
		expect(t, s, impl.AtomCmp(readAtom("z()"), bad), 0)
		expect(t, s, impl.AtomCmp(bad, readAtom("0()")), 0)
	}
	spoiled := impl.Atom{Name: "p", Args: []impl.Term{{Var: true, Name: "a"}}}
	expect(t, spoiled, impl.AtomCmp(spoiled, readAtom("q(a)")), 0)
}
