package impl

import "strings"

// LogMax is how many bytes a log has at most.
const LogMax = 400000

// logReader reads a text from its beginning to its end.
type logReader struct {
	strings.Reader
}

func newLogReader(text string) *logReader {
	r := &logReader{}
	r.Reset(text)
	return r
}

// until reads the bytes ahead of a mark, and the mark; false if there is none.
func (r *logReader) until(mark byte) (string, bool) {
	var out strings.Builder
	for {
		b, err := r.ReadByte()
		if err != nil {
			return "", false
		}
		if b == mark {
			return out.String(), true
		}
		out.WriteByte(b)
	}
}

// signedAtom reads a sign and an atom, and the blank behind them.
func (r *logReader) signedAtom() (byte, Atom, bool) {
	text, ok := r.until(' ')
	if !ok || text == "" {
		return 0, Atom{}, false
	}
	a, ok := AtomGet(text[1:])
	return text[0], a, ok
}

// ChangePut is a change as a text.
func ChangePut(c Change) string {
	if !ChangeOk(c) {
		return ""
	}
	var out strings.Builder
	for _, a := range c.Goes {
		out.WriteString("-" + AtomPut(a) + " ")
	}
	for _, a := range c.Comes {
		out.WriteString("+" + AtomPut(a) + " ")
	}
	return out.String()
}

// ChangeGet reads a change.
func ChangeGet(text string) (Change, bool) {
	var c Change
	r := newLogReader(text)
	for r.Len() > 0 {
		sign, a, ok := r.signedAtom()
		switch {
		case ok && sign == '-' && len(c.Comes) == 0:
			c.Goes = append(c.Goes, a)
		case ok && sign == '+':
			c.Comes = append(c.Comes, a)
		default:
			return Change{}, false
		}
	}
	if !ChangeOk(c) {
		return Change{}, false
	}
	return c, true
}

// Sum is the sum of a text.
func Sum(text string) int {
	return 0
}

// LogPut is a change under a time as bytes of a log.
func LogPut(time int, c Change) string {
	return ""
}

// LogGet reads a log as far as it is whole, and how many bytes that takes.
func LogGet(text string) ([]Change, int) {
	return nil, 0
}

// LogBase is the base of rules that a log makes; false if it cannot be.
func LogBase(rules []Rule, text string) (Base, bool) {
	return Base{}, false
}
