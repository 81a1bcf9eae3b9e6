package cursor

import (
	"testing"

	"envoy/api"
)

// row makes words of single texts: marks, but what is a letter is a TokVar; they stand at 0, 10, 20 and so on.
func row(texts ...string) []api.Token {
	var l []api.Token
	for i, s := range texts {
		kind := api.TokMark
		if s >= "a" && s <= "z" {
			kind = api.TokVar
		}
		if s == "if" || s == "of" {
			kind = api.TokWord
		}
		l = append(l, api.Token{Kind: kind, Pos: 10 * i, Text: s})
	}
	return append(l, api.Token{Kind: api.TokEnd, Pos: 10 * len(texts), Text: "gone", N: 3})
}

func TestNextStaysAtTheEnd(t *testing.T) {
	c := New(append(row("a", "b"), api.Token{Kind: api.TokVar, Text: "z"}))
	if p := c.Peek(); p.Text != "a" {
		t.Error(p)
	}
	if n := c.Next(); n.Text != "a" || n.Pos != 0 {
		t.Error(n)
	}
	if n := c.Next(); n.Text != "b" || n.Pos != 10 {
		t.Error(n)
	}
	for range 3 {
		if n := c.Next(); n != (api.Token{Kind: api.TokEnd, Pos: 20}) {
			t.Error(n)
		}
	}
	if at, e := c.Done(); at != 20 || e != api.OK {
		t.Error(at, e)
	}
	if n, ok := c.Kind(api.TokEnd); !ok || n.Pos != 20 {
		t.Error("the end is of kind TokEnd")
	}
}

func TestNoEndAndNoWords(t *testing.T) {
	c := New([]api.Token{{Kind: api.TokVar, Pos: 5, Text: "a"}})
	c.Next()
	if p := c.Peek(); p != (api.Token{}) {
		t.Error(p)
	}
	if at, e := New(nil).Done(); at != 0 || e != api.OK {
		t.Error(at, e)
	}
}

func TestIsTakeWant(t *testing.T) {
	c := New(row("if", "a", ";"))
	if !c.Is("if") || c.Is("of") || c.Take("of") || !c.Take("if") {
		t.Error("a word")
	}
	if c.Is("a") || c.Take("a") {
		t.Error("a variable is none")
	}
	if at, e := c.Done(); at != 10 || e != api.ErrParse {
		t.Error(at, e)
	}
	if c.Want(";") {
		t.Error("Want")
	}
	if at, e := c.Done(); at != 10 || e != api.ErrParse {
		t.Error(at, e)
	}
	c = New(row(";"))
	if !c.Want(";") || c.Want("") {
		t.Error("Want at the end")
	}
	if at, e := c.Done(); at != 10 || e != api.ErrParse {
		t.Error(at, e)
	}
}

func TestKind(t *testing.T) {
	c := New(row("a", ";"))
	if w, ok := c.Kind(api.TokVar); !ok || w.Text != "a" {
		t.Error(w, ok)
	}
	if w, ok := c.Kind(api.TokVar); ok || w != (api.Token{}) {
		t.Error(w, ok)
	}
	if at, e := c.Done(); at != 10 || e != api.ErrParse {
		t.Error(at, e)
	}
}

func TestAhead(t *testing.T) {
	for _, c := range []struct {
		l    []api.Token
		text string
		want bool
	}{
		{row("a", "=>", "b"), "=>", true},
		{row("(", "a", ")", "=>"), "=>", true},
		{row("(", "=>", ")"), "=>", false},
		{row("{", "(", ";", "}", ")", "=>"), "=>", true},
		{row("{", ";", "}", "=>"), "=>", true},
		{row("a", ";", "=>"), "=>", false},
		{row("a", ")", "=>"), "=>", false},
		{row("a", "}", "=>"), "=>", false},
		{row("(", "}", ")", "=>"), "=>", false},
		{row("a"), "a", false},
		{row("a", "if"), "if", true},
		{row("("), "(", false},
		{row(")"), ")", false},
		{row("{"), "{", false},
		{row("}"), "}", false},
		{row(";"), ";", false},
		{row("=>"), "=>", true},
		{nil, "=>", false},
		{row("a"), "", false},
	} {
		k := New(c.l)
		if got := k.Ahead(c.text); got != c.want {
			t.Errorf("%v: Ahead(%q) is %v", c.l, c.text, got)
		}
		if k.at != 0 {
			t.Error("Ahead goes nowhere")
		}
	}
	c := New(row("=>", "a"))
	c.Next()
	if c.Ahead("=>") {
		t.Error("what is behind is not ahead")
	}
}

func TestEnterLeave(t *testing.T) {
	c := New(row("a"))
	c.Leave()
	for range api.MaxNest {
		if !c.Enter() {
			t.Fatal("Enter")
		}
	}
	c.Leave()
	if !c.Enter() {
		t.Error("Enter again")
	}
	if c.Enter() {
		t.Error("Enter beyond")
	}
	c.Leave()
	if at, e := c.Done(); at != 0 || e != api.ErrLimit || c.Enter() {
		t.Error(at, e)
	}
}

func TestNothingBehindAFailure(t *testing.T) {
	c := New(row("if", "(", "a", "=>"))
	c.Next()
	if c.Fail(api.OK) {
		t.Error("Fail is false")
	}
	c.Fail(api.ErrLimit)
	if at, e := c.Done(); at != 10 || e != api.ErrArg {
		t.Error(at, e)
	}
	if c.Peek() != (api.Token{}) || c.Next() != (api.Token{}) || c.Is("(") || c.Take("(") || c.Want("(") || c.Ahead("=>") || c.Enter() {
		t.Error("all are false")
	}
	if w, ok := c.Kind(api.TokMark); ok || w != (api.Token{}) {
		t.Error("Kind")
	}
	if _, ok := c.Kind(api.TokEnd); ok {
		t.Error("Kind of the end")
	}
	if at, e := c.Done(); at != 10 || e != api.ErrArg {
		t.Error(at, e)
	}
}

func TestNil(t *testing.T) {
	var c *Cursor
	c.Leave()
	if c.Peek() != (api.Token{}) || c.Next() != (api.Token{}) || c.Is("") || c.Take("") || c.Want("") || c.Ahead("") || c.Enter() || c.Fail(api.ErrArg) {
		t.Error("all are zero")
	}
	if _, ok := c.Kind(api.TokEnd); ok {
		t.Error("Kind")
	}
	if at, e := c.Done(); at != 0 || e != api.ErrArg {
		t.Error(at, e)
	}
}

func TestWordsAreNotShared(t *testing.T) {
	l := row("a", "b")
	c := New(l)
	l[0].Text = "z"
	if c.Peek().Text != "a" {
		t.Error("the words are kept as they were")
	}
}
