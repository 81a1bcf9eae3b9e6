package supers

import (
	"slices"
	"strconv"
	"strings"
	"testing"

	"envoy/api"
)

// classes makes classes of texts: "A:B C" has Supers B and C.
func classes(l ...string) []api.Class {
	var out []api.Class
	for _, s := range l {
		name, above, _ := strings.Cut(s, ":")
		out = append(out, api.Class{Name: name, Supers: strings.Fields(above)})
	}
	return out
}

func TestCheck(t *testing.T) {
	for _, c := range []struct {
		l  []api.Class
		at int
		e  api.Errno
	}{
		{nil, 0, api.OK},
		{classes("A", "B:A", "C:B A"), 0, api.OK},
		{classes("C:B A", "B:A", "A"), 0, api.OK},
		{classes("A:Z", "B:B", "A"), 2, api.ErrTwice},
		{classes("A:A", "B:A Z"), 1, api.ErrUnknown},
		{classes("A", "B:A A"), 1, api.ErrUnknown},
		{classes("A", "B:A", "C:C"), 2, api.ErrCycle},
		{classes("D:A", "A:B", "B:A"), 1, api.ErrCycle},
		{classes("A:B", "B:C", "C:B"), 1, api.ErrCycle},
		{classes("Z:X", "Y", "A:B", "B:A", "X:X"), 2, api.ErrCycle},
	} {
		if at, e := Check(c.l); at != c.at || e != c.e {
			t.Errorf("%v: %d %d", c.l, at, e)
		}
		if c.e != api.OK {
			p, ok := Path(c.l, "A", "A")
			if All(c.l, "B") != nil || p != nil || ok || Below(c.l, "A") != nil || Most(c.l, []string{"A"}) != nil {
				t.Errorf("%v: the others tell something", c.l)
			}
		}
	}
}

var many = classes("F:D E", "D:B C", "E:C A", "A", "B:A", "C", "G:F")

func TestAll(t *testing.T) {
	for name, want := range map[string]string{"F": "D E B C A", "D": "B C A", "A": "", "Z": "", "G": "F D E B C A"} {
		if got := strings.Join(All(many, name), " "); got != want {
			t.Errorf("%s: %s", name, got)
		}
	}
}

func TestPath(t *testing.T) {
	for _, c := range []struct {
		from, to string
		want     []int
		ok       bool
	}{
		{"F", "D", []int{0}, true},
		{"F", "C", []int{0, 1}, true},
		{"F", "A", []int{1, 1}, true},
		{"G", "A", []int{0, 1, 1}, true},
		{"D", "A", []int{0, 0}, true},
		{"A", "A", nil, true},
		{"A", "F", nil, false},
		{"Z", "Z", nil, false},
		{"A", "Z", nil, false},
		{"Z", "A", nil, false},
		{"C", "A", nil, false},
	} {
		if got, ok := Path(many, c.from, c.to); !slices.Equal(got, c.want) || ok != c.ok {
			t.Errorf("%s to %s: %v %v", c.from, c.to, got, ok)
		}
	}
	// Of as many the one whose first place is the least, then the second.
	twin := classes("T:X Y", "X:U V", "Y:V U", "U:S", "V:S", "S")
	if got, _ := Path(twin, "T", "V"); !slices.Equal(got, []int{0, 1}) {
		t.Error(got)
	}
	if got, _ := Path(twin, "T", "S"); !slices.Equal(got, []int{0, 0, 0}) {
		t.Error(got)
	}
}

func TestBelowMost(t *testing.T) {
	for name, want := range map[string]string{"A": "F D E B G", "C": "F D E G", "G": "", "Z": "", "F": "G"} {
		if got := strings.Join(Below(many, name), " "); got != want {
			t.Errorf("below %s: %s", name, got)
		}
	}
	for names, want := range map[string]string{"A B C": "B C", "C Z D C": "D", "A A": "A", "": "", "G A F": "G", "E D": "E D", "B E B": "B E"} {
		if got := strings.Join(Most(many, strings.Fields(names)), " "); got != want {
			t.Errorf("most of %s: %s", names, got)
		}
	}
}

func TestMoreThanAThousand(t *testing.T) {
	var l []api.Class
	for i := range 5000 {
		c := api.Class{Name: "C" + strconv.Itoa(i)}
		if i > 0 {
			c.Supers = []string{"C" + strconv.Itoa(i-1)}
		}
		l = append(l, c)
	}
	if at, e := Check(l); at != 0 || e != api.OK {
		t.Error(at, e)
	}
	if p, ok := Path(l, "C4999", "C0"); !ok || len(p) != 4999 {
		t.Error(len(p), ok)
	}
	if len(All(l, "C4999")) != 4999 || len(Below(l, "C0")) != 4999 {
		t.Error("All, Below")
	}
	l[0].Supers = []string{"C4999"}
	if at, e := Check(l); at != 0 || e != api.ErrCycle {
		t.Error(at, e)
	}
	l[0].Supers = []string{"C0"}
	l = append([]api.Class{{Name: "D", Supers: []string{"C4999"}}}, l...)
	if at, e := Check(l); at != 1 || e != api.ErrCycle {
		t.Error(at, e)
	}
}
