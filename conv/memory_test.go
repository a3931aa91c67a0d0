package conv_test

import (
	"slices"
	"testing"

	"touchstone/api"
	"touchstone/conv"
	"touchstone/term"
)

// roomy: the same, in other memory, each list with spare room, in which marks stand.
func roomy(t api.Term) api.Term {
	mark := api.Term{Kind: 77, Name: "mark"}
	args := make([]api.Term, 0, len(t.Args)+2)
	for _, a := range t.Args {
		args = append(args, roomy(a))
	}
	copy(args[len(args):cap(args)], []api.Term{mark, mark})
	return api.Term{Kind: t.Kind, N: t.N, Name: t.Name, Levels: roomyLevels(t.Levels), Args: args}
}

func roomyLevels(list []api.Level) []api.Level {
	mark := api.Level{Kind: 77, N: 78}
	out := make([]api.Level, 0, len(list)+2)
	for _, l := range list {
		out = append(out, api.Level{Kind: l.Kind, N: l.N, Args: roomyLevels(l.Args)})
	}
	copy(out[len(out):cap(out)], []api.Level{mark, mark})
	return out
}

// marked: the marks of roomy stand as they stood.
func marked(t api.Term) bool {
	spare := t.Args[len(t.Args):cap(t.Args)]
	for _, m := range spare {
		if m.Kind != 77 || m.Name != "mark" || m.Args != nil || m.Levels != nil {
			return false
		}
	}
	return len(spare) == 2 && markedLevels(t.Levels) && !slices.ContainsFunc(t.Args, func(a api.Term) bool { return !marked(a) })
}

func markedLevels(list []api.Level) bool {
	spare := list[len(list):cap(list)]
	for _, m := range spare {
		if m.Kind != 77 || m.N != 78 || m.Args != nil {
			return false
		}
	}
	return len(spare) == 2 && !slices.ContainsFunc(list, func(l api.Level) bool { return !markedLevels(l.Args) })
}

// samples: pairs of terms of all makes.
func samples() (l [][2]api.Term) {
	for _, list := range allAsked {
		for _, x := range list {
			l = append(l, [2]api.Term{of(x.a), of(x.b)})
		}
	}
	k := makerOf(3)
	for range 300 {
		a, b := k.pair()
		l = append(l, [2]api.Term{a, b})
	}
	return l
}

// R3: what was handed in, its spare room too, stays as it was, and so do the declarations of the environment.
func TestNothingChanges(t *testing.T) {
	e, other := common(), common()
	before := e.All()
	for _, x := range samples() {
		a, b := roomy(x[0]), roomy(x[1])
		is, n, err := conv.Conv(e, a, b, much)
		if wantIs, wantN, wantErr := conv.Conv(other, x[0], x[1], much); is != wantIs || n != wantN || err != wantErr {
			t.Errorf("Conv of %s, %s: %v, %v, %d, and %v, %v, %d with spare room", show(a), show(b), wantIs, wantN, wantErr, is, n, err)
		}
		if got, want := conv.Alike(a, b), conv.Alike(x[0], x[1]); got != want {
			t.Errorf("Alike of %s, %s: %v, and %v with spare room", show(a), show(b), want, got)
		}
		if !term.Equal(a, x[0]) || !term.Equal(b, x[1]) || !marked(a) || !marked(b) {
			t.Errorf("Conv, or Alike, of %s, %s: what was handed in changed", show(x[0]), show(x[1]))
		}
	}
	for i, d := range e.All() {
		if !term.Equal(d.Type, before[i].Type) || !term.Equal(d.Value, before[i].Value) || d.Name != before[i].Name {
			t.Errorf("the declaration of %s changed", d.Name)
		}
	}
}

// R4: the same call tells the same again, whatever was asked between, and whatever memory the terms share.
func TestTheSameAgain(t *testing.T) {
	e := common()
	type told struct {
		is, alike bool
		m         api.Meter
		err       api.Errno
	}
	var first []told
	for range 2 {
		var all []told
		for _, x := range samples() {
			is, n, err := conv.Conv(e, x[0], x[1], much)
			all = append(all, told{is, conv.Alike(x[0], x[1]), n, err})
		}
		if first != nil && !slices.Equal(all, first) {
			t.Error("the second time something else is told")
		}
		first = all
	}
	for _, x := range samples() {
		// Both sides have a part that lies in one memory, ahead of what may be unlike.
		shared := x[0]
		a, b := app(con("f"), shared, x[0]), app(con("f"), shared, x[1])
		is, n, err := conv.Conv(e, a, b, much)
		is2, n2, err2 := conv.Conv(e, roomy(a), roomy(b), much)
		if is != is2 || n != n2 || err != err2 || conv.Alike(a, b) != conv.Alike(roomy(a), roomy(b)) {
			t.Errorf("Conv of %s, %s: %v, %v, %d, and %v, %v, %d in other memory", show(a), show(b), is, n, err, is2, n2, err2)
		}
	}
}
