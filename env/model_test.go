package env_test

import (
	"fmt"
	"math/rand"
	"slices"
	"testing"

	"touchstone/api"
	"touchstone/env"
	"touchstone/names"
)

// model: an environment, as the chapter says.
type model struct{ beneath, own []api.Decl }

func (m *model) all() []api.Decl { return slices.Concat(m.beneath, m.own) }

func (m *model) over() *model { return &model{beneath: m.all()} }

func (m *model) copy() *model { return &model{m.beneath, slices.Clone(m.own)} }

func (m *model) add(l []api.Decl) api.Errno {
	taken := namesOfAll(m.all())
	e := api.OK
	for _, x := range l {
		if !names.May(x.Name) {
			return api.ErrName
		}
		if slices.Contains(taken, x.Name) {
			e = api.ErrTaken
		}
		taken = append(taken, x.Name)
	}
	if e == api.OK {
		m.own = append(m.own, l...)
	}
	return e
}

func namesOfAll(l []api.Decl) (out []string) {
	for _, x := range l {
		out = append(out, x.Name)
	}
	return out
}

// chanceDecls: some declarations, now and then one whose Name is no name.
func chanceDecls(r *rand.Rand) (l []api.Decl) {
	for range r.Intn(5) {
		x := axiom(fmt.Sprint("n", r.Intn(60)))
		x.Count = r.Intn(1000)
		if r.Intn(40) == 0 {
			x.Name = "1"
		}
		l = append(l, x)
	}
	return l
}

// P11.1: many environments, over one another and copied, that grow in turns, are each what the chapter says.
func TestModel(t *testing.T) {
	for seed := range int64(30) {
		r := rand.New(rand.NewSource(seed))
		envs, models := []*env.Env{env.New()}, []*model{{}}
		for range 60 {
			i := r.Intn(len(envs))
			switch r.Intn(6) {
			case 0:
				envs, models = append(envs, envs[i].Over()), append(models, models[i].over())
			case 1:
				envs, models = append(envs, envs[i].Copy()), append(models, models[i].copy())
			default:
				l := chanceDecls(r)
				if got, want := envs[i].Add(l...), models[i].add(l); got != want {
					t.Fatalf("Add of %q to %q: error %d; want %d", namesOf(l), namesOfAll(models[i].all()), got, want)
				}
			}
		}
		for i, e := range envs {
			wantDecls(t, fmt.Sprint("seed ", seed, ", number ", i), e, models[i].beneath, models[i].own)
			for n := range 60 {
				name := fmt.Sprint("n", n)
				if _, ok := e.Find(name); ok != slices.Contains(namesOfAll(models[i].all()), name) || e.Own(name) != slices.Contains(namesOfAll(models[i].own), name) {
					t.Errorf("seed %d, number %d: Find(%q) %v, Own %v", seed, i, name, ok, e.Own(name))
				}
			}
		}
	}
}

// R1: one by one to an environment that another one lies over each time, and each of these is as it was then.
func TestManyOver(t *testing.T) {
	const count = 20000
	e := env.New()
	overs, copies := make([]*env.Env, count), make([]*env.Env, count)
	for i := range count {
		overs[i], copies[i] = e.Over(), e.Copy()
		if got := e.Add(api.Decl{Name: fmt.Sprint("a", i), Count: i}); got != api.OK {
			t.Fatalf("error %d", got)
		}
	}
	for i := range count {
		for _, n := range []int{0, i / 2, i - 1, i, i + 1, count - 1} {
			name := fmt.Sprint("a", n)
			x, ok := overs[i].Find(name)
			if was := n >= 0 && n < i; ok != was || overs[i].Own(name) || copies[i].Own(name) != was || ok && x.Count != n {
				t.Fatalf("number %d: Find(%q) %v, %d; Own of a copy %v", i, name, ok, x.Count, copies[i].Own(name))
			}
		}
		if overs[i].Len() != 0 || copies[i].Len() != i {
			t.Fatalf("number %d: Len %d and %d", i, overs[i].Len(), copies[i].Len())
		}
	}
	if e.Len() != count || len(e.All()) != count || len(overs[count/2].All()) != count/2 {
		t.Errorf("Len %d, All %d", e.Len(), len(e.All()))
	}
}

// R1: environments over one another, higher than a stack of calls need be.
func TestHigh(t *testing.T) {
	const count = 3000
	e := env.New()
	var beneath []string
	for i := range count {
		if i%3 > 0 { // some have nothing of their own
			name := fmt.Sprint("a", i)
			add(t, e, name)
			beneath = append(beneath, name)
		}
		e = e.Over()
	}
	for range 1000000 {
		e = e.Over()
	}
	add(t, e, "z")
	wantEnv(t, "high", e, beneath, []string{"z"})
}

// R4: what a call tells does not hang on what was asked in between, nor on how declarations came: at once or one by one.
func TestHowTheyCame(t *testing.T) {
	var l []api.Decl
	for i := range 300 {
		l = append(l, axiom(fmt.Sprint("a", (i*7)%300)))
	}
	for _, step := range []int{1, 2, 7, 100, 300} {
		e := env.New()
		for from := 0; from < len(l); from += step {
			e.Add(l[from:min(from+step, len(l))]...)
			e.Find("a3")
			e.All()
			e.Over()
			e.Copy()
		}
		wantDecls(t, fmt.Sprint("by ", step), e, nil, l)
	}
}
