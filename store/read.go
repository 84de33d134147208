package store

import (
	"quitclaim/api"
	"quitclaim/bundle"
	"quitclaim/journal"
	"quitclaim/keytree"
	"quitclaim/pack"
	"quitclaim/patch"
	"quitclaim/state"
)

// reading is a store whose frames are read, and the patches of its bundles. They become a set at the end: one for each bundle would be made of all patches ahead again and again.
type reading struct {
	store   *Store
	patches []api.Patch
	ids     map[api.Id]bool
}

// read is the store that frames are, but without a log; false: they are none's.
func read(l []journal.Frame) (*Store, bool) {
	x := &reading{ids: map[api.Id]bool{}}
	for i, f := range l {
		if (f.Kind == startKind) != (i == 0) || !x.frame(f) {
			return nil, false
		}
	}
	set, e := state.New(x.patches)
	if e != api.OK {
		return nil, false
	}
	x.store.set, x.store.frames = set, len(l)
	return x.store, true
}

// frame reads what a frame says; false: a store's doesn't say that.
func (x *reading) frame(f journal.Frame) bool {
	r := pack.New(f.Payload)
	switch f.Kind {
	case startKind:
		x.start(r)
	case bundleKind:
		return x.bundle(f.Payload)
	case counterKind:
		x.counter(r)
	default:
		return false
	}
	return r.End() == api.OK
}

// start reads how keys are made, and the root key.
func (x *reading) start(r *pack.Reader) {
	par := api.Params{Bits: r.Num(), Height: r.Num()}
	x.store = fresh(par, r.Id())
	if !keytree.Right(par) {
		r.Fail(api.ErrForm)
	}
}

// counter reads a counter.
func (x *reading) counter(r *pack.Reader) {
	key, n := r.Id(), r.Num()
	if !x.store.above(key, n) {
		r.Fail(api.ErrForm)
	}
	x.store.counters[key] = n
}

// bundle reads a bundle, whose patches hang on one another, and on those ahead.
func (x *reading) bundle(s string) bool {
	l, e := bundle.Parse(s)
	if e != api.OK || len(l) == 0 {
		return false
	}
	for _, p := range l {
		a, _ := patch.Id(p)
		if x.ids[a] {
			return false
		}
		x.ids[a] = true
	}
	for _, p := range l {
		for _, a := range p.Deps {
			if !x.ids[a] {
				return false
			}
		}
	}
	x.patches = append(x.patches, l...)
	return true
}
