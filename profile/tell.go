package profile

import (
	"tithebarn/api"
	"tithebarn/generations"
)

// Generations tells the generations.
func (p *Profile) Generations() []int64 {
	if p == nil {
		return nil
	}
	return p.base.Generations()
}

// Current tells the current generation.
func (p *Profile) Current() (int64, bool) {
	if p == nil {
		return 0, false
	}
	return p.base.Current()
}

// Load tells a generation.
func (p *Profile) Load(n int64) (generations.Gen, api.Errno) {
	if p == nil {
		return generations.Gen{}, api.ErrNil
	}
	return generations.Load(p.base, n)
}

// Objects tells the valid objects.
func (p *Profile) Objects() []string {
	if p == nil {
		return nil
	}
	return p.base.Objects()
}

// Refs tells what an object refers to.
func (p *Profile) Refs(object string) []string {
	if p == nil {
		return nil
	}
	return p.base.Refs(object)
}

// Tree tells an object's tree.
func (p *Profile) Tree(object string) (api.Node, api.Errno) {
	if p == nil {
		return api.Node{}, api.ErrNil
	}
	return p.store.Get(object)
}

// Roots tells the roots, each with its object.
func (p *Profile) Roots() [][2]string {
	if p == nil {
		return nil
	}
	return p.base.Roots()
}
