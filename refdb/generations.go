package refdb

import (
	"tithebarn/api"
	"tithebarn/kv"
)

// Keep keeps a generation.
func (b *Base) Keep(n int64, value []byte, current bool) api.Errno {
	if b == nil {
		return api.ErrNil
	}
	if n < 1 || n > MaxGen {
		return api.ErrArg
	}
	if len(value) > kv.MaxValue {
		return api.ErrLimit
	}
	batch := []kv.Op{{Key: genKey(n), Value: value}}
	if current {
		batch = append(batch, kv.Op{Key: currentKey, Value: number(n)})
	}
	return b.Apply(batch)
}

// there: is there such a generation?
func (b *Base) there(n int64) bool {
	_, ok := b.Generation(n)
	return ok
}

// Forget takes a generation away.
func (b *Base) Forget(n int64) api.Errno {
	if b == nil {
		return api.ErrNil
	}
	if !b.there(n) {
		return api.ErrGen
	}
	if at, ok := b.Current(); ok && at == n {
		return api.ErrCurrent
	}
	return b.Apply([]kv.Op{{Key: genKey(n), Gone: true}})
}

// Switch makes a generation the current one.
func (b *Base) Switch(n int64) api.Errno {
	if b == nil {
		return api.ErrNil
	}
	if !b.there(n) {
		return api.ErrGen
	}
	return b.Apply([]kv.Op{{Key: currentKey, Value: number(n)}})
}

// Generations tells the generations.
func (b *Base) Generations() []int64 {
	var l []int64
	for _, tail := range b.tails(genPrefix) {
		n, _ := readNumber([]byte(tail))
		l = append(l, n)
	}
	return l
}

// Generation tells a generation's bytes.
func (b *Base) Generation(n int64) ([]byte, bool) {
	if b == nil {
		return nil, false
	}
	return b.Get(genKey(n))
}

// Current tells the current generation.
func (b *Base) Current() (int64, bool) {
	if b == nil {
		return 0, false
	}
	value, ok := b.Get(currentKey)
	if !ok {
		return 0, false
	}
	return readNumber(value)
}
