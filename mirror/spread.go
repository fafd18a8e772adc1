package mirror

import (
	"slices"
	"sync"

	"mirror/api"
)

// Spread replays a batch over several mirrors at once (P13).
func Spread(b []byte, mirrors []*Mirror) ([]error, map[api.Kind]int, error) {
	if !canSpread(mirrors) {
		return nil, nil, api.ErrMirrors
	}
	told := make([]error, len(mirrors))
	counts := map[api.Kind]int{}
	var guard sync.Mutex // of counts; of told each goroutine has a place of its own
	var all sync.WaitGroup
	for i, m := range mirrors {
		all.Add(1)
		go func() {
			defer all.Done()
			told[i] = m.Replay(b, 0)
			kind, _ := api.Told(told[i])
			guard.Lock()
			defer guard.Unlock()
			counts[kind]++
		}()
	}
	all.Wait()
	return told, counts, nil
}

// canSpread is whether the mirrors are not too many, and each one is there, once.
func canSpread(mirrors []*Mirror) bool {
	if len(mirrors) > api.MaxMirrors {
		return false
	}
	for i, m := range mirrors {
		if m == nil || slices.Contains(mirrors[:i], m) {
			return false
		}
	}
	return true
}
