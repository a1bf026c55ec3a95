// Package locks knows by whom the locks of refs are held.
package locks

import "sync"

// Locks are locks by names; at first nobody holds one.
type Locks struct {
	mutex   sync.Mutex
	holders map[string]int
}

// Take gives the lock of that name to a holder; false (and nothing happens), if it is held.
func (l *Locks) Take(name string, holder int) bool {
	l.mutex.Lock()
	defer l.mutex.Unlock()
	if _, held := l.holders[name]; held {
		return false
	}
	if l.holders == nil {
		l.holders = map[string]int{}
	}
	l.holders[name] = holder
	return true
}

// GiveBack frees all locks of a holder at once.
func (l *Locks) GiveBack(holder int) {
	l.mutex.Lock()
	defer l.mutex.Unlock()
	for name, other := range l.holders {
		if other == holder {
			delete(l.holders, name)
		}
	}
}
