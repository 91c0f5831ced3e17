package impl

import (
	"testing"
	"time"
)

// The lock is tested from inside: a member who steps while another one does is seldom seen in a result.
func TestStepsWaitForLock(t *testing.T) {
	f := &ford{digits: []byte("9")}
	done := make(chan bool)
	f.lock.Lock()
	go func() { done <- f.stepOn(1) }()
	select {
	case <-done:
		t.Error("a step is made while the stones are locked")
	case <-time.After(50 * time.Millisecond):
		f.lock.Unlock()
		if !<-done || string(f.digits) != "8" {
			t.Error("a step is not made behind the lock:", string(f.digits))
		}
	}
}
