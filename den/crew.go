package den

import (
	"cmp"
	"slices"
	"sync"

	"kiln/api"
	"kiln/graph"
)

// job: a task to be run. Its inputs come with it: workers look at nothing that is written to meanwhile.
type job struct {
	place int
	task  api.Task
	ins   [][]byte
}

// result: what came of a job.
type result struct {
	place  int
	values [][]byte
	err    api.Errno
}

// outcome is what is noted of a result; the zero one: nothing has come.
type outcome struct {
	err   api.Errno
	bytes int // of all outputs
}

// crew: workers at a bench, and the one that hands out the tasks and takes what came of them.
type crew struct {
	*bench
	done <-chan struct{} // closed by whoever asks, to stop all
	over chan struct{}   // closed when nothing is handed out or taken any more
	hand chan job
	take chan result
	rank []int     // by a task's place in the list: its place in the order
	came []outcome // by a task's place in the list
	end  int       // a place in the order: whatever comes, no task behind it is reached
}

// newCrew is one that has run no task.
func newCrew(b *bench, done <-chan struct{}) *crew {
	c := &crew{
		bench: b,
		done:  done,
		over:  make(chan struct{}),
		hand:  make(chan job),
		take:  make(chan result),
		rank:  make([]int, len(b.tasks)),
		came:  make([]outcome, len(b.tasks)),
		end:   len(b.tasks),
	}
	for rank, place := range b.order {
		c.rank[place] = rank
	}
	return c
}

// runAll runs the tasks, level by level; it tells whether nobody stopped it.
func (c *crew) runAll(workers int) bool {
	var all sync.WaitGroup
	defer all.Wait()
	defer close(c.over)
	for range workers {
		all.Add(1)
		go func() {
			defer all.Done()
			c.work()
		}()
	}
	levels, _, _ := graph.Levels(c.tasks) // Plan has seen that there is no cycle
	for _, level := range levels {
		if !c.level(level) {
			return false
		}
	}
	return true
}

// work runs what is handed out, one task behind the other, until all is over or stopped.
func (c *crew) work() {
	for {
		select {
		case j := <-c.hand:
			values, _, err := Make(j.task, j.ins)
			select {
			case c.take <- result{j.place, values, err}:
			case <-c.over:
				return
			case <-c.done:
				return
			}
		case <-c.over:
			return
		case <-c.done:
			return
		}
	}
}

// level has the tasks of a level run, those that come first in the order first; it tells whether nobody stopped it.
func (c *crew) level(places []int) bool {
	slices.SortFunc(places, func(i, j int) int { return cmp.Compare(c.rank[i], c.rank[j]) })
	for underWay := 0; ; {
		hand, next := c.next(places)
		if hand == nil && underWay == 0 {
			return true
		}
		select {
		case hand <- next:
			places = places[1:]
			underWay++
		case r := <-c.take:
			underWay--
			c.note(r)
		case <-c.done:
			return false
		}
	}
}

// next is the first of these tasks, and where to hand it out: nowhere, if none of them is reached.
func (c *crew) next(places []int) (chan<- job, job) {
	if len(places) == 0 || c.rank[places[0]] > c.end {
		return nil, job{}
	}
	place := places[0]
	return c.hand, job{place, c.tasks[place], c.inputs(place)}
}

// note takes what came of a task.
func (c *crew) note(r result) {
	c.lay(r.place, r.values)
	c.came[r.place].err = r.err
	for _, value := range r.values {
		c.came[r.place].bytes += len(value)
	}
	c.bound()
}

// bound finds how far the order can be gone through: to a task that failed, or to one with which there are too many bytes already, and not behind it. Those ahead of it must be run all the same, in whatever level: one of them may fail too, and the first one counts. The outputs of those behind are let go of.
func (c *crew) bound() {
	bytes := 0
	for rank, place := range c.order {
		bytes += c.came[place].bytes
		switch {
		case rank > c.end:
			c.forget(place)
		case c.came[place].err != api.OK || bytes > api.MaxTotal:
			c.end = rank
		}
	}
}

// forget lets go of the outputs of a task.
func (c *crew) forget(place int) {
	for _, out := range c.tasks[place].Out {
		delete(c.data, out.Path)
	}
}

// errOf tells what came of a task.
func (c *crew) errOf(place int) api.Errno {
	return c.came[place].err
}

// closed tells whether a channel on which nobody sends is closed.
func closed(done <-chan struct{}) bool {
	select {
	case <-done:
		return true
	default:
		return false
	}
}
