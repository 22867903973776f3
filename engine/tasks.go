package engine

import (
	"kiln/api"
	"kiln/den"
	"kiln/journal"
	"kiln/store"
)

// planning is the phase in which it is found out what tasks there are.
type planning struct {
	*build
}

func (p planning) next() phase {
	tasks, order, fault := den.Plan(p.manifest, p.src)
	if fault.Err != api.OK {
		return p.end(fault)
	}
	p.tasks, p.left, p.bench = tasks, order, newBench(p.src)
	p.manifest, p.src = "", nil
	return choosing{p.build}
}

// choosing is the phase in which the next task comes: what was made of it before is used, or it is run.
type choosing struct {
	*build
}

func (p choosing) next() phase {
	if len(p.left) == 0 {
		return &merging{build: p.build}
	}
	task := p.tasks[p.left[0]]
	p.left = p.left[1:]
	print := p.print(task)
	if refs, values := p.reuse(print, len(task.Out)); refs != nil {
		if err := p.join(task, values); err != api.OK {
			return p.end(api.Fault{Err: err, Task: task.Name})
		}
		p.done(task, print, refs, values)
		return p
	}
	p.engine.runs++
	values, _, err := den.Make(task, p.inputs(task))
	if err == api.OK {
		err = p.join(task, values)
	}
	if err != api.OK {
		return p.end(api.Fault{Err: err, Task: task.Name})
	}
	return &putting{build: p.build, values: values, then: func(refs []api.Ref) phase {
		p.done(task, print, refs, values)
		return &recording{build: p.build, print: print, refs: refs}
	}}
}

// reuse uses what is kept of a print, or else what the memo has: its outputs, if all are whole.
func (b *build) reuse(print api.Key, outs int) ([]api.Ref, [][]byte) {
	e := b.engine
	record, kept := e.kept.find(print)
	refs := record.Refs
	if !kept {
		refs = e.current.memo[print]
	}
	if len(refs) != outs {
		return nil, nil
	}
	values := b.use(refs)
	if values == nil {
		return nil, nil
	}
	if kept {
		b.needs[record.Num] = struct{}{}
	}
	return refs, values
}

// use uses known chains and reads them; none, if one is not whole: then it uses none of them.
func (b *build) use(refs []api.Ref) [][]byte {
	e := b.engine
	for i, ref := range refs {
		if e.store.Use(ref) != api.OK {
			e.drop(refs[:i])
			return nil
		}
	}
	var values [][]byte
	for _, ref := range refs {
		value, _, err := e.store.Get(ref)
		if err != api.OK {
			e.drop(refs)
			return nil
		}
		values = append(values, value)
	}
	b.used = append(b.used, refs...)
	return values
}

// join lets the outputs of a task join those of the tasks ahead.
func (b *build) join(t api.Task, values [][]byte) api.Errno {
	for i, out := range t.Out {
		if err := b.tally.Add(out.Path, len(values[i])); err != api.OK {
			return err
		}
	}
	return api.OK
}

// done is told where the outputs of a task lie.
func (b *build) done(t api.Task, print api.Key, refs []api.Ref, values [][]byte) {
	b.memo[print] = refs
	for i, out := range t.Out {
		b.lay(out.Path, values[i], refs[i].Hash)
		b.outs = append(b.outs, output{path: out.Path, ref: refs[i]})
	}
}

// putting is the phase in which byte strings are put, one behind the other, and flushed.
type putting struct {
	*build
	values [][]byte
	put    *store.Put // nil: that of the next one is not begun
	refs   []api.Ref  // of those that are put
	then   func(refs []api.Ref) phase
}

func (p *putting) next() phase {
	if len(p.refs) == len(p.values) {
		p.engine.disk.Flush()
		return p.then(p.refs)
	}
	if p.put == nil {
		p.put, _ = p.engine.store.Put(p.values[len(p.refs)]) // never refused: neither a value nor a memo is too long
	}
	ended, err := p.step(p.engine, p.put)
	if err != api.OK {
		return p.fail(err)
	}
	if ended {
		p.hold(p.put.Ref(), p.put.Wrote())
		p.refs = append(p.refs, p.put.Ref())
		p.put = nil
	}
	return p
}

// recording is the phase in which a task's record is written and flushed, behind a root that makes room for it where the journal is full.
type recording struct {
	*build
	print  api.Key
	refs   []api.Ref
	writer *journal.Writer // once the record is written
}

func (p *recording) next() phase {
	e := p.engine
	if p.writer != nil {
		p.writer.Step()
		return choosing{p.build}
	}
	if e.journal.Full() {
		s := e.slot
		s.Start = e.journal.Next() - s.Journal/2
		return p.turn(p, s, func() phase { return p })
	}
	w, err := e.journal.Add(p.print, p.refs...)
	if err != api.OK {
		return p.fail(err)
	}
	w.Step()
	p.writer = w
	p.build.stage(api.Record{Num: w.Num(), Print: p.print, Refs: p.refs})
	return p
}
