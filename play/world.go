package play

import (
	"kindred/api"
	"kindred/disk"
	"kindred/engine"
	"kindred/follow"
	"kindred/front"
	"kindred/group"
	"kindred/inspect"
	"kindred/seal"
)

// followerRoom is how many bytes the follower's disk may have.
const followerRoom = 16777216

// world is what a script is played with.
type world struct {
	disk     *disk.Disk
	engine   *engine.Engine // nil: there is none
	own      *disk.Disk     // the follower's
	follower *follow.Follower
}

// deed is what a step of a kind does.
type deed func(s api.Step) api.Answer

// playOn plays steps on an empty disk.
func playOn(d *disk.Disk, steps []api.Step) []api.Answer {
	w := &world{disk: d, own: disk.New(followerRoom)}
	deeds := w.deeds()
	answers := make([]api.Answer, len(steps))
	for i, s := range steps {
		if do, there := deeds[s.Kind]; there {
			answers[i] = do(s)
		}
	}
	return answers
}

// deeds are those of all kinds.
func (w *world) deeds() map[int]deed {
	all := w.withoutEngine()
	for kind, do := range w.withEngine() {
		all[kind] = func(s api.Step) api.Answer {
			if w.engine == nil {
				return answer(api.ErrClosed)
			}
			return do(s)
		}
	}
	return all
}

// withEngine are the deeds that want an engine.
func (w *world) withEngine() map[int]deed {
	return map[int]deed{
		api.StepInsert: func(s api.Step) api.Answer { return answer(w.engine.Insert(at(s.N, 0), at(s.S, 0))) },
		api.StepDelete: func(s api.Step) api.Answer { return answer(w.engine.Delete(at(s.N, 0))) },
		api.StepGet: func(s api.Step) api.Answer {
			code, e := w.engine.Get(at(s.N, 0))
			return answerText(e, code)
		},
		api.StepTop: func(s api.Step) api.Answer {
			hits, x, e := w.engine.TopK(at(s.S, 0), at(s.N, 0))
			return answerHits(e, hits, x.Shells, x.Steps, x.Codes, x.Pairs)
		},
		api.StepRadius: func(s api.Step) api.Answer {
			hits, x, e := w.engine.Radius(at(s.S, 0), at(s.N, 0))
			return answerHits(e, hits, x.Shells, x.Steps, x.Codes, x.Pairs)
		},
		api.StepCount: func(api.Step) api.Answer {
			return answer(api.OK, w.engine.Count(), w.engine.Codes(), w.engine.Seq(), w.engine.Synced())
		},
		api.StepSync: func(api.Step) api.Answer { return answer(w.engine.Sync()) },
		api.StepCompact: func(api.Step) api.Answer {
			idle, e := w.engine.CompactStep()
			if idle {
				return answer(e, 1)
			}
			return answer(e, 0)
		},
		api.StepClose:  func(api.Step) api.Answer { return answer(w.engine.Close()) },
		api.StepGroups: func(s api.Step) api.Answer { return answerGroups(group.Find(w.engine, at(s.N, 0), at(s.N, 1))) },
		api.StepJoin:   func(s api.Step) api.Answer { return answerNear(group.Near(w.engine, at(s.N, 0))) },
		api.StepSend:   func(s api.Step) api.Answer { return w.send(at(s.N, 0)) },
		api.StepAsk: func(s api.Step) api.Answer {
			return answerText(api.OK, front.New(w.engine).Handle(at(s.S, 0)))
		},
	}
}

// withoutEngine are the deeds that are done whether there is an engine or not.
func (w *world) withoutEngine() map[int]deed {
	return map[int]deed{
		api.StepCreate: func(s api.Step) api.Answer {
			made, e := engine.Create(w.disk, s.Opts)
			if e != api.OK {
				return answer(e)
			}
			w.engine = made
			return answer(api.OK)
		},
		api.StepOpen: func(api.Step) api.Answer {
			opened, e := engine.Open(w.disk)
			if e != api.OK {
				return answer(e)
			}
			w.engine = opened
			return answer(api.OK, opened.Count())
		},
		api.StepArm: func(s api.Step) api.Answer {
			w.disk.Arm(at(s.N, 0), at(s.N, 1) != 0)
			return answer(api.OK)
		},
		api.StepCrash: func(s api.Step) api.Answer {
			w.disk.Crash(cutsOf(s))
			return answer(api.OK)
		},
		api.StepImage: func(api.Step) api.Answer { return answer(api.OK, int(seal.Sum(w.disk.Image()))) },
		api.StepRoom: func(s api.Step) api.Answer {
			return w.exchange(disk.Open(w.disk.Image(), at(s.N, 0)))
		},
		api.StepInspect: func(api.Step) api.Answer { return answerDamages(inspect.Check(w.disk)) },
		api.StepRepair:  func(api.Step) api.Answer { return answerDamages(inspect.Repair(w.disk)) },
		api.StepFollow: func(s api.Step) api.Answer {
			if w.follower == nil {
				return answer(api.ErrEmpty)
			}
			hits, e := w.follower.TopK(at(s.S, 0), at(s.N, 0))
			return answerHits(e, hits, w.follower.Number(), w.follower.Count())
		},
		api.StepSpoil: func(s api.Step) api.Answer {
			return w.exchange(spoilt(w.disk, at(s.S, 0), at(s.N, 0), byte(at(s.N, 1))))
		},
	}
}

// exchange puts another disk in the disk's place, if there is one. An engine goes on over the one that it had.
func (w *world) exchange(d *disk.Disk, e api.Errno) api.Answer {
	if e == api.OK {
		w.disk = d
	}
	return answer(e)
}

// send sends the follower what it wants; there is a follower from then on.
func (w *world) send(most int) api.Answer {
	if w.follower == nil {
		f, e := follow.Open(w.own, w.engine.Opts())
		if e != api.OK {
			return answer(e)
		}
		w.follower = f
	}
	b, e := follow.Offer(w.engine, w.follower.Number(), w.follower.From(), most)
	if e != api.OK {
		return answer(e)
	}
	e = w.follower.Accept(b)
	return answer(e, b.Kind, w.follower.Number())
}
